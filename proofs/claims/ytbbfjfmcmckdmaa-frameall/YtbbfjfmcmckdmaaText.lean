/- The walks of octet.Text and octet.TakeText; what was written is read. No condition but that what is given can be read and is no longer than 2^40. -/
import Derived.Test.YtbbfjfmcmckdmaaVar
import Derived.Test.YtbbfjfmcmckdmaaTake
namespace Go.Proofs.Ytbbfjfmcmckdmaa
open Go.RowKit

set_option maxRecDepth 100000 in
set_option maxHeartbeats 400000 in
theorem text_any (ao : Option Addr) (n cap : Nat) (bs : List UInt8) (so : Option Addr) (m scap : Nat) (ss : List UInt8) (w : World) (h : Rd w ao n cap bs) (hs : Rd w so m scap ss) (hn : n ≤ 1099511627776) (hm : m ≤ 1099511627776) :
    Calls Try.prog 27 #[.slice ao n cap, .slice so m scap] w fun e w' => ∃ g cap', e = .returned (.slice (some ⟨g, 0, none⟩) (n + (Lib.uvarint m).length + m) cap') ∧ Own 5 w.heap.size w' g (n + (Lib.uvarint m).length + m) cap' (bs ++ Lib.uvarint m ++ ss) ∧ Below w.heap.size w w' := by
  obtain ⟨i5, hi, hz0, hz1, hz2⟩ := info_parts Try.info5
  have hlen := Lib.uvarint_length64 (x := m) (by omega)
  go_enter Try.func27, Try.ntmps27
  go_wp2_with fail
  refine (var_any ao n cap bs m w h hn (by omega)).mono ?_
  rintro e w1 ⟨g, cap1, rfl, ho, hb⟩
  have hs1 := hs.below hb (Nat.le_refl _)
  have hsz := hb.size
  go_wp2_with (at_builtin; refine wpList_append_bytes (P := Try.prog) _ (by rfl) _ _ 28 28 (by rfl) 5 i5 Try.underlying28 hi hz0 hz1 hz2 w.heap.size (by omega) (by rfl) ho.app ss (by rfl) (hs1.src _ Try.underlying28) (.inr ⟨g, rfl, ho⟩) (by omega) ?_; intro g2 cap2 w2 ho2 hb2 hg2 hw2)
  go_ret
  exact ⟨g2, cap2, rfl, ho2, hb.trans hb2⟩

theorem toU8 (x : Nat) (h : x < 256) : x.toUInt8.toNat = x := by simp; omega

/-- What was written is read, whatever stands behind. -/
theorem tv_uv (x : Nat) : ∀ (i acc : Nat) (rest : List UInt8), x * 2 ^ (7 * i) < 2 ^ 64 → (0 < i → 0 < x) → i ≤ 9 →
    tv i acc (Lib.uvarint x ++ rest) = (acc + x * 2 ^ (7 * i), i + (Lib.uvarint x).length, 0) := by
  induction x using Nat.strongRecOn with
  | _ x ih =>
    intro i acc rest hx hi h9
    have hp9 : i = 9 → x ≤ 1 := fun h => by subst h; omega
    by_cases hs : x < 128
    · rw [Lib.uvarint_small hs]
      have hc := toU8 x (by omega)
      simp only [List.cons_append, List.nil_append, List.length_cons, List.length_nil]
      rw [tv, hc, if_neg (by omega), if_neg (by omega), if_neg (by omega)]
    · rw [Lib.uvarint_big (by omega)]
      have hc := toU8 (x % 128 + 128) (by omega)
      simp only [List.cons_append, List.length_cons]
      have hpw : 2 ^ (7 * (i + 1)) = 128 * 2 ^ (7 * i) := by rw [Nat.mul_add, Nat.pow_add, Nat.mul_comm]
      have hdm : x = 128 * (x / 128) + x % 128 := by omega
      have hle : x / 128 * (128 * 2 ^ (7 * i)) + x % 128 * 2 ^ (7 * i) = x * 2 ^ (7 * i) := by
        rw [← Nat.mul_assoc, ← Nat.add_mul]
        congr 1
        omega
      rw [tv, hc, if_neg (by omega), if_pos (by omega), ih (x / 128) (by omega) (i + 1) _ rest (by rw [hpw]; omega) (by omega) (by omega), hpw]
      have : (x % 128 + 128) % 128 = x % 128 := by omega
      rw [this]
      simp only [Prod.mk.injEq, and_true]
      refine ⟨by omega, by omega⟩

theorem tv_back (x : Nat) (hx : x < 2 ^ 64) (rest : List UInt8) : tv 0 0 (Lib.uvarint x ++ rest) = (x, (Lib.uvarint x).length, 0) := by
  have := tv_uv x 0 0 rest (by simpa using hx) (by omega) (by omega)
  simpa using this

theorem tv_bounds (l : List UInt8) : ∀ (i acc : Nat), i ≤ 9 → acc < 2 ^ (7 * i) → (tv i acc l).1 < 2 ^ 64 ∧ (tv i acc l).2.1 ≤ i + l.length ∧ (tv i acc l).2.2 ≤ 5 := by
  induction l with
  | nil => intro i acc _ _; simp [tv]
  | cons c r ih =>
    intro i acc hi hacc
    have hc : c.toNat < 256 := c.toNat_lt
    rw [tv]
    by_cases h1 : i = 9 ∧ 1 < c.toNat
    · rw [if_pos h1]; simp
    · rw [if_neg h1]
      by_cases h2 : 128 ≤ c.toNat
      · rw [if_pos h2]
        have := ih (i + 1) _ (by omega) (acc_step i acc c.toNat hacc)
        simp only [List.length_cons]
        omega
      · rw [if_neg h2]
        by_cases h3 : c.toNat = 0 ∧ 0 < i
        · rw [if_pos h3]; simp
        · rw [if_neg h3]
          simp only [List.length_cons]
          refine ⟨?_, by omega, by omega⟩
          by_cases h9 : i = 9
          · subst h9
            omega
          · have h4 := acc_step i acc c.toNat hacc
            rw [show c.toNat % 128 = c.toNat by omega] at h4
            have h5 : 2 ^ (7 * (i + 1)) ≤ 2 ^ 63 := Nat.pow_le_pow_right (by decide) (by omega)
            omega

/-- What TakeText tells: the text, how many bytes it has with its length, the error's number. -/
def tt (bs : List UInt8) (most : Int) : List UInt8 × Nat × Nat :=
  if (tv 0 0 bs).2.2 ≠ 0 then ([], 0, (tv 0 0 bs).2.2)
  else if most.toNat < (tv 0 0 bs).1 then ([], 0, 3)
  else if bs.length - (tv 0 0 bs).2.1 < (tv 0 0 bs).1 then ([], 0, 2)
  else ((bs.drop (tv 0 0 bs).2.1).take (tv 0 0 bs).1, (tv 0 0 bs).2.1 + (tv 0 0 bs).1, 0)

theorem Try.info5t : (Try.prog.info? 5).map (fun i => (i.zero, i.size, i.bytes)) = some (some (.int .u8 0), 1, 1) := by kernel_rfl

theorem takeVar_at {ao : Option Addr} {n cap : Nat} {bs : List UInt8} {w : World} (h : Rd w ao n cap bs) {v hd er : Nat} (hr : tv 0 0 bs = (v, hd, er)) :
    Calls Try.prog 31 #[.slice ao n cap] w fun e w' => e = .returned (.tuple #[.int .u64 (v : Int), .int .i64 (hd : Int), .int .i64 (er : Int)]) ∧ w = w' := by
  have := takeVar_any ao n cap bs w h
  rw [hr] at this
  exact this

theorem res_nil (B : Nat) (w : World) : Res 5 B w none 0 0 [] := ⟨Rd.none' w none, .inl ⟨rfl, rfl, rfl⟩⟩

set_option maxRecDepth 100000 in
set_option maxHeartbeats 400000 in
theorem takeText_any (ao : Option Addr) (n cap : Nat) (bs : List UInt8) (most : Int) (w : World) (h : Rd w ao n cap bs) (hn : n ≤ 1099511627776) (hm0 : -9223372036854775808 ≤ most) (hm1 : most ≤ 9223372036854775807) :
    Calls Try.prog 28 #[.slice ao n cap, .int .i64 most] w fun e w' => ∃ ao' cap', e = .returned (.tuple #[.slice ao' (tt bs most).1.length cap', .int .i64 ((tt bs most).2.1 : Int), .int .i64 ((tt bs most).2.2 : Int)]) ∧
      Res 5 w.heap.size w' ao' (tt bs most).1.length cap' (tt bs most).1 ∧ Below w.heap.size w w' := by
  obtain ⟨i5, hi, hz0, hz1, hz2⟩ := info_parts Try.info5t
  have hle := h.le
  have hmax := h.max
  have hlen := h.len
  have hbd := tv_bounds bs 0 0 (by omega) (by decide)
  obtain ⟨v, hd, er, hr⟩ : ∃ v hd er, tv 0 0 bs = (v, hd, er) := ⟨_, _, _, rfl⟩
  have htt : tt bs most = if er ≠ 0 then ([], 0, er) else if most.toNat < v then ([], 0, 3) else if bs.length - hd < v then ([], 0, 2) else ((bs.drop hd).take v, hd + v, 0) := by unfold tt; rw [hr]
  generalize tt bs most = T at *
  rw [hr] at hbd
  simp only at hbd
  obtain ⟨hv, hhd, her⟩ := hbd
  have HR : Hid (tv 0 0 bs = (v, hd, er)) := hr
  have HL : Hid (bs.length = n) := hlen
  rw [hlen] at hhd htt
  clear hr hlen
  unfold maxLen at hmax
  by_cases c1 : er = 0
  · subst c1
    rw [if_neg (by simp)] at htt
    obtain ⟨M, hM0, hM, hMx⟩ : ∃ M : Nat, M ≤ 9223372036854775807 ∧ most.toNat = M ∧ ((0 ≤ most ∧ most = (M : Int)) ∨ (most < 0 ∧ M = 0)) := ⟨most.toNat, by omega, rfl, by omega⟩
    rw [hM] at htt
    clear hM
    by_cases c2 : M < v
    · rw [if_pos c2] at htt
      subst htt
      rcases hMx with ⟨_, rfl⟩ | ⟨hneg, rfl⟩
      all_goals
        go_enter Try.func28, Try.ntmps28
        go_wp2_with fail
        refine (takeVar_at h HR.out).mono ?_
        rintro e w1 ⟨rfl, rfl⟩
        go_wp2
        go_ret3
        exact ⟨none, 0, rfl, res_nil _ _, Below.refl _ _⟩
    · rw [if_neg c2] at htt
      by_cases c3 : n - hd < v
      · rw [if_pos c3] at htt
        subst htt
        rcases hMx with ⟨_, rfl⟩ | ⟨hneg, rfl⟩
        · go_enter Try.func28, Try.ntmps28
          go_wp2_with fail
          refine (takeVar_at h HR.out).mono ?_
          rintro e w1 ⟨rfl, rfl⟩
          go_wp2
          go_ret3
          exact ⟨none, 0, rfl, res_nil _ _, Below.refl _ _⟩
        · omega
      · rw [if_neg c3] at htt
        by_cases c4 : v = 0
        · subst c4
          simp only [List.take_zero, Nat.add_zero] at htt
          subst htt
          rcases hMx with ⟨_, rfl⟩ | ⟨hneg, rfl⟩
          all_goals
            go_enter Try.func28, Try.ntmps28
            go_wp2_with fail
            refine (takeVar_at h HR.out).mono ?_
            rintro e w1 ⟨rfl, rfl⟩
            go_wp2_with (at_builtin; refine wpList_append_none (P := Try.prog) _ (by rfl) _ _ 28 28 (by rfl) 5 5 i5 Try.underlying28 Try.underlying28 hi (by rfl) (by rfl) ?_)
            go_ret3
            exact ⟨none, 0, by simp, res_nil _ _, Below.refl _ _⟩
        · rcases hMx with ⟨_, rfl⟩ | ⟨hneg, rfl⟩
          · obtain ⟨b, off, rfl, hk0, hck⟩ := h.at (show 0 < n by omega)
            have hcut := h.cut w hd (hd + v - hd) (hd + v - hd) (by omega) (Nat.le_refl _) (by unfold maxLen; omega)
            have htl : T.1.length = v := by rw [htt]; simp [HL.out]; omega
            have HT : Hid (T = ((bs.drop hd).take v, hd + v, 0)) := htt
            have HTL : Hid (T.1.length = v) := htl
            clear htt htl hck hk0
            go_enter Try.func28, Try.ntmps28
            go_wp2_with fail
            refine (takeVar_at h HR.out).mono ?_
            rintro e w1 ⟨rfl, rfl⟩
            go_wp2_with (at_builtin; refine wpList_append_bytes (P := Try.prog) _ (by rfl) _ _ 28 28 (by rfl) 5 i5 Try.underlying28 hi hz0 hz1 hz2 w.heap.size (Nat.le_refl _) (by rfl) (App.nil 5 _ _) ((bs.drop hd).take (hd + v - hd)) (by rfl) (hcut.src _ Try.underlying28) (.inl (by omega)) (by omega) ?_; intro g1 cap1 w1 ho1 hb1 hg1 hw1)
            go_ret3
            rw [HTL.out]
            refine ⟨some ⟨g1, 0, none⟩, cap1, by rw [HT.out]; simp, ?_, hb1⟩
            rw [HT.out]
            simpa using ho1.res
          · omega
  · rw [if_pos c1] at htt
    subst htt
    go_enter Try.func28, Try.ntmps28
    go_wp2_with fail
    refine (takeVar_at h HR.out).mono ?_
    rintro e w1 ⟨rfl, rfl⟩
    go_wp2
    go_ret3
    exact ⟨none, 0, rfl, res_nil _ _, Below.refl _ _⟩

theorem tt_back (ss rs : List UInt8) (h : ss.length < 18446744073709551616) (most : Int) (hm : (ss.length : Int) ≤ most) : tt (Lib.uvarint ss.length ++ ss ++ rs) most = (ss, (Lib.uvarint ss.length).length + ss.length, 0) := by
  unfold tt
  rw [List.append_assoc, tv_back ss.length h (ss ++ rs)]
  simp only
  rw [if_neg (by simp), if_neg (by omega), if_neg (by simp)]
  simp

theorem takeText_at {ao : Option Addr} {n cap : Nat} {bs : List UInt8} {most : Int} {w : World} (h : Rd w ao n cap bs) (hn : n ≤ 1099511627776) (hm0 : -9223372036854775808 ≤ most) (hm1 : most ≤ 9223372036854775807)
    {l : List UInt8} {k er : Nat} (hr : tt bs most = (l, k, er)) :
    Calls Try.prog 28 #[.slice ao n cap, .int .i64 most] w fun e w' => ∃ ao' cap', e = .returned (.tuple #[.slice ao' l.length cap', .int .i64 (k : Int), .int .i64 (er : Int)]) ∧
      Res 5 w.heap.size w' ao' l.length cap' l ∧ Below w.heap.size w w' := by
  have := takeText_any ao n cap bs most w h hn hm0 hm1
  rw [hr] at this
  exact this

theorem Res.carry {e : TypeId} {B : Nat} {w w' : World} {ao : Option Addr} {n cap : Nat} {bs : List UInt8} (h : Res e B w ao n cap bs) (hb : ∀ k, B ≤ k → k < w.heap.size → w'.heap[k]? = w.heap[k]?) : Res e B w' ao n cap bs := by
  obtain ⟨h1, h2⟩ := h
  rcases h2 with ⟨rfl, rfl, rfl⟩ | ⟨g, rfl, ho⟩
  · obtain rfl : bs = [] := List.eq_nil_of_length_eq_zero h1.len
    exact ⟨Rd.none' w' none, .inl ⟨rfl, rfl, rfl⟩⟩
  · exact (ho.carry (hb g ho.new ho.lt)).res

/-- 'string(b)' at the program's own types. -/
theorem str_of {w : World} {ao : Option Addr} {n cap : Nat} {bs : List UInt8} (h : Rd w ao n cap bs) : (convert 28 9 (.slice ao n cap)).run Try.prog w = .ok (.string ⟨bs.toArray⟩) w :=
  h.str (P := Try.prog) w (src := 28) (dst := 9) Try.underlying28 Try.underlying5 Try.underlying9
end Go.Proofs.Ytbbfjfmcmckdmaa
