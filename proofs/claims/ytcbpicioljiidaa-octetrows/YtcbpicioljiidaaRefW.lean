/- The walks of the document's own answer to Var, Text and Eight (by division). No condition but that what is given can be read and is no longer than 2^40. -/
import Derived.Test.YtcbpicioljiidaaTwin
namespace Go.Proofs.Ytcbpicioljiidaa
open Go.RowKit

theorem own_empty (B : Nat) (w : World) (hB : B ≤ w.heap.size) : Own 5 B (w.alloc (.cells #[] 5)) w.heap.size 0 0 [] :=
  ⟨rfl, Nat.le_refl _, Nat.zero_le _, hB, _, heap_alloc_new w _, rfl, rfl⟩

set_option maxRecDepth 100000 in
set_option maxHeartbeats 400000 in
theorem rvar_any (ao : Option Addr) (n cap : Nat) (bs : List UInt8) (x : Nat) (w : World) (h : Rd w ao n cap bs) (hn : n ≤ 1099511627776) (hx : x < 18446744073709551616) :
    Calls Try.prog 14 #[.slice ao n cap, .int .u64 (x : Int)] w fun e w' => ∃ g cap', e = .returned (.slice (some ⟨g, 0, none⟩) (n + (Lib.uvarint x).length) cap') ∧ Own 5 w.heap.size w' g (n + (Lib.uvarint x).length) cap' (bs ++ Lib.uvarint x) ∧ Below w.heap.size w w' := by
  obtain ⟨i5, hi, hz0, hz1, hz2⟩ := info_parts Try.info5
  have hlen := Lib.uvarint_length64 hx
  have o0 := own_empty w.heap.size w (Nat.le_refl _)
  have h1 := h.alloc (.cells #[] 5)
  have b0 : Below w.heap.size w (w.alloc (.cells #[] 5)) := (Below.refl _ _).alloc (Nat.le_refl _) _
  go_enter Try.func14, Try.ntmps14
  go_wp2_with (at_builtin; refine wpList_append_bytes (P := Try.prog) _ (by rfl) _ _ 22 22 (by rfl) 5 i5 Try.underlying22 hi hz0 hz1 hz2 w.heap.size (by simp) (by rfl) o0.app bs (by rfl) (h1.src _ Try.underlying22) (.inr ⟨_, rfl, o0⟩) (by omega) ?_; intro g0 cap0 w0 ho0 hb0 hg0 hw0)
  rw [Nat.zero_add, List.nil_append] at ho0
  have b1 := b0.trans hb0
  clear o0 h1 b0 hb0 hg0 hw0
  go_loopw [1, 5] (fun v out wr => ∃ (y : Nat) (ao' : Option Addr) (cap' : Nat) (ks : List UInt8), v = .int .u64 (y : Int) ∧ out = .slice ao' (n + ks.length) cap' ∧ App 5 w.heap.size wr ao' (n + ks.length) cap' (bs ++ ks) ∧ ks ++ Lib.uvarint y = Lib.uvarint x ∧ y ≤ x ∧ Below w.heap.size w wr)
    (fun v _ _ => (intOf v).toNat)
  case atStart => exact ⟨x, some ⟨g0, 0, none⟩, cap0, [], rfl, rfl, by simpa using ho0.app, rfl, Nat.le_refl _, b1⟩
  case round =>
    clear ho0 b1
    obtain ⟨y, ao', cap', ks, rfl, rfl, hA, hk, hy, hb⟩ := hrel
    have hkl : ks.length ≤ 10 := by rw [← hk] at hlen; simp at hlen; omega
    have hsz := hb.size
    have HK : Hid (ks ++ Lib.uvarint y = Lib.uvarint x) := hk
    clear hk hlen
    by_cases hlt : 128 ≤ y
    · go_wp2_with (at_builtin; refine wpList_append_bytes (P := Try.prog) _ (by rfl) _ _ 22 22 (by rfl) 5 i5 Try.underlying22 hi hz0 hz1 hz2 w.heap.size (by simp; omega) (by rfl) (hA.alloc _) [(y % 128 + 128).toUInt8] (by rfl) (src_one _ Try.underlying22 _ _ _ (by simp; omega)) (.inl (by omega)) (by omega) ?_; intro g1 cap1 w1 ho1 hb1 hg1 hw1)
      go_roundw
      case rel =>
        refine ⟨y / 128, some ⟨g1, 0, none⟩, cap1, ks ++ [(y % 128 + 128).toUInt8], by go_num, by simp [Nat.add_assoc], ?_, ?_, by omega, (hb.alloc (by omega) _).trans hb1⟩
        · simpa [List.append_assoc, Nat.add_assoc] using ho1.app
        · rw [List.append_assoc, ← HK.out, Lib.uvarint_big hlt]; rfl
      case measure => simp [intOf]; omega
    · have hsm := Lib.uvarint_small (x := y) (by omega)
      have hux : Lib.uvarint x = ks ++ [y.toUInt8] := by rw [← HK.out, hsm]
      have HUX : Hid (Lib.uvarint x = ks ++ [y.toUInt8]) := hux
      clear hsm hux
      go_wp2_with (at_builtin; refine wpList_append_bytes (P := Try.prog) _ (by rfl) _ _ 22 22 (by rfl) 5 i5 Try.underlying22 hi hz0 hz1 hz2 w.heap.size (by simp; omega) (by rfl) (hA.alloc _) [y.toUInt8] (by rfl) (src_one _ Try.underlying22 _ _ _ (by simp; omega)) (.inl (by omega)) (by omega) ?_; intro g1 cap1 w1 ho1 hb1 hg1 hw1)
      go_ret
      rw [HUX.out]
      refine ⟨g1, cap1, by simp [Nat.add_assoc], by simpa [List.append_assoc, Nat.add_assoc] using ho1, (hb.alloc (by omega) _).trans hb1⟩

set_option maxRecDepth 100000 in
set_option maxHeartbeats 400000 in
theorem rtext_any (ao : Option Addr) (n cap : Nat) (bs : List UInt8) (so : Option Addr) (m scap : Nat) (ss : List UInt8) (w : World) (h : Rd w ao n cap bs) (hs : Rd w so m scap ss) (hn : n ≤ 1099511627776) (hm : m ≤ 1099511627776) :
    Calls Try.prog 15 #[.slice ao n cap, .slice so m scap] w fun e w' => ∃ g cap', e = .returned (.slice (some ⟨g, 0, none⟩) (n + (Lib.uvarint m).length + m) cap') ∧ Own 5 w.heap.size w' g (n + (Lib.uvarint m).length + m) cap' (bs ++ Lib.uvarint m ++ ss) ∧ Below w.heap.size w w' := by
  obtain ⟨i5, hi, hz0, hz1, hz2⟩ := info_parts Try.info5
  have hlen := Lib.uvarint_length64 (x := m) (by omega)
  go_enter Try.func15, Try.ntmps15
  go_wp2_with fail
  refine (rvar_any ao n cap bs m w h hn (by omega)).mono ?_
  rintro e w1 ⟨g, cap1, rfl, ho, hb⟩
  have hs1 := hs.below hb (Nat.le_refl _)
  have hsz := hb.size
  go_wp2_with (at_builtin; refine wpList_append_bytes (P := Try.prog) _ (by rfl) _ _ 22 22 (by rfl) 5 i5 Try.underlying22 hi hz0 hz1 hz2 w.heap.size (by omega) (by rfl) ho.app ss (by rfl) (hs1.src _ Try.underlying22) (.inr ⟨g, rfl, ho⟩) (by omega) ?_; intro g2 cap2 w2 ho2 hb2 hg2 hw2)
  go_ret
  exact ⟨g2, cap2, rfl, ho2, hb.trans hb2⟩

/-- The eight places of the answer, when k of them are laid, from the last on. -/
def rowk (x k : Nat) : List Value := (List.range 8).map fun j => if 8 - k ≤ j then bval ((x / 2 ^ (8 * (7 - j))).toUInt8) else .int .u8 0

theorem rowk_length (x k : Nat) : (rowk x k).length = 8 := by simp [rowk]
theorem rowk_zero (x : Nat) : rowk x 0 = (zrow 8).toList := by
  rw [zrow_list]
  simp [rowk, List.range, List.range.loop, List.replicate]
theorem rowk_all (x : Nat) : rowk x 8 = (e8 x).map bval := by
  simp [rowk, e8, List.range, List.range.loop]
theorem rowk_step (x k : Nat) (hk : k < 8) : (rowk x k).set (7 - k) (bval ((x / 2 ^ (8 * k)).toUInt8)) = rowk x (k + 1) := by
  have hs : k = 0 ∨ k = 1 ∨ k = 2 ∨ k = 3 ∨ k = 4 ∨ k = 5 ∨ k = 6 ∨ k = 7 := by omega
  rcases hs with rfl | rfl | rfl | rfl | rfl | rfl | rfl | rfl <;> simp [rowk, List.range, List.range.loop]

set_option maxRecDepth 100000 in
set_option maxHeartbeats 400000 in
theorem reight_any (ao : Option Addr) (n cap : Nat) (bs : List UInt8) (x : Nat) (w : World) (h : Rd w ao n cap bs) (hn : n ≤ 1099511627776) (hx : x < 18446744073709551616) :
    Calls Try.prog 16 #[.slice ao n cap, .int .u64 (x : Int)] w fun e w' => ∃ g cap', e = .returned (.slice (some ⟨g, 0, none⟩) (n + 8) cap') ∧ Own 5 w.heap.size w' g (n + 8) cap' (bs ++ e8 x) ∧ Below w.heap.size w w' := by
  obtain ⟨i5, hi, hz0, hz1, hz2⟩ := info_parts Try.info5
  have hmk : ∀ w : World, (Instr.makeSlice 22 (.int .i64 8) (.int .i64 8)).run Try.prog w = .ok (.slice (some ⟨w.heap.size, 0, none⟩) 8 8) (w.alloc (.cells (zrow 8) 5)) := fun w => by
    rw [run_make_bytes (P := Try.prog) w 22 5 i5 Try.underlying22 hi hz0 hz1 hz2 .i64 .i64 8 8 (by omega) (by omega) (by omega)]
    rfl
  have hr0 : RowIs (w.alloc (.cells (zrow 8) 5)) w.heap.size (rowk x 0) := by
    rw [rowk_zero]
    unfold RowIs
    simpa using heap_alloc_new w (.cells (zrow 8) 5)
  have b0 : Below w.heap.size w (w.alloc (.cells (zrow 8) 5)) := (Below.refl _ _).alloc (Nat.le_refl _) _
  go_enter Try.func16, Try.ntmps16
  go_wp2_with fail
  go_loopw [1, 6] (fun v i wr => ∃ k y : Nat, k ≤ 8 ∧ i = .int .i64 (7 - (k : Int)) ∧ v = .int .u64 (y : Int) ∧ Hid (y = x / 2 ^ (8 * k)) ∧ y ≤ x ∧ RowIs wr w.heap.size (rowk x k) ∧ Below w.heap.size w wr)
    (fun _ i _ => (intOf i + 1).toNat)
  case atStart => exact ⟨0, x, by omega, rfl, rfl, by unfold Hid; simp, Nat.le_refl _, hr0, b0⟩
  case round =>
    clear hr0 b0 hmk
    obtain ⟨k, y, hk, rfl, rfl, HY, hyx, hrow, hb⟩ := hrel
    have hsz := hb.size
    by_cases hlt : k < 8
    · have hc : ∃ v0, wr.cell? ⟨w.heap.size, 7 - k, none⟩ = some v0 := ⟨_, hrow.cell (List.getElem?_eq_getElem (by rw [rowk_length]; omega))⟩
      obtain ⟨v0, hc⟩ := hc
      have hf := hrow.frozen (7 - k)
      have hst := rowk_step x k hlt
      have hr2 := hrow.set (7 - k) (.int .u8 ((y : Int) % 256))
      have e1 : bval ((x / 2 ^ (8 * k)).toUInt8) = .int .u8 ((y : Int) % 256) := by
        rw [← HY.out]
        simp [bval]
      rw [e1] at hst
      rw [hst] at hr2
      have HY2 : Hid (y / 256 = x / 2 ^ (8 * (k + 1))) := by
        unfold Hid
        rw [HY.out, Nat.div_div_eq_div_mul, Nat.mul_add, Nat.pow_add]
      clear hst e1 hrow
      go_wp2
      go_roundw
      case rel => exact ⟨k + 1, y / 256, by omega, by go_num, by go_num, HY2, by omega, hr2, hb.setCell (Nat.le_refl _) _⟩
      case measure => simp [intOf]; omega
    · obtain rfl : k = 8 := by omega
      rw [rowk_all] at hrow
      have ox : Own 5 w.heap.size wr w.heap.size 8 8 (e8 x) := hrow.own w.heap.size (Nat.le_refl _) (by simp [e8_length]) (e8_length x) (Nat.le_refl _) (by decide) (by rw [List.take_of_length_le (by simp [e8_length])])
      have o0 := own_empty w.heap.size wr hsz
      have h1 := (h.below hb (Nat.le_refl _)).alloc (.cells #[] 5)
      have ox1 := ox.alloc (.cells #[] 5)
      have l1 := ox.lt
      clear ox hrow
      have b0 := hb.alloc hsz (.cells #[] 5)
      go_wp2_with (first
        | (at_builtin; refine wpList_append_bytes (P := Try.prog) _ (by rfl) (.tmp 20) (.tmp 21) 22 22 (by rfl) 5 i5 Try.underlying22 hi hz0 hz1 hz2 w.heap.size (by simp; omega) (by rfl) o0.app bs (by rfl) (h1.src _ Try.underlying22) (.inr ⟨_, rfl, o0⟩) (by omega) ?_; intro g1 cap1 w1 ho1 hb1 hg1 hw1; simp only [Nat.zero_add, List.nil_append] at ho1; have ox2 := ox1.carry (hg1.block w.heap.size (by simp; omega) (by simp [Value.ownBlock]; omega)); have z1 := hb1.size; simp at z1)
        | (at_builtin; refine wpList_append_bytes (P := Try.prog) _ (by rfl) (.tmp 22) (.tmp 23) 22 22 (by rfl) 5 i5 Try.underlying22 hi hz0 hz1 hz2 w.heap.size (by omega) (by rfl) ho1.app (e8 x) (by rfl) (ox2.rd.src _ Try.underlying22) (.inr ⟨_, rfl, ho1⟩) (by omega) ?_; intro g2 cap2 w2 ho2 hb2 hg2 hw2))
      go_ret
      exact ⟨g2, cap2, rfl, ho2, (b0.trans hb1).trans hb2⟩
end Go.Proofs.Ytcbpicioljiidaa
