/- OctetBack, the walk: what was written is read, whatever stands behind it. -/
import Derived.Test.YtcbpicioljiidaaBegun
import Derived.Test.YtcbpicioljiidaaText
import Derived.Test.YtcbpicioljiidaaApart
namespace Go.Proofs.Ytcbpicioljiidaa
open Go.RowKit

theorem n8_e8 (x : Nat) (h : x < 18446744073709551616) : n8 (e8 x) = x := by
  simp [n8, e8, List.range, List.range.loop]
  omega

theorem te_back (x : Nat) (h : x < 18446744073709551616) (rs : List UInt8) : te (e8 x ++ rs) = (x, 0) := by
  unfold te
  rw [if_neg (by rw [List.length_append, e8_length]; omega), List.take_left' (e8_length x), n8_e8 x h]

theorem tt_back (ss rs : List UInt8) (h : ss.length < 18446744073709551616) (most : Int) (hm : (ss.length : Int) ≤ most) : tt (Lib.uvarint ss.length ++ ss ++ rs) most = (ss, (Lib.uvarint ss.length).length + ss.length, 0) := by
  unfold tt
  rw [List.append_assoc, tv_back ss.length h (ss ++ rs)]
  simp only
  rw [if_neg (by simp), if_neg (by omega), if_neg (by simp)]
  simp

theorem takeText_at {ao : Option Addr} {n cap : Nat} {bs : List UInt8} {most : Int} {w : World} (h : Rd w ao n cap bs) (hn : n ≤ 1099511627776) (hm0 : -9223372036854775808 ≤ most) (hm1 : most ≤ 9223372036854775807)
    {l : List UInt8} {k er : Nat} (hr : tt bs most = (l, k, er)) :
    Calls Try.prog 21 #[.slice ao n cap, .int .i64 most] w fun e w' => ∃ ao' cap', e = .returned (.tuple #[.slice ao' l.length cap', .int .i64 (k : Int), .int .i64 (er : Int)]) ∧
      Res 5 w.heap.size w' ao' l.length cap' l ∧ Below w.heap.size w w' := by
  have := takeText_any ao n cap bs most w h hn hm0 hm1
  rw [hr] at this
  exact this

theorem takeEight_at {ao : Option Addr} {n cap : Nat} {bs : List UInt8} {w : World} (h : Rd w ao n cap bs) {v er : Nat} (hr : te bs = (v, er)) :
    Calls Try.prog 23 #[.slice ao n cap] w fun e w' => e = .returned (.tuple #[.int .u64 (v : Int), .int .i64 (er : Int)]) ∧ w = w' := by
  have := takeEight_any ao n cap bs w h
  rw [hr] at this
  exact this

theorem text_nil (so : Option Addr) (m scap : Nat) (ss : List UInt8) (w : World) (hs : Rd w so m scap ss) (hm : m ≤ 1099511627776) :
    Calls Try.prog 12 #[.slice none 0 0, .slice so m scap] w fun e w' => ∃ g cap', e = .returned (.slice (some ⟨g, 0, none⟩) ((Lib.uvarint m).length + m) cap') ∧ Own 5 w.heap.size w' g ((Lib.uvarint m).length + m) cap' (Lib.uvarint m ++ ss) ∧ Below w.heap.size w w' := by
  have h := text_any none 0 0 [] so m scap ss w (App.nil 5 0 _).1 hs (by decide) hm
  simpa only [Nat.zero_add, List.nil_append] using h

theorem eight_nil (x : Nat) (w : World) (hx : x < 18446744073709551616) :
    Calls Try.prog 13 #[.slice none 0 0, .int .u64 (x : Int)] w fun e w' => ∃ g cap', e = .returned (.slice (some ⟨g, 0, none⟩) 8 cap') ∧ Own 5 w.heap.size w' g 8 cap' (e8 x) ∧ Below w.heap.size w w' := by
  have h := eight_any none 0 0 [] x w (App.nil 5 0 _).1 (by decide) hx
  simpa only [Nat.zero_add, List.nil_append] using h

theorem Res.carry {e : TypeId} {B : Nat} {w w' : World} {ao : Option Addr} {n cap : Nat} {bs : List UInt8} (h : Res e B w ao n cap bs) (hb : ∀ k, B ≤ k → k < w.heap.size → w'.heap[k]? = w.heap[k]?) : Res e B w' ao n cap bs := by
  obtain ⟨h1, h2⟩ := h
  rcases h2 with ⟨rfl, rfl, rfl⟩ | ⟨g, rfl, ho⟩
  · obtain rfl : bs = [] := List.eq_nil_of_length_eq_zero h1.len
    exact ⟨Rd.none' w' none, .inl ⟨rfl, rfl, rfl⟩⟩
  · exact (ho.carry (hb g ho.new ho.lt)).res

set_option maxRecDepth 100000 in
set_option maxHeartbeats 1000000 in
theorem back_walk (so : Option Addr) (m scap : Nat) (ss : List UInt8) (ro : Option Addr) (r rcap : Nat) (rs : List UInt8) (v : Nat) (w : World) (hs : Rd w so m scap ss) (hr : Rd w ro r rcap rs) (hv : v < 18446744073709551616) :
    Calls Try.prog 5 #[.slice so m scap, .slice ro r rcap, .int .u64 (v : Int)] w fun e w' => e = .returned (.bool true) ∧ Below w.heap.size w w' := by
  obtain ⟨i5, hi, hz0, hz1, hz2⟩ := info_parts Try.info5
  have sl := hs.le
  have sm := hs.max
  have rl := hr.le
  have rm := hr.max
  unfold maxLen at sm rm
  by_cases h1 : 16384 < m
  · go_enter Try.func5, Try.ntmps5
    go_wp2_with (go_at_call 9; refine (begun_any _).mono ?_; rintro e w0 ⟨rfl, hb0⟩)
    go_ret
    exact ⟨rfl, hb0⟩
  · by_cases h2 : 16384 < r
    · go_enter Try.func5, Try.ntmps5
      go_wp2_with (go_at_call 9; refine (begun_any _).mono ?_; rintro e w0 ⟨rfl, hb0⟩)
      go_ret
      exact ⟨rfl, hb0⟩
    · have hvl := Lib.uvarint_length64 hv
      have hml := Lib.uvarint_length64 (x := m) (by omega)
      have HR1 : Hid _ := tv_back v hv rs
      have HR2 : Hid _ := tt_back ss rs (by rw [hs.len]; omega) (ss.length : Int) (Int.le_refl _)
      have HR3 : Hid _ := te_back v hv rs
      have HSL : Hid (ss.length = m) := hs.len
      rw [HSL.out] at HR2
      go_enter Try.func5, Try.ntmps5
      go_wp2_with (go_at_call 9; refine (begun_any _).mono ?_; rintro e w0 ⟨rfl, hb0⟩)
      refine (var_nil v _ hv).mono ?_
      rintro e w1 ⟨g1, c1, rfl, ho1, hb1⟩
      have z0 := hb0.size
      have z1 := hb1.size
      have b1 := hb0.trans (hb1.mono z0)
      have hs1 := hs.below b1 (Nat.le_refl _)
      go_wp2_with fail
      refine (text_nil so m scap ss _ hs1 (by omega)).mono ?_
      rintro e w2 ⟨g2, c2, rfl, ho2, hb2⟩
      have z2 := hb2.size
      have b2 := b1.trans (hb2.mono (by omega))
      go_wp2_with fail
      refine (eight_nil v _ hv).mono ?_
      rintro e w3 ⟨g3, c3, rfl, ho3, hb3⟩
      have z3 := hb3.size
      have b3 := b2.trans (hb3.mono (by omega))
      have l1 := ho1.lt
      have l2 := ho2.lt
      have l3 := ho3.lt
      have n1 := ho1.new
      have n2 := ho2.new
      have n3 := ho3.new
      have p1 : Own 5 w.heap.size w3 g1 _ c1 _ := ((ho1.below hb2 l1).below hb3 (by omega)).mono z0
      have p2 : Own 5 w.heap.size w3 g2 _ c2 _ := (ho2.below hb3 l2).mono (by omega)
      have p3 : Own 5 w.heap.size w3 g3 _ c3 _ := ho3.mono (by omega)
      have hr3 := hr.below b3 (Nat.le_refl _)
      clear hs1 ho1 ho2 ho3 hb0 hb1 hb2 hb3 b1 b2
      go_wp2_with (at_builtin; refine wpList_append_bytes (P := Try.prog) _ (by rfl) _ _ 22 22 (by rfl) 5 i5 Try.underlying22 hi hz0 hz1 hz2 w.heap.size (by omega) (by rfl) p1.app rs (by rfl) (hr3.src _ Try.underlying22) (.inr ⟨g1, rfl, p1⟩) (by omega) ?_; intro g4 c4 w4 ho4 hb4 hg4 hw4)
      refine (takeVar_at ho4.rd HR1.out).mono ?_
      rintro e w5 ⟨rfl, rfl⟩
      have q2 := p2.carry (hg4.block g2 (by omega) (by simp [Value.ownBlock]; omega))
      have q3 := p3.carry (hg4.block g3 (by omega) (by simp [Value.ownBlock]; omega))
      have z4 := hb4.size
      have b4 := b3.trans hb4
      have hr4 := hr.below b4 (Nat.le_refl _)
      clear p1 p2 p3 hr3 ho4 hb4 hg4 hw4 b3
      go_wp2_with (at_builtin; refine wpList_append_bytes (P := Try.prog) _ (by rfl) _ _ 22 22 (by rfl) 5 i5 Try.underlying22 hi hz0 hz1 hz2 w.heap.size (by omega) (by rfl) q2.app rs (by rfl) (hr4.src _ Try.underlying22) (.inr ⟨g2, rfl, q2⟩) (by omega) ?_; intro g5 c5 w5 ho5 hb5 hg5 hw5)
      refine (takeText_at ho5.rd (by omega) (by omega) (by omega) HR2.out).mono ?_
      rintro e w6 ⟨ao6, c6, rfl, r6, hb6⟩
      have z5 := hb5.size
      have z6 := hb6.size
      have k3 := (q3.carry (hg5.block g3 (by omega) (by simp [Value.ownBlock]; omega))).below hb6 (by omega)
      have b6 := (b4.trans hb5).trans (hb6.mono (by omega))
      have hr6 := hr.below b6 (Nat.le_refl _)
      clear q2 q3 hr4 ho5 hb5 hg5 hw5 b4 hb6
      go_wp2_with (at_builtin; refine wpList_append_bytes (P := Try.prog) _ (by rfl) _ _ 22 22 (by rfl) 5 i5 Try.underlying22 hi hz0 hz1 hz2 w.heap.size (by omega) (by rfl) k3.app rs (by rfl) (hr6.src _ Try.underlying22) (.inr ⟨g3, rfl, k3⟩) (by omega) ?_; intro g7 c7 w7 ho7 hb7 hg7 hw7)
      refine (takeEight_at ho7.rd HR3.out).mono ?_
      rintro e w8 ⟨rfl, rfl⟩
      have r7 := r6.carry (w' := w7) (fun k hk1 hk2 => hg7.block k hk2 (by simp [Value.ownBlock]; omega))
      have b7 := b6.trans hb7
      have y7 := str_of r7.1
      have s7 := str_of (hs.below b7 (Nat.le_refl _))
      clear k3 hr6 ho7 hb7 hg7 hw7 b6 r6 r7
      go_wp2
      go_ret
      exact ⟨by simp, b7⟩
end Go.Proofs.Ytcbpicioljiidaa
