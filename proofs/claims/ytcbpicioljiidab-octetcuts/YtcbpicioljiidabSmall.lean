/- Small contracts: what the walks of Var, Text, Eight and their readers give at the places where they are called; the document's own Var and Text. No condition but that what is given can be read and is no longer than 2^40. -/
import Derived.Test.YtcbpicioljiidabBegun
import Derived.Test.YtcbpicioljiidabText
import Derived.Deep.RegionHeld3
namespace Go.Proofs.Ytcbpicioljiidab
open Go.RowKit

/-- 'string(b)' at the program's own types. -/
theorem str_of {w : World} {ao : Option Addr} {n cap : Nat} {bs : List UInt8} (h : Rd w ao n cap bs) : (convert 23 9 (.slice ao n cap)).run Try.prog w = .ok (.string ⟨bs.toArray⟩) w :=
  h.str (P := Try.prog) w (src := 23) (dst := 9) Try.underlying23 Try.underlying5 Try.underlying9

theorem var_nil (x : Nat) (w : World) (hx : x < 18446744073709551616) :
    Calls Try.prog 5 #[.slice none 0 0, .int .u64 (x : Int)] w fun e w' => ∃ g cap', e = .returned (.slice (some ⟨g, 0, none⟩) (Lib.uvarint x).length cap') ∧ Own 5 w.heap.size w' g (Lib.uvarint x).length cap' (Lib.uvarint x) ∧ Below w.heap.size w w' := by
  have h := var_any none 0 0 [] x w (App.nil 5 0 _).1 (by decide) hx
  simpa only [Nat.zero_add, List.nil_append] using h

theorem takeText_at {ao : Option Addr} {n cap : Nat} {bs : List UInt8} {most : Int} {w : World} (h : Rd w ao n cap bs) (hn : n ≤ 1099511627776) (hm0 : -9223372036854775808 ≤ most) (hm1 : most ≤ 9223372036854775807)
    {l : List UInt8} {k er : Nat} (hr : tt bs most = (l, k, er)) :
    Calls Try.prog 8 #[.slice ao n cap, .int .i64 most] w fun e w' => ∃ ao' cap', e = .returned (.tuple #[.slice ao' l.length cap', .int .i64 (k : Int), .int .i64 (er : Int)]) ∧
      Res 5 w.heap.size w' ao' l.length cap' l ∧ Below w.heap.size w w' := by
  have := takeText_any ao n cap bs most w h hn hm0 hm1
  rw [hr] at this
  exact this

theorem takeEight_at {ao : Option Addr} {n cap : Nat} {bs : List UInt8} {w : World} (h : Rd w ao n cap bs) {v er : Nat} (hr : te bs = (v, er)) :
    Calls Try.prog 9 #[.slice ao n cap] w fun e w' => e = .returned (.tuple #[.int .u64 (v : Int), .int .i64 (er : Int)]) ∧ w = w' := by
  have := takeEight_any ao n cap bs w h
  rw [hr] at this
  exact this

theorem text_nil (so : Option Addr) (m scap : Nat) (ss : List UInt8) (w : World) (hs : Rd w so m scap ss) (hm : m ≤ 1099511627776) :
    Calls Try.prog 6 #[.slice none 0 0, .slice so m scap] w fun e w' => ∃ g cap', e = .returned (.slice (some ⟨g, 0, none⟩) ((Lib.uvarint m).length + m) cap') ∧ Own 5 w.heap.size w' g ((Lib.uvarint m).length + m) cap' (Lib.uvarint m ++ ss) ∧ Below w.heap.size w w' := by
  have h := text_any none 0 0 [] so m scap ss w (App.nil 5 0 _).1 hs (by decide) hm
  simpa only [Nat.zero_add, List.nil_append] using h

theorem eight_nil (x : Nat) (w : World) (hx : x < 18446744073709551616) :
    Calls Try.prog 10 #[.slice none 0 0, .int .u64 (x : Int)] w fun e w' => ∃ g cap', e = .returned (.slice (some ⟨g, 0, none⟩) 8 cap') ∧ Own 5 w.heap.size w' g 8 cap' (e8 x) ∧ Below w.heap.size w w' := by
  have h := eight_any none 0 0 [] x w (App.nil 5 0 _).1 (by decide) hx
  simpa only [Nat.zero_add, List.nil_append] using h

/-- The condition that is held through a region may be turned to a stronger one. -/
theorem wpAnyH_mono {P : Program} {md : Region.Mode} {ops : Array Oper} {Q : Exit → Act → World → Prop} {S S' : World → Prop} (hs : ∀ w, S' w → S w) :
    ∀ {fuel : Nat} {listed : Array Bool} {a : Act} {w : World}, wpAnyH P md ops Q S' fuel listed a w → wpAnyH P md ops Q S fuel listed a w
  | 0, _, _, _, h => h
  | _ + 1, _, _, _, h => ⟨h.1, fun i hi => wpOp_mono (fun _ w' h' => ⟨hs w' h'.1, wpAnyH_mono hs h'.2⟩) (h.2 i hi)⟩

theorem own_empty (B : Nat) (w : World) (hB : B ≤ w.heap.size) : Own 5 B (w.alloc (.cells #[] 5)) w.heap.size 0 0 [] :=
  ⟨rfl, Nat.le_refl _, Nat.zero_le _, hB, _, heap_alloc_new w _, rfl, rfl⟩

set_option maxRecDepth 100000 in
set_option maxHeartbeats 400000 in
theorem rvar_any (ao : Option Addr) (n cap : Nat) (bs : List UInt8) (x : Nat) (w : World) (h : Rd w ao n cap bs) (hn : n ≤ 1099511627776) (hx : x < 18446744073709551616) :
    Calls Try.prog 14 #[.slice ao n cap, .int .u64 (x : Int)] w fun e w' => ∃ g cap', e = .returned (.slice (some ⟨g, 0, none⟩) (n + (Lib.uvarint x).length) cap') ∧ Own 5 w.heap.size w' g (n + (Lib.uvarint x).length) cap' (bs ++ Lib.uvarint x) ∧ Below w.heap.size w w' := by
  obtain ⟨i5, hi, hz0, hz1, hz2⟩ := info_parts Try.info5
  have hlen := Lib.uvarint_length64 hx
  have o0 := own_empty w.heap.size w (Nat.le_refl _)
  have h1 := h.alloc (.cells #[] 5)
  have b0 : Below w.heap.size w (w.alloc (.cells #[] 5)) := (Below.refl _ _).alloc (Nat.le_refl _) _
  go_enter Try.func14, Try.ntmps14
  go_wp2_with (at_builtin; refine wpList_append_bytes (P := Try.prog) _ (by rfl) _ _ 23 23 (by rfl) 5 i5 Try.underlying23 hi hz0 hz1 hz2 w.heap.size (by simp) (by rfl) o0.app bs (by rfl) (h1.src _ Try.underlying23) (.inr ⟨_, rfl, o0⟩) (by omega) ?_; intro g0 cap0 w0 ho0 hb0 hg0 hw0)
  rw [Nat.zero_add, List.nil_append] at ho0
  have b1 := b0.trans hb0
  clear o0 h1 b0 hb0 hg0 hw0
  go_loopw [1, 5] (fun v out wr => ∃ (y : Nat) (ao' : Option Addr) (cap' : Nat) (ks : List UInt8), v = .int .u64 (y : Int) ∧ out = .slice ao' (n + ks.length) cap' ∧ App 5 w.heap.size wr ao' (n + ks.length) cap' (bs ++ ks) ∧ ks ++ Lib.uvarint y = Lib.uvarint x ∧ y ≤ x ∧ Below w.heap.size w wr)
    (fun v _ _ => (intOf v).toNat)
  case atStart => exact ⟨x, some ⟨g0, 0, none⟩, cap0, [], rfl, rfl, by simpa using ho0.app, rfl, Nat.le_refl _, b1⟩
  case round =>
    clear ho0 b1
    obtain ⟨y, ao', cap', ks, rfl, rfl, hA, hk, hy, hb⟩ := hrel
    have hkl : ks.length ≤ 10 := by rw [← hk] at hlen; simp at hlen; omega
    have hsz := hb.size
    have HK : Hid (ks ++ Lib.uvarint y = Lib.uvarint x) := hk
    clear hk hlen
    by_cases hlt : 128 ≤ y
    · go_wp2_with (at_builtin; refine wpList_append_bytes (P := Try.prog) _ (by rfl) _ _ 23 23 (by rfl) 5 i5 Try.underlying23 hi hz0 hz1 hz2 w.heap.size (by simp; omega) (by rfl) (hA.alloc _) [(y % 128 + 128).toUInt8] (by rfl) (src_one _ Try.underlying23 _ _ _ (by simp; omega)) (.inl (by omega)) (by omega) ?_; intro g1 cap1 w1 ho1 hb1 hg1 hw1)
      go_roundw
      case rel =>
        refine ⟨y / 128, some ⟨g1, 0, none⟩, cap1, ks ++ [(y % 128 + 128).toUInt8], by go_num, by simp [Nat.add_assoc], ?_, ?_, by omega, (hb.alloc (by omega) _).trans hb1⟩
        · simpa [List.append_assoc, Nat.add_assoc] using ho1.app
        · rw [List.append_assoc, ← HK.out, Lib.uvarint_big hlt]; rfl
      case measure => simp [intOf]; omega
    · have hsm := Lib.uvarint_small (x := y) (by omega)
      have hux : Lib.uvarint x = ks ++ [y.toUInt8] := by rw [← HK.out, hsm]
      have HUX : Hid (Lib.uvarint x = ks ++ [y.toUInt8]) := hux
      clear hsm hux
      go_wp2_with (at_builtin; refine wpList_append_bytes (P := Try.prog) _ (by rfl) _ _ 23 23 (by rfl) 5 i5 Try.underlying23 hi hz0 hz1 hz2 w.heap.size (by simp; omega) (by rfl) (hA.alloc _) [y.toUInt8] (by rfl) (src_one _ Try.underlying23 _ _ _ (by simp; omega)) (.inl (by omega)) (by omega) ?_; intro g1 cap1 w1 ho1 hb1 hg1 hw1)
      go_ret
      rw [HUX.out]
      refine ⟨g1, cap1, by simp [Nat.add_assoc], by simpa [List.append_assoc, Nat.add_assoc] using ho1, (hb.alloc (by omega) _).trans hb1⟩

set_option maxRecDepth 100000 in
set_option maxHeartbeats 400000 in
theorem rtext_any (ao : Option Addr) (n cap : Nat) (bs : List UInt8) (so : Option Addr) (m scap : Nat) (ss : List UInt8) (w : World) (h : Rd w ao n cap bs) (hs : Rd w so m scap ss) (hn : n ≤ 1099511627776) (hm : m ≤ 1099511627776) :
    Calls Try.prog 11 #[.slice ao n cap, .slice so m scap] w fun e w' => ∃ g cap', e = .returned (.slice (some ⟨g, 0, none⟩) (n + (Lib.uvarint m).length + m) cap') ∧ Own 5 w.heap.size w' g (n + (Lib.uvarint m).length + m) cap' (bs ++ Lib.uvarint m ++ ss) ∧ Below w.heap.size w w' := by
  obtain ⟨i5, hi, hz0, hz1, hz2⟩ := info_parts Try.info5
  have hlen := Lib.uvarint_length64 (x := m) (by omega)
  go_enter Try.func11, Try.ntmps11
  go_wp2_with fail
  refine (rvar_any ao n cap bs m w h hn (by omega)).mono ?_
  rintro e w1 ⟨g, cap1, rfl, ho, hb⟩
  have hs1 := hs.below hb (Nat.le_refl _)
  have hsz := hb.size
  go_wp2_with (at_builtin; refine wpList_append_bytes (P := Try.prog) _ (by rfl) _ _ 23 23 (by rfl) 5 i5 Try.underlying23 hi hz0 hz1 hz2 w.heap.size (by omega) (by rfl) ho.app ss (by rfl) (hs1.src _ Try.underlying23) (.inr ⟨g, rfl, ho⟩) (by omega) ?_; intro g2 cap2 w2 ho2 hb2 hg2 hw2)
  go_ret
  exact ⟨g2, cap2, rfl, ho2, hb.trans hb2⟩
end Go.Proofs.Ytcbpicioljiidab
