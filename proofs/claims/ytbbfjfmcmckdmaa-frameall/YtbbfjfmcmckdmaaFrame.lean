/- The walks of frame.Frame, of Put and Waits of a nil and a zero Reader, and of the statements' own alike. No condition but that what is given can be read and is no longer than 2^30. -/
import Derived.Test.YtbbfjfmcmckdmaaBegun
namespace Go.Proofs.Ytbbfjfmcmckdmaa
open Go.RowKit

set_option maxRecDepth 100000 in
set_option maxHeartbeats 1000000 in
theorem frame_ok (ao : Option Addr) (n cap : Nat) (bs : List UInt8) (so : Option Addr) (m scap : Nat) (ss : List UInt8) (w : World) (h : Rd w ao n cap bs) (hs : Rd w so m scap ss) (hn : n ≤ 1099511627776) (hm : m ≤ 65536) :
    Calls Try.prog 19 #[.slice ao n cap, .slice so m scap] w fun e w' => ∃ g cap', e = .returned (.tuple #[.slice (some ⟨g, 0, none⟩) (n + (Lib.uvarint m).length + m) cap', .int .i64 0]) ∧ Own 5 w.heap.size w' g (n + (Lib.uvarint m).length + m) cap' (bs ++ Lib.uvarint m ++ ss) ∧ Below w.heap.size w w' := by
  go_enter Try.func19, Try.ntmps19
  go_wp2_with fail
  refine (text_any ao n cap bs so m scap ss w h hs hn (by omega)).mono ?_
  rintro e w1 ⟨g, c, rfl, ho, hb⟩
  go_wp2_with fail
  go_ret2
  exact ⟨g, c, rfl, ho, hb⟩

set_option maxRecDepth 100000 in
set_option maxHeartbeats 1000000 in
theorem frame_long (ao : Option Addr) (n cap : Nat) (so : Option Addr) (m scap : Nat) (w : World) (hm : 65536 < m) :
    Calls Try.prog 19 #[.slice ao n cap, .slice so m scap] w fun e w' => e = .returned (.tuple #[.slice none 0 0, .int .i64 3]) ∧ w = w' := by
  go_enter Try.func19, Try.ntmps19
  go_wp2_with fail
  go_ret2
  exact ⟨rfl, rfl⟩

set_option maxRecDepth 100000 in
set_option maxHeartbeats 1000000 in
theorem put_none (bo : Option Addr) (m c : Nat) (w : World) :
    Calls Try.prog 12 #[.pointer none, .slice bo m c] w fun e w' => e = .returned (.tuple #[.slice none 0 0, .int .i64 1]) ∧ w = w' := by
  go_enter Try.func12, Try.ntmps12
  go_wp2_with fail
  go_ret2
  exact ⟨rfl, rfl⟩

set_option maxRecDepth 100000 in
set_option maxHeartbeats 1000000 in
theorem waits_none (w : World) : Calls Try.prog 16 #[.pointer none] w fun e w' => e = .returned (.int .i64 0) ∧ w = w' := by
  go_enter Try.func16, Try.ntmps16
  go_wp2_with fail
  go_ret
  exact ⟨rfl, rfl⟩

set_option maxRecDepth 100000 in
set_option maxHeartbeats 1000000 in
theorem put_zero (g : Nat) (bo : Option Addr) (m c : Nat) (w : World) (hB : Blk w g 48 [.bool false, .slice none 0 0, .int .i64 0]) :
    Calls Try.prog 12 #[.pointer (some ⟨g, 0, none⟩), .slice bo m c] w fun e w' => e = .returned (.tuple #[.slice none 0 0, .int .i64 1]) ∧ w = w' := by
  have hc := hB.cell (j := 0) rfl
  go_enter Try.func12, Try.ntmps12
  go_wp2_with fail
  go_ret2
  exact ⟨rfl, rfl⟩

set_option maxRecDepth 100000 in
set_option maxHeartbeats 1000000 in
theorem waits_zero (g : Nat) (w : World) (hB : Blk w g 48 [.bool false, .slice none 0 0, .int .i64 0]) :
    Calls Try.prog 16 #[.pointer (some ⟨g, 0, none⟩)] w fun e w' => e = .returned (.int .i64 0) ∧ w = w' := by
  have hc := hB.cell (j := 1) rfl
  go_enter Try.func16, Try.ntmps16
  go_wp2_with fail
  go_ret
  exact ⟨rfl, rfl⟩

theorem Parts.heap {w w' : World} {g : Nat} {ao : Option Addr} {n cap : Nat} {ls : List (List UInt8)} (h : Parts w g ao n cap ls) (hb : w'.heap = w.heap) : Parts w' g ao n cap ls := h.low (fun k _ => by rw [hb])

set_option maxRecDepth 100000 in
set_option maxHeartbeats 1000000 in
theorem alike_any (a b : Option Addr) (n c d : Nat) (ls : List (List UInt8)) (w : World) (ha : Parts w w.heap.size a n c ls) (hb : Parts w w.heap.size b n d ls) (hn : n ≤ 1048576) :
    Calls Try.prog 14 #[.slice a n c, .slice b n d] w fun e w' => e = .returned (.bool true) ∧ w'.heap = w.heap ∧ Below w.heap.size w w' := by
  have hac := ha.le
  have ham := ha.max
  have hbc := hb.le
  have hbm := hb.max
  unfold maxLen at ham hbm
  go_enter Try.func14, Try.ntmps14
  go_wp2_with fail
  go_loopw [5] (fun s5 wr => ∃ (k : Nat), k ≤ n ∧ s5 = .int .i64 (k : Int) ∧ Hid (wr.heap = w.heap) ∧ Below w.heap.size w wr) (fun s5 _ => n - (intOf s5).toNat)
  case atStart => exact ⟨0, by omega, rfl, rfl, Below.refl _ _⟩
  case round =>
    obtain ⟨k, hkn, rfl, HW, hB⟩ := hrel
    by_cases hlt : k < n
    · obtain ⟨l, hl⟩ : ∃ l, ls[k]? = some l := ⟨_, List.getElem?_eq_getElem (by rw [ha.len]; exact hlt)⟩
      have hb2 := hb.heap (w' := wr) HW.out
      obtain ⟨b1, o1, v1, rfl, _, hc1, p1, m1, q1, rfl, hr1, _⟩ := (ha.heap (w' := wr) HW.out).cell k l hl
      obtain ⟨b2, o2, v2, rfl, _, hc2, p2, m2, q2, rfl, hr2, _⟩ := hb2.cell k l hl
      have hs1 : ∀ q, (convert 28 9 (.slice p1 m1 q1)).run Try.prog (wr.drewN q) = .ok (.string ⟨l.toArray⟩) (wr.drewN q) := fun q => str_of (hr1.carry fun _ _ => rfl)
      have hs2 : ∀ q, (convert 28 9 (.slice p2 m2 q2)).run Try.prog (wr.drewN q) = .ok (.string ⟨l.toArray⟩) (wr.drewN q) := fun q => str_of (hr2.carry fun _ _ => rfl)
      clear hb2 hr1 hr2 hl
      generalize (⟨l.toArray⟩ : ByteArray) = st at hs1 hs2
      go_wp2_with fail
      go_quiet (fail)
      go_wp2_with fail
      exact ⟨⟨k + 1, by omega, by go_num, HW.out, bel_drewN hB _⟩, by simp [intOf]; omega⟩
    · go_wp2_with fail
      go_ret
      exact ⟨rfl, HW.out, hB⟩
end Go.Proofs.Ytbbfjfmcmckdmaa
