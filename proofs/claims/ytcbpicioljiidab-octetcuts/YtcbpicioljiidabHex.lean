/- The walk of octet.Hex. No condition but that what is given can be read and is no longer than 2^40. -/
import Derived.Test.YtcbpicioljiidabProg
import Derived.Test.YtcbpicioljiidabTake
import Derived.Lib.HexFns
import Derived.Deep.RegionHeld3
namespace Go.Proofs.Ytcbpicioljiidab
open Go.RowKit

theorem Try.info5h : (Try.prog.info? 5).map (fun i => (i.zero, i.size, i.bytes)) = some (some (.int .u8 0), 1, 1) := by kernel_rfl

theorem hex_index (k : IntKind) (d : Nat) (hd : d < 16) (w : World) : (Instr.index 9 (.string { data := #[48, 49, 50, 51, 52, 53, 54, 55, 56, 57, 97, 98, 99, 100, 101, 102] }) (.int k (d : Int))).run Try.prog w = .ok (.int .u8 ((Lib.Hx.digit d).toNat : Int)) w := by
  have hs : d = 0 ∨ d = 1 ∨ d = 2 ∨ d = 3 ∨ d = 4 ∨ d = 5 ∨ d = 6 ∨ d = 7 ∨ d = 8 ∨ d = 9 ∨ d = 10 ∨ d = 11 ∨ d = 12 ∨ d = 13 ∨ d = 14 ∨ d = 15 := by omega
  rcases hs with rfl | rfl | rfl | rfl | rfl | rfl | rfl | rfl | rfl | rfl | rfl | rfl | rfl | rfl | rfl | rfl <;> (rw [run_index_string w 9 _ k _ Try.underlying9]; rfl)

set_option maxRecDepth 100000 in
set_option maxHeartbeats 400000 in
theorem hex_any (ao : Option Addr) (n cap : Nat) (bs : List UInt8) (w : World) (h : Rd w ao n cap bs) (hn : n ≤ 1099511627776) :
    Calls Try.prog 12 #[.slice ao n cap] w fun e w' => e = .returned (.string ⟨(Lib.Hx.encode bs).toArray⟩) ∧ Below w.heap.size w w' := by
  obtain ⟨i5, hi, hz0, hz1, hz2⟩ := info_parts Try.info5h
  have hmk := fun w : World => run_make_bytes (P := Try.prog) w 23 5 i5 Try.underlying23 hi hz0 hz1 hz2 .i64 .i64 0 (2 * (n : Int)) (by omega) (by omega) (by omega)
  have HL : Hid (bs.length = n) := h.len
  go_enter Try.func12, Try.ntmps12
  go_wp2_with fail
  go_loopw [3, 12] (fun out i wr => ∃ (k g cap' : Nat), k ≤ n ∧ i = .int .i64 (k : Int) ∧ out = .slice (some ⟨g, 0, none⟩) (2 * k) cap' ∧ Own 5 w.heap.size wr g (2 * k) cap' (Lib.Hx.encode (bs.take k)) ∧ Below w.heap.size w wr)
    (fun _ i _ => n - (intOf i).toNat)
  case atStart =>
    refine ⟨0, w.heap.size, _, Nat.zero_le _, rfl, rfl, own_made w 5 w.heap.size (Nat.le_refl _) 0 _ (Nat.zero_le _) (by unfold maxLen; omega), (Below.refl _ _).alloc (Nat.le_refl _) _⟩
  case round =>
    obtain ⟨k, g, cap', hk, rfl, rfl, ho, hb⟩ := hrel
    have hsz := hb.size
    clear hmk
    by_cases hlt : k < n
    · have h1 := h.below hb (Nat.le_refl _)
      obtain ⟨b, off, rfl, hkl, hc⟩ := h1.at hlt
      have HE : Hid (Lib.Hx.encode (bs.take (k + 1)) = Lib.Hx.encode (bs.take k) ++ [Lib.Hx.digit (bs[k].toNat / 16), Lib.Hx.digit (bs[k].toNat % 16)]) := by
        unfold Hid
        rw [List.take_succ_eq_append_getElem hkl]
        simp only [Lib.Hx.encode, List.flatMap_append, List.flatMap_cons, List.flatMap_nil, List.append_nil]
      generalize bs[k] = c at hc HE
      have hc256 : c.toNat < 256 := c.toNat_lt
      have hi1 : ∀ w', (Instr.index 9 (.string { data := #[48, 49, 50, 51, 52, 53, 54, 55, 56, 57, 97, 98, 99, 100, 101, 102] }) (.int .u8 ((c.toNat : Int) / 16))).run Try.prog w' = .ok (.int .u8 ((Lib.Hx.digit (c.toNat / 16)).toNat : Int)) w' := hex_index .u8 (c.toNat / 16) (by omega)
      have hi2 : ∀ w', (Instr.index 9 (.string { data := #[48, 49, 50, 51, 52, 53, 54, 55, 56, 57, 97, 98, 99, 100, 101, 102] }) (.int .u8 (bits .and .u8 (c.toNat : Int) 15))).run Try.prog w' = .ok (.int .u8 ((Lib.Hx.digit (c.toNat % 16)).toNat : Int)) w' := by
        have := bits_mask .u8 8 (by decide) wraps_u8 4 (by decide) (c.toNat : Int) (by omega) (by omega)
        rw [show ((2 : Int) ^ 4 - 1) = 15 from rfl] at this
        rw [this]
        exact hex_index .u8 (c.toNat % 16) (by omega)
      clear hkl
      go_wp2_with fail
      go_region_held3 (fun _ => True) (trivial) ((refine step_append_bytes _ (by rfl) _ _ 23 23 (by rfl) 5 i5 Try.underlying23 hi hz0 hz1 hz2 w.heap.size (by simp; omega) (by rfl) ((ho.app.alloc _).drew) [Lib.Hx.digit (c.toNat / 16), Lib.Hx.digit (c.toNat % 16)] (by rfl) (src_two _ Try.underlying23 _ _ _ _ (by simp) (by simp)) (.inl (by omega)) (by omega) ?_; intro g1 cap1 w1 ho1 hb1 hg1 hw1))
      all_goals
        go_wp2
        go_roundw
        case rel =>
          refine ⟨k + 1, g1, cap1, by omega, by go_num, by simp [Nat.mul_add], ?_, ((hb.alloc (by omega) _).drew).trans hb1⟩
          rw [HE.out]
          simpa [Nat.mul_add] using ho1
        case measure => simp [intOf]; omega
    · obtain rfl : k = n := by omega
      rw [List.take_of_length_le (by rw [HL.out]; omega)] at ho
      have hcv := ho.rd.str (P := Try.prog) _ (src := 23) (dst := 9) Try.underlying23 Try.underlying5 Try.underlying9
      go_wp2
      go_ret
      exact ⟨rfl, hb⟩
end Go.Proofs.Ytcbpicioljiidab
