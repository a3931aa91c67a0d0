/- The walk of the document's own answer to Hex. No condition but that what is given can be read and is no longer than 2^40. -/
import Derived.Test.YtcbpicioljiidaaUnhex
namespace Go.Proofs.Ytcbpicioljiidaa
open Go.RowKit

theorem hex_slice (d : Nat) (hd : d < 16) (w : World) : (Instr.slice 9 (.string { data := #[48, 49, 50, 51, 52, 53, 54, 55, 56, 57, 97, 98, 99, 100, 101, 102] }) (some (.int .u8 (d : Int))) (some (.int .u8 ((d : Int) + 1))) none).run Try.prog w = .ok (.string ⟨#[Lib.Hx.digit d]⟩) w := by
  have hs : d = 0 ∨ d = 1 ∨ d = 2 ∨ d = 3 ∨ d = 4 ∨ d = 5 ∨ d = 6 ∨ d = 7 ∨ d = 8 ∨ d = 9 ∨ d = 10 ∨ d = 11 ∨ d = 12 ∨ d = 13 ∨ d = 14 ∨ d = 15 := by omega
  rcases hs with rfl | rfl | rfl | rfl | rfl | rfl | rfl | rfl | rfl | rfl | rfl | rfl | rfl | rfl | rfl | rfl <;> (rw [run_slice_string w 9 _ .u8 .u8 _ _ Try.underlying9 (by decide) (by decide) (by decide)]; rfl)

set_option maxRecDepth 100000 in
set_option maxHeartbeats 1000000 in
theorem rhex_any (ao : Option Addr) (n cap : Nat) (bs : List UInt8) (w : World) (h : Rd w ao n cap bs) (hn : n ≤ 1099511627776) :
    Calls Try.prog 28 #[.slice ao n cap] w fun e w' => e = .returned (.string ⟨(Lib.Hx.encode bs).toArray⟩) ∧ Below w.heap.size w w' := by
  have HL : Hid (bs.length = n) := h.len
  have hle := h.le
  have hmax := h.max
  unfold maxLen at hmax
  go_enter Try.func28, Try.ntmps28
  go_wp2_with fail
  go_loopw [3, 4] (fun out i wr => ∃ k : Nat, k ≤ n ∧ i = .int .i64 (k : Int) ∧ out = .string ⟨(Lib.Hx.encode (bs.take k)).toArray⟩ ∧ Below w.heap.size w wr)
    (fun _ i _ => n - (intOf i).toNat)
  case atStart => exact ⟨0, Nat.zero_le _, rfl, rfl, Below.refl _ _⟩
  case round =>
    obtain ⟨k, hk, rfl, rfl, hb⟩ := hrel
    by_cases hlt : k < n
    · have h1 := h.below hb (Nat.le_refl _)
      obtain ⟨b, off, rfl, hkl, hc⟩ := h1.at hlt
      have HE : Hid (Lib.Hx.encode (bs.take (k + 1)) = Lib.Hx.encode (bs.take k) ++ [Lib.Hx.digit (bs[k].toNat / 16), Lib.Hx.digit (bs[k].toNat % 16)]) := by
        unfold Hid
        rw [List.take_succ_eq_append_getElem hkl]
        simp only [Lib.Hx.encode, List.flatMap_append, List.flatMap_cons, List.flatMap_nil, List.append_nil]
      generalize bs[k] = c at hc HE
      have hc256 : c.toNat < 256 := c.toNat_lt
      have hi1 : ∀ w', (Instr.slice 9 (.string { data := #[48, 49, 50, 51, 52, 53, 54, 55, 56, 57, 97, 98, 99, 100, 101, 102] }) (some (.int .u8 ((c.toNat : Int) / 16))) (some (.int .u8 ((c.toNat : Int) / 16 + 1))) none).run Try.prog w' = .ok (.string ⟨#[Lib.Hx.digit (c.toNat / 16)]⟩) w' := hex_slice (c.toNat / 16) (by omega)
      have hi2 : ∀ w', (Instr.slice 9 (.string { data := #[48, 49, 50, 51, 52, 53, 54, 55, 56, 57, 97, 98, 99, 100, 101, 102] }) (some (.int .u8 ((c.toNat : Int) % 16))) (some (.int .u8 ((c.toNat : Int) % 16 + 1))) none).run Try.prog w' = .ok (.string ⟨#[Lib.Hx.digit (c.toNat % 16)]⟩) w' := hex_slice (c.toNat % 16) (by omega)
      have hq1 : IntKind.u8.wrap ((c.toNat : Int) / 16) = (c.toNat : Int) / 16 := wraps_u8 _ (by omega) (by omega)
      have hq2 : IntKind.u8.wrap ((c.toNat : Int) / 16 + 1) = (c.toNat : Int) / 16 + 1 := wraps_u8 _ (by omega) (by omega)
      have hq3 : IntKind.u8.wrap ((c.toNat : Int) % 16 + 1) = (c.toNat : Int) % 16 + 1 := wraps_u8 _ (by omega) (by omega)
      have hk0 : (0 : Int) ≤ (k : Int) := by omega
      have hk1 : (k : Int) < (n : Int) := by omega
      have hEl : (Lib.Hx.encode (bs.take k)).length ≤ 2199023255552 := by rw [Lib.Hx.encode_length]; simp; omega
      generalize Lib.Hx.encode (bs.take k) = E at HE hEl
      have hn1 : ¬ 9223372036854775807 < E.length + 1 := by omega
      have hn2 : ¬ 9223372036854775807 < E.length + 1 + 1 := by omega
      clear hkl
      go_wp2_with fail
      go_quiet (fail)
      go_wp2
      go_roundw
      case rel =>
        refine ⟨k + 1, by omega, by go_num, ?_, below_drewN hb _⟩
        rw [HE.out]
        show Value.string (ByteArray.mk E.toArray ++ ByteArray.mk [Lib.Hx.digit (c.toNat / 16)].toArray ++ ByteArray.mk [Lib.Hx.digit (c.toNat % 16)].toArray) = _
        rw [ByteArray.mk_append_mk, ByteArray.mk_append_mk, List.append_assoc]
        rfl
      case measure => simp [intOf]; omega
    · obtain rfl : k = n := by omega
      have HF : Hid (bs.take k = bs) := List.take_of_length_le (by rw [HL.out]; omega)
      go_wp2
      go_ret
      rw [HF.out]
      exact ⟨rfl, hb⟩
end Go.Proofs.Ytcbpicioljiidaa
