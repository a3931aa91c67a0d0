/- The walks of the document's Eval, of Light. No condition but that what was given are levels that may be (of Light: any levels), and numbers, in memory. -/
import Derived.Test.YtogfmpjgmabomabDoorMayLaw
namespace Go.Proofs.YtogfmpjgmabomabDoor
open Go.RowKit

set_option maxRecDepth 100000 in
set_option maxHeartbeats 400000 in
theorem light_any (Ls : List Lv) (a : Option Addr) (cap : Nat) (w : World) (B : Nat) (hB : B ≤ w.heap.size) (hN : Node w (· < B) 0 0 Ls a cap) :
    Calls Tryd.prog 9 #[.slice a Ls.length cap] w fun e w' => e = .returned (.bool (Ls.all fun L => mayB L 4)) ∧ Below w.heap.size w w' := by
  have hle := hN.le
  have hmx := hN.max
  go_enter Tryd.func9, Tryd.ntmps9
  go_wp2_with fail
  go_loopw [3] (fun i wr => ∃ (j : Nat), i = .int .i64 (j : Int) ∧ j ≤ Ls.length ∧ (∀ i L, i < j → Ls[i]? = some L → mayB L 4 = true) ∧ Below w.heap.size w wr) (fun i _ => Ls.length - (intOf i).toNat)
  case atStart => exact ⟨0, rfl, by omega, fun i _ hi => absurd hi (Nat.not_lt_zero i), Below.refl _ _⟩
  case round =>
    obtain ⟨j, rfl, hj, hall, hbel⟩ := hrel
    have HA : Hid (∀ i L, i < j → Ls[i]? = some L → mayB L 4 = true) := hall
    clear hall
    have hsz := hbel.size
    by_cases hlt : j < Ls.length
    · obtain ⟨L, hL⟩ : ∃ L, Ls[j]? = some L := ⟨_, List.getElem?_eq_getElem hlt⟩
      obtain ⟨b, off, k', n', args', a', cap', rfl, hS, rfl, e0, e1, e2, hN'⟩ := (hN.below hbel hB).get hL
      have HL : Hid (Ls[j]? = some (.mk k' n' args')) := hL
      clear hL
      have hc := rmay_any (.mk k' n' args') 4 wr B _ (by omega) hN'.is
      cases hr : mayB (.mk k' n' args') 4 with
      | true =>
        rw [hr] at hc
        go_wp2_with (go_at_call 23; go_must (refine hc.mono ?_); rintro e w2 ⟨rfl, hb2⟩)
        go_roundw
        case rel => exact ⟨j + 1, by go_num, by omega, fun i L hi hL => by
          by_cases e : i = j
          · subst e; rw [HL.out] at hL; simp at hL; subst hL; exact hr
          · exact HA.out i L (by omega) hL, hbel.trans (hb2.mono hsz)⟩
        case measure => simp [intOf]; omega
      | false =>
        rw [hr] at hc
        have HF : Hid ((Ls.all fun L => mayB L 4) = false) := by show _ = _; rw [List.all_eq_false]; exact ⟨_, List.mem_of_getElem? HL.out, by rw [hr]; decide⟩
        go_wp2_with (go_at_call 23; go_must (refine hc.mono ?_); rintro e w2 ⟨rfl, hb2⟩)
        go_ret
        exact ⟨ret_bool HF.out.symm, hbel.trans (hb2.mono hsz)⟩
    · have HF : Hid ((Ls.all fun L => mayB L 4) = true) := by
        show _ = _
        rw [List.all_eq_true]
        intro L hL
        obtain ⟨i, hi⟩ := List.getElem?_of_mem hL
        exact HA.out i L (by have := (List.getElem?_eq_some_iff.1 hi).1; omega) hi
      go_wp2_with fail
      go_ret
      exact ⟨ret_bool HF.out.symm, hbel⟩

end Go.Proofs.YtogfmpjgmabomabDoor
