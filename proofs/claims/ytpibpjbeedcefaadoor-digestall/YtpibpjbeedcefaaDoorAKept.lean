/- The walk of the statements' own AllKept. No condition but that the parts can be read, and are no more and no longer than 2^20. -/
import Derived.Test.YtpibpjbeedcefaaDoorHelps
import Derived.Test.YtpibpjbeedcefaaDoorRFirst
namespace Go.Proofs.YtpibpjbeedcefaaDoor
open Go.RowKit

set_option maxRecDepth 100000 in
set_option maxHeartbeats 1000000 in
theorem allkept_any (a : Option Addr) (c : Nat) (vs : List Value) (ao : Option Addr) (n cap : Nat) (ls : List (List UInt8)) (B : Nat) (w : World) (hA : AppV 23 B w a n c vs) (hT : TV w B vs ls) (h : Parts w w.heap.size ao n cap ls) (hn : n ≤ 1048576) (ht : ls.flatten.length ≤ 1048576) :
    Calls Tryd.prog 14 #[.slice a n c, .slice ao n cap] w fun e w' => e = .returned (.bool true) ∧ Below w.heap.size w w' := by
  have hnc := h.le
  have hcm := h.max
  unfold maxLen at hcm
  have hcc : n ≤ c ∧ c ≤ maxLen := by
    rcases hA with ⟨_, h1, h2, _⟩ | ⟨g, _, ho⟩
    · exact ⟨by omega, by unfold maxLen; omega⟩
    · exact ⟨ho.le, ho.max⟩
  obtain ⟨hc1, hc2⟩ := hcc
  unfold maxLen at hc2
  go_enter Tryd.func14, Tryd.ntmps14
  go_wp2_with fail
  go_loopw [5] (fun s5 wr => ∃ (k : Nat), k ≤ n ∧ s5 = .int .i64 (k : Int) ∧ Hid (wr.heap = w.heap) ∧ Below w.heap.size w wr) (fun s5 _ => n - (intOf s5).toNat)
  case atStart => exact ⟨0, by omega, rfl, rfl, Below.refl _ _⟩
  case round =>
    obtain ⟨k, hkn, rfl, HW, hB⟩ := hrel
    by_cases hlt : k < n
    · obtain ⟨l, hl⟩ : ∃ l, ls[k]? = some l := ⟨_, List.getElem?_eq_getElem (by rw [h.len]; exact hlt)⟩
      obtain ⟨b, off, v, rfl, hbg, hcl, pa, pm, pc, rfl, hr, hlow⟩ := h.cell k l hl
      obtain ⟨g, hv, hrow, _⟩ := hT.2 k l hl
      obtain ⟨gl, rfl, ho⟩ : ∃ gl, a = some ⟨gl, 0, none⟩ ∧ OwnV 23 B w gl n c vs := by
        rcases hA with ⟨_, h1, _, _⟩ | h
        · omega
        · exact h
      have hfl := flat_le ls (k + 1)
      rw [flat_take ls k l hl, List.length_append, hr.len] at hfl
      have hct := (ho.carry (w' := wr) (by rw [HW.out])).cell hv
      have hcl' : wr.cell? ⟨b, off + k, none⟩ = some (.slice pa pm pc) := (World.cell?_of_block (by rw [HW.out])).trans hcl
      clear hcl
      rw [hr.len] at hct
      have hKept : ∀ q', Calls Tryd.prog 24 #[.slice (some ⟨g, 0, none⟩) pm (pm + 3), .slice pa pm pc] (wr.drewN q') fun e w'' => e = .returned (.bool true) ∧ ∃ m, w'' = wr.drewN m := fun q' =>
        quietly (kept_any g pm pa pc l (wr.drewN q') (hrow.carry (show wr.heap[g]? = w.heap[g]? by rw [HW.out])) (hr.carry fun j _ => (show wr.heap[j]? = w.heap[j]? by rw [HW.out])) (by omega))
      have HKept : Hid _ := hKept
      clear hKept hl hv
      go_wp2_with fail
      go_quiet ((go_at_call 24; exact HKept.out _))
      go_wp2_with fail
      exact ⟨⟨k + 1, by omega, by go_num, HW.out, bel_drewN hB _⟩, by simp [intOf]; omega⟩
    · go_wp2_with fail
      go_ret
      exact ⟨by simp, hB⟩
end Go.Proofs.YtpibpjbeedcefaaDoor
