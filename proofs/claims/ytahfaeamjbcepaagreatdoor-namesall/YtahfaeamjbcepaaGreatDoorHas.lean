/- The walk of names.Has: whether a rising list has a text. No condition but that the list can be read, rises, and is not too long. -/
import Derived.Test.YtahfaeamjbcepaaGreatDoorJoin
namespace Go.Proofs.YtahfaeamjbcepaaGreatDoor
open Go.RowKit

theorem search_any (ao : Option Addr) (n cap : Nat) (ss : List (List UInt8)) (x : List UInt8) (w : World) (hR : SR w ao n cap ss) (ha : Asc ss) (hn : n ≤ 100000) :
    Calls Tryz.prog 25 #[.slice ao n cap, tx x] w fun e w' => ∃ i : Int, e = .returned (.tuple #[.int .i64 i, .bool (decide (x ∈ ss))]) ∧ ∃ q, w' = w.drewN q := by
  have hl := hR.len
  by_cases h0 : n = 0
  · subst h0
    have hss : ss = [] := List.length_eq_zero_iff.1 hl
    subst hss
    have h := Any2.slices_BinarySearch_string_empty searchL ao cap ⟨x.toArray⟩ w
    change Calls Tryz.prog 25 _ _ _ at h
    refine h.mono ?_
    rintro e w' ⟨rfl, rfl⟩
    exact ⟨0, rfl, 0, rfl⟩
  · obtain ⟨b, off, rfl, hb, hc⟩ := hR.some (by omega)
    have h := Any2.slices_BinarySearch_string searchL b off n cap (fun j => ⟨(ss.getD j []).toArray⟩) ⟨x.toArray⟩ w (by omega) (fun j hj => by
      have hj' : j < ss.length := by omega
      have := hc j _ (List.getElem?_eq_getElem hj')
      rw [this]
      simp [tx, hj'])
    rw [bs_has ha x n hl (fun j => ⟨(ss.getD j []).toArray⟩) (fun j s hj => by simp [List.getD_eq_getElem?_getD, hj])] at h
    change Calls Tryz.prog 25 _ _ _ at h
    refine h.mono ?_
    rintro e w' ⟨rfl, q, rfl⟩
    exact ⟨_, rfl, q, rfl⟩

theorem has_any (ao : Option Addr) (n cap : Nat) (ss : List (List UInt8)) (x : List UInt8) (w : World) (hR : SR w ao n cap ss) (ha : Asc ss) (hn : n ≤ 100000) :
    Calls Tryz.prog 13 #[.slice ao n cap, tx x] w fun e w' => e = .returned (.bool (decide (x ∈ ss))) ∧ Below w.heap.size w w' := by
  have h := search_any ao n cap ss x w hR ha hn
  generalize decide (x ∈ ss) = r at *
  unfold tx at h ⊢
  clear hR ha
  go_enter Tryz.func13, Tryz.ntmps13
  go_wp2_with (go_at_call 25; refine h.mono ?_; rintro e w' ⟨i, rfl, q, rfl⟩)
  go_ret
  exact ⟨rfl, bel_drewN (Below.refl _ _) q⟩
end Go.Proofs.YtahfaeamjbcepaaGreatDoor
