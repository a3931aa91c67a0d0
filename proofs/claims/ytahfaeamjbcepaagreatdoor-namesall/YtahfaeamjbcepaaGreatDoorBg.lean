/- The walks of the law's begun, light and alike, and of the document's Less. No condition but that what comes in can be read. -/
import Derived.Test.YtahfaeamjbcepaaGreatDoorShw
import Derived.Test.YtahfaeamjbcepaaGreatDoorHas
namespace Go.Proofs.YtahfaeamjbcepaaGreatDoor
open Go.RowKit

/-- No more than 60 texts, none longer than 60 bytes. -/
def lightB (ss : List (List UInt8)) : Bool := decide (ss.length ≤ 60) && ss.all fun s => decide (s.length ≤ 60)

theorem lightB_iff {ss : List (List UInt8)} : lightB ss = true ↔ ss.length ≤ 60 ∧ ∀ s ∈ ss, s.length ≤ 60 := by
  unfold lightB
  simp [List.all_eq_true]

theorem lightB_no {ss : List (List UInt8)} {j : Nat} {s : List UInt8} (h : ss[j]? = some s) (hl : ¬ s.length ≤ 60) : lightB ss = false := by
  cases hb : lightB ss
  · rfl
  · exact absurd ((lightB_iff.1 hb).2 s (List.mem_of_getElem? h)) hl

set_option maxRecDepth 100000 in
theorem light_any (ao : Option Addr) (n cap : Nat) (ss : List (List UInt8)) (w : World) (hR : SR w ao n cap ss) :
    Calls Tryz.prog 6 #[.slice ao n cap] w fun e w' => e = .returned (.bool (lightB ss)) ∧ w = w' := by
  have hl := hR.len
  have hle := hR.le
  have hmx := hR.max
  unfold maxLen at hmx
  by_cases h60 : n ≤ 60
  · have d60 : decide ((60 : Int) < (n : Int)) = false := by simp; omega
    have HL : Hid (ss.length = n) := hl
    clear hl
    go_enter Tryz.func6, Tryz.ntmps6
    go_wp2_with fail
    go_loop [3] (fun s3 => ∃ k : Nat, k ≤ n ∧ s3 = .int .i64 (k : Int) ∧ ∀ j s, j < k → ss[j]? = some s → s.length ≤ 60) (fun s3 => n - (intOf s3).toNat)
    case atStart => exact ⟨0, Nat.zero_le _, rfl, fun j s hj => absurd hj (Nat.not_lt_zero _)⟩
    case round =>
      obtain ⟨k, hk, rfl, hall⟩ := hrel
      by_cases hlt : k < n
      · obtain ⟨s, hs⟩ : ∃ s, ss[k]? = some s := ⟨_, List.getElem?_eq_getElem (by rw [HL.out]; exact hlt)⟩
        obtain ⟨b, off, rfl, hbl, hcell⟩ := hR.cells k s hs
        have hd : decide ((k : Int) < (n : Int)) = true := by simpa using hlt
        have hsz : (ByteArray.mk s.toArray).size = s.length := by simp [ByteArray.size]
        unfold tx at hcell
        by_cases hs60 : s.length ≤ 60
        · have e60 : decide ((60 : Int) < (s.length : Int)) = false := by simp; omega
          have HA : Hid (∀ j s, j < k + 1 → ss[j]? = some s → s.length ≤ 60) := fun j s' hj hs' => by
            by_cases e : j = k
            · subst e; rw [hs] at hs'; cases hs'; exact hs60
            · exact hall j s' (by omega) hs'
          clear hall hR hs
          go_wp2_with fail
          go_round
          case measure => simp [intOf]; omega
          case rel => exact ⟨k + 1, by omega, rfl, HA.out⟩
        · have e60 : decide ((60 : Int) < (s.length : Int)) = true := by simp; omega
          have HF : Hid (lightB ss = false) := lightB_no hs hs60
          clear hall hR hs
          go_wp2_with fail
          go_ret
          exact ⟨ret_bool HF.out.symm, rfl⟩
      · have hke : k = n := by omega
        subst hke
        have hd : decide ((k : Int) < (k : Int)) = false := by simp
        have HF : Hid (lightB ss = true) := lightB_iff.2 ⟨by rw [HL.out]; exact h60, fun s hs => by
          obtain ⟨j, hj, e⟩ := List.getElem_of_mem hs
          exact hall j s (by rw [← HL.out]; exact hj) (by rw [List.getElem?_eq_getElem hj, e])⟩
        clear hall hR
        go_wp2_with fail
        go_ret
        exact ⟨ret_bool HF.out.symm, rfl⟩
  · have d60 : decide ((60 : Int) < (n : Int)) = true := by simp; omega
    have hF : lightB ss = false := by
      cases hb : lightB ss
      · rfl
      · have := (lightB_iff.1 hb).1; omega
    rw [hF]
    clear hR hF hl
    go_enter Tryz.func6, Tryz.ntmps6
    go_wp2_with fail
    go_ret
    exact ⟨rfl, rfl⟩
end Go.Proofs.YtahfaeamjbcepaaGreatDoor
