/- The walks of package text's name and isName: which texts are names. No condition. -/
import Derived.Test.YtekdalbhgdkckaaGreatDoorNm
import Derived.Deep.RegionHeld3
namespace Go.Proofs.YtekdalbhgdkckaaGreatDoor
open Go.RowKit

/-- All bytes go on with a name, and there are no more than 24. -/
def okN (s : List UInt8) : Bool := decide (s.length ≤ 24) && (List.range s.length).all (inN s)

theorem okN_iff {s : List UInt8} : okN s = true ↔ s.length ≤ 24 ∧ ∀ i, i < s.length → inN s i = true := by
  unfold okN
  simp [List.all_eq_true]

/-- A name. -/
def nmB (s : List UInt8) : Bool := isL (bt s 0) && okN s

theorem fail_any (g : Nat) (s : List UInt8) (i : Nat) (w : World) (hg : Blk w g 211 (rcl s i 0 0)) :
    Calls Tryz.prog 134 #[.pointer (some ⟨g, 0, none⟩), .int .i64 0, .int .i64 3] w fun e w' => e = .returned (.tuple #[]) ∧ Below g w w' := by
  have c2 := hg.cell (j := 2) rfl
  have c3 := hg.cell (j := 3) rfl
  have f2 := hg.frozen 2
  have f3 := hg.frozen 3
  clear hg
  go_enter Tryz.func134, Tryz.ntmps134
  go_wp2_with fail
  go_end0
  exact ⟨rfl, ((Below.refl _ _).setCell (p := ⟨g, 3, none⟩) (Nat.le_refl _) _).setCell (p := ⟨g, 2, none⟩) (Nat.le_refl _) _⟩

set_option maxRecDepth 100000 in
set_option maxHeartbeats 1000000 in
theorem name_any (g : Nat) (s : List UInt8) (w : World) (hg : Blk w g 211 (rcl s 0 0 0)) (hs : s.length ≤ 1000000000) :
    Calls Tryz.prog 129 #[.pointer (some ⟨g, 0, none⟩)] w fun e w' => ∃ r : List UInt8, e = .returned (.string ⟨r.toArray⟩) ∧ (r = s ↔ okN s = true) ∧ Below g w w' := by
  have hgl := hg.lt
  have c1 := hg.cell (j := 1) rfl
  go_enter Tryz.func129, Tryz.ntmps129
  go_wp2_with fail
  go_loopw [] (fun wr => ∃ k : Nat, k ≤ 24 ∧ (∀ j, j < k → inN s j = true) ∧ Blk wr g 211 (rcl s k 0 0) ∧ Below g w wr) (fun wr => 24 - (match wr.cell? ⟨g, 1, none⟩ with | some (.int _ n) => n.toNat | _ => 0))
  case atStart => exact ⟨0, by omega, fun j hj => absurd hj (Nat.not_lt_zero _), hg, Below.refl _ _⟩
  case round =>
    obtain ⟨k, hk, hall, hr, bel⟩ := hrel
    have h100 := inName_any g s k 0 0 wr hr hs (by omega)
    have d0 := hr.cell (j := 0) rfl
    have d1 := hr.cell (j := 1) rfl
    have f1 := hr.frozen 1
    by_cases hin : inN s k = true
    · rw [hin] at h100
      by_cases h24 : k = 24
      · subst h24
        have hlong : 24 < s.length := by
          by_cases h : 24 < s.length
          · exact h
          · rw [inN_end (by omega)] at hin; cases hin
        have HR : Hid (([] : List UInt8) = s ↔ okN s = true) := ⟨fun e => by subst e; simp at hlong, fun e => by have := (okN_iff.1 e).1; omega⟩
        have h101 := fail_any g s 24 wr hr
        clear hr hall hg
        go_wp2_with (first | (go_at_call 133; refine h100.mono ?_; rintro e w' ⟨rfl, rfl⟩) | (go_at_call 134; refine h101.mono ?_; rintro e w2 ⟨rfl, hb2⟩))
        go_ret
        exact ⟨[], rfl, HR.out, bel.trans hb2⟩
      · have e24 : ((k : Int) == 24) = false := by simp; omega
        go_wp2_with (go_at_call 133; refine h100.mono ?_; rintro e w' ⟨rfl, rfl⟩)
        go_roundw
        case measure => rw [World.cell?_setCell_same _ _ _ d1, d1]; simp; omega
        case rel => exact ⟨k + 1, by omega, fun j hj => by by_cases e : j = k; (subst e; exact hin); (exact hall j (by omega)), by simpa [rcl] using hr.set 1 (.int .i64 ((k : Int) + 1)), bel.setCell (p := ⟨g, 1, none⟩) (Nat.le_refl _) _⟩
    · have hinf : inN s k = false := by simpa using hin
      rw [hinf] at h100
      have hkl : k ≤ s.length := by
        by_cases h : k ≤ s.length
        · exact h
        · have := hall (k - 1) (by omega)
          rw [inN_end (by omega)] at this
          cases this
      have hex : (ByteArray.mk s.toArray).extract 0 k = ⟨(s.take k).toArray⟩ := by
        apply ByteArray.ext
        simp
      have HR : Hid (s.take k = s ↔ okN s = true) := by
        refine ⟨fun e => okN_iff.2 ⟨?_, fun i hi => hall i ?_⟩, fun e => ?_⟩
        · have := congrArg List.length e; simp at this; omega
        · have := congrArg List.length e; simp at this; omega
        · by_cases h : k < s.length
          · have := (okN_iff.1 e).2 k h; rw [hinf] at this; cases this
          · exact List.take_of_length_le (by omega)
      have h29 := clone29 ⟨(s.take k).toArray⟩ wr.drew (by simp [ByteArray.size]; omega)
      have hzz : (ByteArray.mk s.toArray).size = s.length := by simp [ByteArray.size]
      clear hall hin hinf hg
      go_wp2_with (go_at_call 133; refine h100.mono ?_; rintro e w' ⟨rfl, rfl⟩)
      clear h100
      go_region_held3 (fun w' => w'.cell? ⟨g, 0, none⟩ = some (.string ⟨s.toArray⟩) ∧ w'.cell? ⟨g, 1, none⟩ = some (.int .i64 (k : Int))) (go_keep) ((go_at_call 31; refine h29.mono ?_; rintro e w3 ⟨rfl, hb3⟩; have hb4 : Below wr.heap.size wr w3 := (bel_drewN (Below.refl _ wr) 1).trans hb3; have e0 := (bcell hb4).1 g 0 (by have := bel.size; omega); have e1 := (bcell hb4).1 g 1 (by have := bel.size; omega); have g0 := e0.trans d0; have g1 := e1.trans d1))
      go_wp2_with fail
      go_ret
      exact ⟨_, rfl, HR.out, bel.trans (hb4.mono (by have := bel.size; omega))⟩

set_option maxRecDepth 100000 in
theorem isName_any (s : List UInt8) (w : World) (hs : s.length ≤ 1000000000) :
    Calls Tryz.prog 117 #[tx s] w fun e w' => e = .returned (.bool (nmB s)) ∧ Below w.heap.size w w' := by
  obtain ⟨w1, HW1, hb1, B1, hs1⟩ := new_one w (rcl s 0 0 0) 211
  have h95 := next_any w.heap.size s 0 0 0 w1 B1 hs
  have h94 := letter_any (bt s 0) w1
  have h96 := name_any w.heap.size s w1 B1 hs
  obtain ⟨r, hr⟩ : ∃ r, nmB s = r := ⟨_, rfl⟩
  rw [hr]
  unfold nmB at hr
  unfold tx
  have HW : Hid (w.alloc (.cells #[.string ⟨s.toArray⟩, .int .i64 0, .int .i64 0, .int .i64 0, .map none, .map none, .int .i64 0, .int .i64 0] 211) = w1) := HW1
  clear HW1 B1
  cases hl : isL (bt s 0)
  · obtain rfl : false = r := by rw [← hr, hl]; rfl
    rw [hl] at h94
    clear hr hl h96
    go_enter Tryz.func117, Tryz.ntmps117
    go_wp2_with (first | (go_at_call 128; rw [HW.out]; refine h95.mono ?_; rintro e w2 ⟨rfl, rfl⟩) | (go_at_call 127; refine h94.mono ?_; rintro e w2 ⟨rfl, rfl⟩))
    go_ret
    exact ⟨by simp, hb1⟩
  · rw [hl] at h94
    have HR : Hid ((true && okN s) = r) := by rw [← hr, hl]; rfl
    clear hr hl
    clear hs1
    have fin : ∀ (t : List UInt8) (w2 : World) (q : Bool), (t = s ↔ okN s = true) → Below w.heap.size w1 w2 → q = decide (t = s) → Ending.returned (.bool q) = .returned (.bool r) ∧ Below w.heap.size w w2 := fun t w2 q ht hb2 hq => by
      refine ⟨ret_bool ?_, hb1.trans hb2⟩
      rw [hq, ← HR.out, Bool.true_and]
      cases hk : okN s
      · rw [decide_eq_false_iff_not, ht, hk]; simp
      · rw [decide_eq_true_eq, ht, hk]
    refine Calls.mono (R := fun e w' => ∃ t q, e = .returned (.bool q) ∧ (t = s ↔ okN s = true) ∧ Below w.heap.size w1 w' ∧ q = decide (t = s)) ?_ (by rintro e w' ⟨t, q, rfl, h1, h2, h3⟩; exact fin t w' q h1 h2 h3)
    clear fin HR
    go_enter Tryz.func117, Tryz.ntmps117
    go_wp2_with (first | (go_at_call 128; rw [HW.out]; refine h95.mono ?_; rintro e w2 ⟨rfl, rfl⟩) | (go_at_call 127; refine h94.mono ?_; rintro e w2 ⟨rfl, rfl⟩) | (go_at_call 129; refine h96.mono ?_; rintro e w2 ⟨t, rfl, ht, hb2⟩))
    go_ret
    refine ⟨t, _, rfl, ht, hb2, ?_⟩
    by_cases e : t = s
    · simp [e]
    · rw [decide_eq_false e, beq_eq_false_iff_ne.2 e]

end Go.Proofs.YtekdalbhgdkckaaGreatDoor
