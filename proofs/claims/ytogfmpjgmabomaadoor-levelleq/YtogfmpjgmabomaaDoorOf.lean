/- The walks of level.values.of and its five functions. No condition but that what was given is a level that may be, in memory. -/
import Derived.Test.YtogfmpjgmabomaaDoorMay2
import Derived.Test.YtogfmpjgmabomaaDoorArr
namespace Go.Proofs.YtogfmpjgmabomaaDoor
open Go.RowKit

theorem bcell' {W w1 : World} {B : Nat} (hb : Below B W w1) : ∀ b o, b < B → w1.cell? ⟨b, o, none⟩ = W.cell? ⟨b, o, none⟩ := fun b o h => hb.cell (p := ⟨b, o, none⟩) h

set_option maxRecDepth 100000 in
set_option maxHeartbeats 400000 in
theorem of_0 (r : Nat) (n : Int) (args : List Lv) (a : Option Addr) (cap : Nat) (v : Nat → Nat) (w : World)
    (hc : ∀ w', Below w.heap.size w w' → Calls Tryd.prog 49 #[.agg #[.int .i64 ((v 0 : Nat) : Int), .int .i64 ((v 1 : Nat) : Int), .int .i64 ((v 2 : Nat) : Int), .int .i64 ((v 3 : Nat) : Int)], .agg #[.int .i64 0, .int .i64 n, .slice a args.length cap]] w' fun e w'' => e = .returned (.int .i64 (r : Int)) ∧ Below w'.heap.size w' w'') :
    Calls Tryd.prog 38 #[.agg #[.int .i64 ((v 0 : Nat) : Int), .int .i64 ((v 1 : Nat) : Int), .int .i64 ((v 2 : Nat) : Int), .int .i64 ((v 3 : Nat) : Int)], .agg #[.int .i64 0, .int .i64 n, .slice a args.length cap]] w fun e w' => e = .returned (.int .i64 (r : Int)) ∧ Below w.heap.size w w' := by
  have hrs : ∀ (w : World) (a : Addr) (f : Nat), (store a (Value.func (Fn.func f) #[] #[])).run Tryd.prog w = _ := fun w a f => run_store Tryd.prog w a (.func (.func f) #[] #[]) .plain rfl
  obtain ⟨w1, hw1, hb1, X, Y, Z, hs⟩ : ∃ w1, ((w.alloc (.cells #[.int .i64 ((v 0 : Nat) : Int), .int .i64 ((v 1 : Nat) : Int), .int .i64 ((v 2 : Nat) : Int), .int .i64 ((v 3 : Nat) : Int)] 53)).alloc (.cells #[.int .i64 0, .int .i64 n, .slice a args.length cap] 24)).alloc (.cells #[.func (Fn.func 49) #[] #[], .func (Fn.func 50) #[] #[], .func (Fn.func 51) #[] #[], .func (Fn.func 52) #[] #[], .func (Fn.func 53) #[] #[]] 70) = w1 ∧ Below w.heap.size w w1 ∧ Blk w1 w.heap.size 53 [.int .i64 ((v 0 : Nat) : Int), .int .i64 ((v 1 : Nat) : Int), .int .i64 ((v 2 : Nat) : Int), .int .i64 ((v 3 : Nat) : Int)] ∧ Blk w1 (w.heap.size + 1) 24 [.int .i64 0, .int .i64 n, .slice a args.length cap] ∧ Blk w1 (w.heap.size + 1 + 1) 70 [.func (Fn.func 49) #[] #[], .func (Fn.func 50) #[] #[], .func (Fn.func 51) #[] #[], .func (Fn.func 52) #[] #[], .func (Fn.func 53) #[] #[]] ∧ w1.heap.size = w.heap.size + 3 := by
    refine ⟨_, rfl, (((Below.refl _ _).alloc (Nat.le_refl _) _).alloc (by simp) _).alloc (by simp; omega) _, ((Blk.new _ _ _).alloc _).alloc _, ?_, ?_, by simp⟩
    · have := (Blk.new (w.alloc (.cells #[.int .i64 ((v 0 : Nat) : Int), .int .i64 ((v 1 : Nat) : Int), .int .i64 ((v 2 : Nat) : Int), .int .i64 ((v 3 : Nat) : Int)] 53)) 24 [.int .i64 0, .int .i64 n, .slice a args.length cap]).alloc (.cells #[.func (Fn.func 49) #[] #[], .func (Fn.func 50) #[] #[], .func (Fn.func 51) #[] #[], .func (Fn.func 52) #[] #[], .func (Fn.func 53) #[] #[]] 70)
      simpa using this
    · have := Blk.new ((w.alloc (.cells #[.int .i64 ((v 0 : Nat) : Int), .int .i64 ((v 1 : Nat) : Int), .int .i64 ((v 2 : Nat) : Int), .int .i64 ((v 3 : Nat) : Int)] 53)).alloc (.cells #[.int .i64 0, .int .i64 n, .slice a args.length cap] 24)) 70 [.func (Fn.func 49) #[] #[], .func (Fn.func 50) #[] #[], .func (Fn.func 51) #[] #[], .func (Fn.func 52) #[] #[], .func (Fn.func 53) #[] #[]]
      simpa using this
  have x0 := X.cell (j := 0) rfl
  have x1 := X.cell (j := 1) rfl
  have x2 := X.cell (j := 2) rfl
  have x3 := X.cell (j := 3) rfl
  have y0 := Y.cell (j := 0) rfl
  have y1 := Y.cell (j := 1) rfl
  have y2 := Y.cell (j := 2) rfl
  have z := Z.cell (j := 0) rfl
  go_enter Tryd.func38, Tryd.ntmps38
  go_wp2_with fail
  go_region_held3 (fun w' => w'.cell? ⟨w.heap.size, 0, none⟩ = some (.int .i64 ((v 0 : Nat) : Int)) ∧ w'.cell? ⟨w.heap.size, 1, none⟩ = some (.int .i64 ((v 1 : Nat) : Int)) ∧ w'.cell? ⟨w.heap.size, 2, none⟩ = some (.int .i64 ((v 2 : Nat) : Int)) ∧ w'.cell? ⟨w.heap.size, 3, none⟩ = some (.int .i64 ((v 3 : Nat) : Int)) ∧ w'.cell? ⟨w.heap.size + 1, 0, none⟩ = some (.int .i64 0) ∧ w'.cell? ⟨w.heap.size + 1, 1, none⟩ = some (.int .i64 n) ∧ w'.cell? ⟨w.heap.size + 1, 2, none⟩ = some (.slice a args.length cap) ∧ w'.cell? ⟨w.heap.size + 1 + 1, 0, none⟩ = some (.func (Fn.func 49) #[] #[])) (go_keep)
    ((go_at_call 49; refine (hc w1.drew hb1.drew).mono ?_; rintro e w2 ⟨rfl, hb2⟩; have hcc := bcell' hb2; have hz : w1.drew.heap.size = w.heap.size + 3 := hs))
  go_wp2_with fail
  go_ret
  exact ⟨rfl, hb1.drew.trans (hb2.mono (show w.heap.size ≤ w1.heap.size by omega))⟩

set_option maxRecDepth 100000 in
set_option maxHeartbeats 400000 in
theorem of_1 (r : Nat) (n : Int) (args : List Lv) (a : Option Addr) (cap : Nat) (v : Nat → Nat) (w : World)
    (hc : ∀ w', Below w.heap.size w w' → Calls Tryd.prog 50 #[.agg #[.int .i64 ((v 0 : Nat) : Int), .int .i64 ((v 1 : Nat) : Int), .int .i64 ((v 2 : Nat) : Int), .int .i64 ((v 3 : Nat) : Int)], .agg #[.int .i64 1, .int .i64 n, .slice a args.length cap]] w' fun e w'' => e = .returned (.int .i64 (r : Int)) ∧ Below w'.heap.size w' w'') :
    Calls Tryd.prog 38 #[.agg #[.int .i64 ((v 0 : Nat) : Int), .int .i64 ((v 1 : Nat) : Int), .int .i64 ((v 2 : Nat) : Int), .int .i64 ((v 3 : Nat) : Int)], .agg #[.int .i64 1, .int .i64 n, .slice a args.length cap]] w fun e w' => e = .returned (.int .i64 (r : Int)) ∧ Below w.heap.size w w' := by
  have hrs : ∀ (w : World) (a : Addr) (f : Nat), (store a (Value.func (Fn.func f) #[] #[])).run Tryd.prog w = _ := fun w a f => run_store Tryd.prog w a (.func (.func f) #[] #[]) .plain rfl
  obtain ⟨w1, hw1, hb1, X, Y, Z, hs⟩ : ∃ w1, ((w.alloc (.cells #[.int .i64 ((v 0 : Nat) : Int), .int .i64 ((v 1 : Nat) : Int), .int .i64 ((v 2 : Nat) : Int), .int .i64 ((v 3 : Nat) : Int)] 53)).alloc (.cells #[.int .i64 1, .int .i64 n, .slice a args.length cap] 24)).alloc (.cells #[.func (Fn.func 49) #[] #[], .func (Fn.func 50) #[] #[], .func (Fn.func 51) #[] #[], .func (Fn.func 52) #[] #[], .func (Fn.func 53) #[] #[]] 70) = w1 ∧ Below w.heap.size w w1 ∧ Blk w1 w.heap.size 53 [.int .i64 ((v 0 : Nat) : Int), .int .i64 ((v 1 : Nat) : Int), .int .i64 ((v 2 : Nat) : Int), .int .i64 ((v 3 : Nat) : Int)] ∧ Blk w1 (w.heap.size + 1) 24 [.int .i64 1, .int .i64 n, .slice a args.length cap] ∧ Blk w1 (w.heap.size + 1 + 1) 70 [.func (Fn.func 49) #[] #[], .func (Fn.func 50) #[] #[], .func (Fn.func 51) #[] #[], .func (Fn.func 52) #[] #[], .func (Fn.func 53) #[] #[]] ∧ w1.heap.size = w.heap.size + 3 := by
    refine ⟨_, rfl, (((Below.refl _ _).alloc (Nat.le_refl _) _).alloc (by simp) _).alloc (by simp; omega) _, ((Blk.new _ _ _).alloc _).alloc _, ?_, ?_, by simp⟩
    · have := (Blk.new (w.alloc (.cells #[.int .i64 ((v 0 : Nat) : Int), .int .i64 ((v 1 : Nat) : Int), .int .i64 ((v 2 : Nat) : Int), .int .i64 ((v 3 : Nat) : Int)] 53)) 24 [.int .i64 1, .int .i64 n, .slice a args.length cap]).alloc (.cells #[.func (Fn.func 49) #[] #[], .func (Fn.func 50) #[] #[], .func (Fn.func 51) #[] #[], .func (Fn.func 52) #[] #[], .func (Fn.func 53) #[] #[]] 70)
      simpa using this
    · have := Blk.new ((w.alloc (.cells #[.int .i64 ((v 0 : Nat) : Int), .int .i64 ((v 1 : Nat) : Int), .int .i64 ((v 2 : Nat) : Int), .int .i64 ((v 3 : Nat) : Int)] 53)).alloc (.cells #[.int .i64 1, .int .i64 n, .slice a args.length cap] 24)) 70 [.func (Fn.func 49) #[] #[], .func (Fn.func 50) #[] #[], .func (Fn.func 51) #[] #[], .func (Fn.func 52) #[] #[], .func (Fn.func 53) #[] #[]]
      simpa using this
  have x0 := X.cell (j := 0) rfl
  have x1 := X.cell (j := 1) rfl
  have x2 := X.cell (j := 2) rfl
  have x3 := X.cell (j := 3) rfl
  have y0 := Y.cell (j := 0) rfl
  have y1 := Y.cell (j := 1) rfl
  have y2 := Y.cell (j := 2) rfl
  have z := Z.cell (j := 1) rfl
  go_enter Tryd.func38, Tryd.ntmps38
  go_wp2_with fail
  go_region_held3 (fun w' => w'.cell? ⟨w.heap.size, 0, none⟩ = some (.int .i64 ((v 0 : Nat) : Int)) ∧ w'.cell? ⟨w.heap.size, 1, none⟩ = some (.int .i64 ((v 1 : Nat) : Int)) ∧ w'.cell? ⟨w.heap.size, 2, none⟩ = some (.int .i64 ((v 2 : Nat) : Int)) ∧ w'.cell? ⟨w.heap.size, 3, none⟩ = some (.int .i64 ((v 3 : Nat) : Int)) ∧ w'.cell? ⟨w.heap.size + 1, 0, none⟩ = some (.int .i64 1) ∧ w'.cell? ⟨w.heap.size + 1, 1, none⟩ = some (.int .i64 n) ∧ w'.cell? ⟨w.heap.size + 1, 2, none⟩ = some (.slice a args.length cap) ∧ w'.cell? ⟨w.heap.size + 1 + 1, 1, none⟩ = some (.func (Fn.func 50) #[] #[])) (go_keep)
    ((go_at_call 50; refine (hc w1.drew hb1.drew).mono ?_; rintro e w2 ⟨rfl, hb2⟩; have hcc := bcell' hb2; have hz : w1.drew.heap.size = w.heap.size + 3 := hs))
  go_wp2_with fail
  go_ret
  exact ⟨rfl, hb1.drew.trans (hb2.mono (show w.heap.size ≤ w1.heap.size by omega))⟩

set_option maxRecDepth 100000 in
set_option maxHeartbeats 400000 in
theorem of_2 (r : Nat) (n : Int) (args : List Lv) (a : Option Addr) (cap : Nat) (v : Nat → Nat) (w : World)
    (hc : ∀ w', Below w.heap.size w w' → Calls Tryd.prog 51 #[.agg #[.int .i64 ((v 0 : Nat) : Int), .int .i64 ((v 1 : Nat) : Int), .int .i64 ((v 2 : Nat) : Int), .int .i64 ((v 3 : Nat) : Int)], .agg #[.int .i64 2, .int .i64 n, .slice a args.length cap]] w' fun e w'' => e = .returned (.int .i64 (r : Int)) ∧ Below w'.heap.size w' w'') :
    Calls Tryd.prog 38 #[.agg #[.int .i64 ((v 0 : Nat) : Int), .int .i64 ((v 1 : Nat) : Int), .int .i64 ((v 2 : Nat) : Int), .int .i64 ((v 3 : Nat) : Int)], .agg #[.int .i64 2, .int .i64 n, .slice a args.length cap]] w fun e w' => e = .returned (.int .i64 (r : Int)) ∧ Below w.heap.size w w' := by
  have hrs : ∀ (w : World) (a : Addr) (f : Nat), (store a (Value.func (Fn.func f) #[] #[])).run Tryd.prog w = _ := fun w a f => run_store Tryd.prog w a (.func (.func f) #[] #[]) .plain rfl
  obtain ⟨w1, hw1, hb1, X, Y, Z, hs⟩ : ∃ w1, ((w.alloc (.cells #[.int .i64 ((v 0 : Nat) : Int), .int .i64 ((v 1 : Nat) : Int), .int .i64 ((v 2 : Nat) : Int), .int .i64 ((v 3 : Nat) : Int)] 53)).alloc (.cells #[.int .i64 2, .int .i64 n, .slice a args.length cap] 24)).alloc (.cells #[.func (Fn.func 49) #[] #[], .func (Fn.func 50) #[] #[], .func (Fn.func 51) #[] #[], .func (Fn.func 52) #[] #[], .func (Fn.func 53) #[] #[]] 70) = w1 ∧ Below w.heap.size w w1 ∧ Blk w1 w.heap.size 53 [.int .i64 ((v 0 : Nat) : Int), .int .i64 ((v 1 : Nat) : Int), .int .i64 ((v 2 : Nat) : Int), .int .i64 ((v 3 : Nat) : Int)] ∧ Blk w1 (w.heap.size + 1) 24 [.int .i64 2, .int .i64 n, .slice a args.length cap] ∧ Blk w1 (w.heap.size + 1 + 1) 70 [.func (Fn.func 49) #[] #[], .func (Fn.func 50) #[] #[], .func (Fn.func 51) #[] #[], .func (Fn.func 52) #[] #[], .func (Fn.func 53) #[] #[]] ∧ w1.heap.size = w.heap.size + 3 := by
    refine ⟨_, rfl, (((Below.refl _ _).alloc (Nat.le_refl _) _).alloc (by simp) _).alloc (by simp; omega) _, ((Blk.new _ _ _).alloc _).alloc _, ?_, ?_, by simp⟩
    · have := (Blk.new (w.alloc (.cells #[.int .i64 ((v 0 : Nat) : Int), .int .i64 ((v 1 : Nat) : Int), .int .i64 ((v 2 : Nat) : Int), .int .i64 ((v 3 : Nat) : Int)] 53)) 24 [.int .i64 2, .int .i64 n, .slice a args.length cap]).alloc (.cells #[.func (Fn.func 49) #[] #[], .func (Fn.func 50) #[] #[], .func (Fn.func 51) #[] #[], .func (Fn.func 52) #[] #[], .func (Fn.func 53) #[] #[]] 70)
      simpa using this
    · have := Blk.new ((w.alloc (.cells #[.int .i64 ((v 0 : Nat) : Int), .int .i64 ((v 1 : Nat) : Int), .int .i64 ((v 2 : Nat) : Int), .int .i64 ((v 3 : Nat) : Int)] 53)).alloc (.cells #[.int .i64 2, .int .i64 n, .slice a args.length cap] 24)) 70 [.func (Fn.func 49) #[] #[], .func (Fn.func 50) #[] #[], .func (Fn.func 51) #[] #[], .func (Fn.func 52) #[] #[], .func (Fn.func 53) #[] #[]]
      simpa using this
  have x0 := X.cell (j := 0) rfl
  have x1 := X.cell (j := 1) rfl
  have x2 := X.cell (j := 2) rfl
  have x3 := X.cell (j := 3) rfl
  have y0 := Y.cell (j := 0) rfl
  have y1 := Y.cell (j := 1) rfl
  have y2 := Y.cell (j := 2) rfl
  have z := Z.cell (j := 2) rfl
  go_enter Tryd.func38, Tryd.ntmps38
  go_wp2_with fail
  go_region_held3 (fun w' => w'.cell? ⟨w.heap.size, 0, none⟩ = some (.int .i64 ((v 0 : Nat) : Int)) ∧ w'.cell? ⟨w.heap.size, 1, none⟩ = some (.int .i64 ((v 1 : Nat) : Int)) ∧ w'.cell? ⟨w.heap.size, 2, none⟩ = some (.int .i64 ((v 2 : Nat) : Int)) ∧ w'.cell? ⟨w.heap.size, 3, none⟩ = some (.int .i64 ((v 3 : Nat) : Int)) ∧ w'.cell? ⟨w.heap.size + 1, 0, none⟩ = some (.int .i64 2) ∧ w'.cell? ⟨w.heap.size + 1, 1, none⟩ = some (.int .i64 n) ∧ w'.cell? ⟨w.heap.size + 1, 2, none⟩ = some (.slice a args.length cap) ∧ w'.cell? ⟨w.heap.size + 1 + 1, 2, none⟩ = some (.func (Fn.func 51) #[] #[])) (go_keep)
    ((go_at_call 51; refine (hc w1.drew hb1.drew).mono ?_; rintro e w2 ⟨rfl, hb2⟩; have hcc := bcell' hb2; have hz : w1.drew.heap.size = w.heap.size + 3 := hs))
  go_wp2_with fail
  go_ret
  exact ⟨rfl, hb1.drew.trans (hb2.mono (show w.heap.size ≤ w1.heap.size by omega))⟩

set_option maxRecDepth 100000 in
set_option maxHeartbeats 400000 in
theorem of_3 (r : Nat) (n : Int) (args : List Lv) (a : Option Addr) (cap : Nat) (v : Nat → Nat) (w : World)
    (hc : ∀ w', Below w.heap.size w w' → Calls Tryd.prog 52 #[.agg #[.int .i64 ((v 0 : Nat) : Int), .int .i64 ((v 1 : Nat) : Int), .int .i64 ((v 2 : Nat) : Int), .int .i64 ((v 3 : Nat) : Int)], .agg #[.int .i64 3, .int .i64 n, .slice a args.length cap]] w' fun e w'' => e = .returned (.int .i64 (r : Int)) ∧ Below w'.heap.size w' w'') :
    Calls Tryd.prog 38 #[.agg #[.int .i64 ((v 0 : Nat) : Int), .int .i64 ((v 1 : Nat) : Int), .int .i64 ((v 2 : Nat) : Int), .int .i64 ((v 3 : Nat) : Int)], .agg #[.int .i64 3, .int .i64 n, .slice a args.length cap]] w fun e w' => e = .returned (.int .i64 (r : Int)) ∧ Below w.heap.size w w' := by
  have hrs : ∀ (w : World) (a : Addr) (f : Nat), (store a (Value.func (Fn.func f) #[] #[])).run Tryd.prog w = _ := fun w a f => run_store Tryd.prog w a (.func (.func f) #[] #[]) .plain rfl
  obtain ⟨w1, hw1, hb1, X, Y, Z, hs⟩ : ∃ w1, ((w.alloc (.cells #[.int .i64 ((v 0 : Nat) : Int), .int .i64 ((v 1 : Nat) : Int), .int .i64 ((v 2 : Nat) : Int), .int .i64 ((v 3 : Nat) : Int)] 53)).alloc (.cells #[.int .i64 3, .int .i64 n, .slice a args.length cap] 24)).alloc (.cells #[.func (Fn.func 49) #[] #[], .func (Fn.func 50) #[] #[], .func (Fn.func 51) #[] #[], .func (Fn.func 52) #[] #[], .func (Fn.func 53) #[] #[]] 70) = w1 ∧ Below w.heap.size w w1 ∧ Blk w1 w.heap.size 53 [.int .i64 ((v 0 : Nat) : Int), .int .i64 ((v 1 : Nat) : Int), .int .i64 ((v 2 : Nat) : Int), .int .i64 ((v 3 : Nat) : Int)] ∧ Blk w1 (w.heap.size + 1) 24 [.int .i64 3, .int .i64 n, .slice a args.length cap] ∧ Blk w1 (w.heap.size + 1 + 1) 70 [.func (Fn.func 49) #[] #[], .func (Fn.func 50) #[] #[], .func (Fn.func 51) #[] #[], .func (Fn.func 52) #[] #[], .func (Fn.func 53) #[] #[]] ∧ w1.heap.size = w.heap.size + 3 := by
    refine ⟨_, rfl, (((Below.refl _ _).alloc (Nat.le_refl _) _).alloc (by simp) _).alloc (by simp; omega) _, ((Blk.new _ _ _).alloc _).alloc _, ?_, ?_, by simp⟩
    · have := (Blk.new (w.alloc (.cells #[.int .i64 ((v 0 : Nat) : Int), .int .i64 ((v 1 : Nat) : Int), .int .i64 ((v 2 : Nat) : Int), .int .i64 ((v 3 : Nat) : Int)] 53)) 24 [.int .i64 3, .int .i64 n, .slice a args.length cap]).alloc (.cells #[.func (Fn.func 49) #[] #[], .func (Fn.func 50) #[] #[], .func (Fn.func 51) #[] #[], .func (Fn.func 52) #[] #[], .func (Fn.func 53) #[] #[]] 70)
      simpa using this
    · have := Blk.new ((w.alloc (.cells #[.int .i64 ((v 0 : Nat) : Int), .int .i64 ((v 1 : Nat) : Int), .int .i64 ((v 2 : Nat) : Int), .int .i64 ((v 3 : Nat) : Int)] 53)).alloc (.cells #[.int .i64 3, .int .i64 n, .slice a args.length cap] 24)) 70 [.func (Fn.func 49) #[] #[], .func (Fn.func 50) #[] #[], .func (Fn.func 51) #[] #[], .func (Fn.func 52) #[] #[], .func (Fn.func 53) #[] #[]]
      simpa using this
  have x0 := X.cell (j := 0) rfl
  have x1 := X.cell (j := 1) rfl
  have x2 := X.cell (j := 2) rfl
  have x3 := X.cell (j := 3) rfl
  have y0 := Y.cell (j := 0) rfl
  have y1 := Y.cell (j := 1) rfl
  have y2 := Y.cell (j := 2) rfl
  have z := Z.cell (j := 3) rfl
  go_enter Tryd.func38, Tryd.ntmps38
  go_wp2_with fail
  go_region_held3 (fun w' => w'.cell? ⟨w.heap.size, 0, none⟩ = some (.int .i64 ((v 0 : Nat) : Int)) ∧ w'.cell? ⟨w.heap.size, 1, none⟩ = some (.int .i64 ((v 1 : Nat) : Int)) ∧ w'.cell? ⟨w.heap.size, 2, none⟩ = some (.int .i64 ((v 2 : Nat) : Int)) ∧ w'.cell? ⟨w.heap.size, 3, none⟩ = some (.int .i64 ((v 3 : Nat) : Int)) ∧ w'.cell? ⟨w.heap.size + 1, 0, none⟩ = some (.int .i64 3) ∧ w'.cell? ⟨w.heap.size + 1, 1, none⟩ = some (.int .i64 n) ∧ w'.cell? ⟨w.heap.size + 1, 2, none⟩ = some (.slice a args.length cap) ∧ w'.cell? ⟨w.heap.size + 1 + 1, 3, none⟩ = some (.func (Fn.func 52) #[] #[])) (go_keep)
    ((go_at_call 52; refine (hc w1.drew hb1.drew).mono ?_; rintro e w2 ⟨rfl, hb2⟩; have hcc := bcell' hb2; have hz : w1.drew.heap.size = w.heap.size + 3 := hs))
  go_wp2_with fail
  go_ret
  exact ⟨rfl, hb1.drew.trans (hb2.mono (show w.heap.size ≤ w1.heap.size by omega))⟩

set_option maxRecDepth 100000 in
set_option maxHeartbeats 400000 in
theorem of_4 (r : Nat) (n : Int) (args : List Lv) (a : Option Addr) (cap : Nat) (v : Nat → Nat) (w : World)
    (hc : ∀ w', Below w.heap.size w w' → Calls Tryd.prog 53 #[.agg #[.int .i64 ((v 0 : Nat) : Int), .int .i64 ((v 1 : Nat) : Int), .int .i64 ((v 2 : Nat) : Int), .int .i64 ((v 3 : Nat) : Int)], .agg #[.int .i64 4, .int .i64 n, .slice a args.length cap]] w' fun e w'' => e = .returned (.int .i64 (r : Int)) ∧ Below w'.heap.size w' w'') :
    Calls Tryd.prog 38 #[.agg #[.int .i64 ((v 0 : Nat) : Int), .int .i64 ((v 1 : Nat) : Int), .int .i64 ((v 2 : Nat) : Int), .int .i64 ((v 3 : Nat) : Int)], .agg #[.int .i64 4, .int .i64 n, .slice a args.length cap]] w fun e w' => e = .returned (.int .i64 (r : Int)) ∧ Below w.heap.size w w' := by
  have hrs : ∀ (w : World) (a : Addr) (f : Nat), (store a (Value.func (Fn.func f) #[] #[])).run Tryd.prog w = _ := fun w a f => run_store Tryd.prog w a (.func (.func f) #[] #[]) .plain rfl
  obtain ⟨w1, hw1, hb1, X, Y, Z, hs⟩ : ∃ w1, ((w.alloc (.cells #[.int .i64 ((v 0 : Nat) : Int), .int .i64 ((v 1 : Nat) : Int), .int .i64 ((v 2 : Nat) : Int), .int .i64 ((v 3 : Nat) : Int)] 53)).alloc (.cells #[.int .i64 4, .int .i64 n, .slice a args.length cap] 24)).alloc (.cells #[.func (Fn.func 49) #[] #[], .func (Fn.func 50) #[] #[], .func (Fn.func 51) #[] #[], .func (Fn.func 52) #[] #[], .func (Fn.func 53) #[] #[]] 70) = w1 ∧ Below w.heap.size w w1 ∧ Blk w1 w.heap.size 53 [.int .i64 ((v 0 : Nat) : Int), .int .i64 ((v 1 : Nat) : Int), .int .i64 ((v 2 : Nat) : Int), .int .i64 ((v 3 : Nat) : Int)] ∧ Blk w1 (w.heap.size + 1) 24 [.int .i64 4, .int .i64 n, .slice a args.length cap] ∧ Blk w1 (w.heap.size + 1 + 1) 70 [.func (Fn.func 49) #[] #[], .func (Fn.func 50) #[] #[], .func (Fn.func 51) #[] #[], .func (Fn.func 52) #[] #[], .func (Fn.func 53) #[] #[]] ∧ w1.heap.size = w.heap.size + 3 := by
    refine ⟨_, rfl, (((Below.refl _ _).alloc (Nat.le_refl _) _).alloc (by simp) _).alloc (by simp; omega) _, ((Blk.new _ _ _).alloc _).alloc _, ?_, ?_, by simp⟩
    · have := (Blk.new (w.alloc (.cells #[.int .i64 ((v 0 : Nat) : Int), .int .i64 ((v 1 : Nat) : Int), .int .i64 ((v 2 : Nat) : Int), .int .i64 ((v 3 : Nat) : Int)] 53)) 24 [.int .i64 4, .int .i64 n, .slice a args.length cap]).alloc (.cells #[.func (Fn.func 49) #[] #[], .func (Fn.func 50) #[] #[], .func (Fn.func 51) #[] #[], .func (Fn.func 52) #[] #[], .func (Fn.func 53) #[] #[]] 70)
      simpa using this
    · have := Blk.new ((w.alloc (.cells #[.int .i64 ((v 0 : Nat) : Int), .int .i64 ((v 1 : Nat) : Int), .int .i64 ((v 2 : Nat) : Int), .int .i64 ((v 3 : Nat) : Int)] 53)).alloc (.cells #[.int .i64 4, .int .i64 n, .slice a args.length cap] 24)) 70 [.func (Fn.func 49) #[] #[], .func (Fn.func 50) #[] #[], .func (Fn.func 51) #[] #[], .func (Fn.func 52) #[] #[], .func (Fn.func 53) #[] #[]]
      simpa using this
  have x0 := X.cell (j := 0) rfl
  have x1 := X.cell (j := 1) rfl
  have x2 := X.cell (j := 2) rfl
  have x3 := X.cell (j := 3) rfl
  have y0 := Y.cell (j := 0) rfl
  have y1 := Y.cell (j := 1) rfl
  have y2 := Y.cell (j := 2) rfl
  have z := Z.cell (j := 4) rfl
  go_enter Tryd.func38, Tryd.ntmps38
  go_wp2_with fail
  go_region_held3 (fun w' => w'.cell? ⟨w.heap.size, 0, none⟩ = some (.int .i64 ((v 0 : Nat) : Int)) ∧ w'.cell? ⟨w.heap.size, 1, none⟩ = some (.int .i64 ((v 1 : Nat) : Int)) ∧ w'.cell? ⟨w.heap.size, 2, none⟩ = some (.int .i64 ((v 2 : Nat) : Int)) ∧ w'.cell? ⟨w.heap.size, 3, none⟩ = some (.int .i64 ((v 3 : Nat) : Int)) ∧ w'.cell? ⟨w.heap.size + 1, 0, none⟩ = some (.int .i64 4) ∧ w'.cell? ⟨w.heap.size + 1, 1, none⟩ = some (.int .i64 n) ∧ w'.cell? ⟨w.heap.size + 1, 2, none⟩ = some (.slice a args.length cap) ∧ w'.cell? ⟨w.heap.size + 1 + 1, 4, none⟩ = some (.func (Fn.func 53) #[] #[])) (go_keep)
    ((go_at_call 53; refine (hc w1.drew hb1.drew).mono ?_; rintro e w2 ⟨rfl, hb2⟩; have hcc := bcell' hb2; have hz : w1.drew.heap.size = w.heap.size + 3 := hs))
  go_wp2_with fail
  go_ret
  exact ⟨rfl, hb1.drew.trans (hb2.mono (show w.heap.size ≤ w1.heap.size by omega))⟩
end Go.Proofs.YtogfmpjgmabomaaDoor
