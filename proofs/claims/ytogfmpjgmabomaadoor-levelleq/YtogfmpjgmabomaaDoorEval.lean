/- The walks of level's Eval, Never. No condition but that what was given is a level that may be, and numbers, in memory. -/
import Derived.Test.YtogfmpjgmabomaaDoorVals
namespace Go.Proofs.YtogfmpjgmabomaaDoor
open Go.RowKit

theorem Lv.ok_mono {p m m' : Int} (hm : m ≤ m') (L : Lv) : ∀ d, L.ok p m d = true → L.ok p m' d = true := by
  refine Lv.ind (P := fun L => ∀ d, L.ok p m d = true → L.ok p m' d = true) ?_ L
  intro k n args ih d h
  rw [Lv.ok_mk] at h ⊢
  simp only [Bool.and_eq_true, decide_eq_true_eq] at h ⊢
  obtain ⟨⟨⟨h1, h2⟩, h3⟩, h4⟩ := h
  rw [Lv.oks_iff] at h4 ⊢
  exact ⟨⟨⟨by omega, h2⟩, h3⟩, fun L hL => ih L hL _ (h4 L hL)⟩

/-- A level that may be walked. -/
structure Fine (l : Lev) : Prop where
  walks : holdB 4 65536 1 65536 l.lv = true
  low : l.low 4
  size : l.size ≤ 65536

theorem fine_of_may {L : Lv} (h : mayB L 4 = true) : ∃ l : Lev, L = l.lv ∧ Fine l ∧ l.size ≤ 64 := by
  unfold mayB at h
  simp only [Bool.and_eq_true, decide_eq_true_eq] at h
  obtain ⟨h1, h2⟩ := h
  rw [show min (max (4 : Int) 0) 4 = 4 by decide] at h2
  obtain ⟨l, rfl, hl⟩ := lev_of_ok 4 32 L 1 h2
  rw [Lev.size_lv] at h1
  refine ⟨l, rfl, ⟨?_, hl, by omega⟩, h1⟩
  unfold holdB
  rw [Lv.ok_mono (by decide) _ _ h2, Lev.size_lv]
  simp; omega

theorem one_new (w : World) (c : List Value) (s : TypeId) : ∃ w1, w.alloc (.cells c.toArray s) = w1 ∧ Below w.heap.size w w1 ∧ Blk w1 w.heap.size s c ∧ w1.heap.size = w.heap.size + 1 :=
  ⟨_, rfl, (Below.refl _ _).alloc (Nat.le_refl _) _, Blk.new _ _ _, by simp⟩

set_option maxRecDepth 100000 in
set_option maxHeartbeats 400000 in
theorem eval_any (l : Lev) (hl : Fine l) (ao : Option Addr) (n cap : Nat) (zs : List Int) (w : World) (B : Nat) (val : Value) (hB2 : 2 ≤ B) (hB : B ≤ w.heap.size) (hT : Tabs w) (hin : In w (· < B) l.lv val) (hI : Ints w B ao n cap zs) :
    Calls Tryd.prog 13 #[val, .slice ao n cap] w fun e w' => e = .returned (.int .i64 ((l.val (vv zs) : Nat) : Int)) ∧ Below w.heap.size w w' := by
  obtain ⟨L, hL⟩ : ∃ L, l.lv = L := ⟨_, rfl⟩
  obtain ⟨k, m, args⟩ := L
  have hin' := hin
  rw [hL] at hin'
  obtain ⟨a, c, rfl, hN⟩ := hin'.node
  obtain ⟨w1, hw1, hb1, X, hs⟩ := one_new w [.int .i64 k, .int .i64 m, .slice a args.length c] 24
  have x0 := X.cell (j := 0) rfl
  have x1 := X.cell (j := 1) rfl
  have x2 := X.cell (j := 2) rfl
  have HL : Hid (l.lv = .mk k m args) := hL
  clear hL
  go_enter Tryd.func13, Tryd.ntmps13
  go_wp2_with (go_at_call 36; go_must (refine (walks_any l.lv w1 B _ hB2 (by omega) (hT.on hb1) (hin.below hb1 hB) hl.walks).mono ?_); rintro e w2 ⟨rfl, hb2⟩)
  have X2 := X.below hb2 (by omega)
  have y0 := over_cell (X2.cell (j := 0) rfl)
  have y1 := over_cell (X2.cell (j := 1) rfl)
  have y2 := over_cell (X2.cell (j := 2) rfl)
  have hb3 : Below w.heap.size w w2 := hb1.trans (hb2.mono (by omega))
  refine wp_region_over w2 (Below.refl _ _) (by kernel_rfl) (by kernel_rfl) ?_
  repeat (go_big_quiet_step (first
    | (go_at_call 37; exact Calls.over (valuesOf_any ao n cap zs _ B (Nat.le_trans hB (Nat.le_trans hb3.size (over_below w2 _).size)) (hI.below (hb3.trans ((over_below w2 _).mono hb3.size)) hB)))
    | (go_at_call 38; exact Calls.over (of_any (vv zs) (vv_le zs) l _ B _ hl.low hl.size (Nat.le_trans hB (Nat.le_trans hb3.size (over_below w2 _).size)) (hin.below (hb3.trans ((over_below w2 _).mono hb3.size)) hB)))))
  refine wpQuiet_nil ?_
  rintro _ ⟨u, rfl⟩
  go_wp2_with fail
  go_ret
  exact ⟨rfl, hb3.trans ((over_below w2 u).mono hb3.size)⟩

/-- What it is where all parameters are 0. -/
def Lev.least (l : Lev) : Nat := l.val (fun _ => 0)
theorem vv_nil : vv [] = fun _ => 0 := by funext i; exact vv_past [] (by simp)

set_option maxRecDepth 100000 in
set_option maxHeartbeats 400000 in
theorem never_any (l : Lev) (hl : Fine l) (w : World) (B : Nat) (val : Value) (hB2 : 2 ≤ B) (hB : B ≤ w.heap.size) (hT : Tabs w) (hin : In w (· < B) l.lv val) :
    Calls Tryd.prog 21 #[val] w fun e w' => e = .returned (.bool (decide (0 < l.least))) ∧ Below w.heap.size w w' := by
  obtain ⟨L, hL⟩ : ∃ L, l.lv = L := ⟨_, rfl⟩
  obtain ⟨k, m, args⟩ := L
  have hin' := hin
  rw [hL] at hin'
  obtain ⟨a, c, rfl, hN⟩ := hin'.node
  obtain ⟨w1, hw1, hb1, X, hs⟩ := one_new w [.int .i64 k, .int .i64 m, .slice a args.length c] 24
  have x0 := X.cell (j := 0) rfl
  have x1 := X.cell (j := 1) rfl
  have x2 := X.cell (j := 2) rfl
  have HL : Hid (l.lv = .mk k m args) := hL
  clear hL
  have hc := eval_any l hl none 0 0 [] w1 B _ hB2 (by omega) (hT.on hb1) (hin.below hb1 hB) (Ints.none _ _)
  rw [vv_nil] at hc
  go_enter Tryd.func21, Tryd.ntmps21
  go_wp2_with (go_at_call 13; refine hc.mono ?_; rintro e w2 ⟨rfl, hb2⟩)
  go_ret
  refine ⟨ret_bool ?_, hb1.trans (hb2.mono (by omega))⟩
  unfold Lev.least
  simp
end Go.Proofs.YtogfmpjgmabomaaDoor
