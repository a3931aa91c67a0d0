/- The walks of level's everywhere, Leq, Same. No condition but that what was given are levels that may be, in memory, and that the tables hold what the program's text lays. -/
import Derived.Test.YtogfmpjgmabomaaDoorPlace
namespace Go.Proofs.YtogfmpjgmabomaaDoor
open Go.RowKit

/-- Below which number the parameters of both are. -/
def pars (a b : Lev) : Nat := (max a.lv.used b.lv.used).toNat
/-- Does R hold at all places? -/
def evB (R : Nat → Nat → Bool) (a b : Lev) : Bool := (List.range (3 ^ pars a b)).all fun i => R (a.val (pl i)) (b.val (pl i))
def leR (x y : Nat) : Bool := decide (x ≤ y)
def eqR (x y : Nat) : Bool := decide (x = y)

theorem Fine.used {l : Lev} (h : Fine l) : l.lv.used ≤ 4 := by
  have := h.walks
  unfold holdB at this
  simp only [Bool.and_eq_true] at this
  exact Lv.used_le (by decide) _ _ this.1
theorem pars_le {a b : Lev} (ha : Fine a) (hb : Fine b) : pars a b ≤ 4 := by
  unfold pars
  have := ha.used
  have := hb.used
  omega
theorem evB_true {R : Nat → Nat → Bool} {a b : Lev} (h : ∀ i, i < 3 ^ pars a b → R (a.val (pl i)) (b.val (pl i)) = true) : evB R a b = true := by
  unfold evB
  rw [List.all_eq_true]
  intro i hi
  exact h i (by simpa using hi)
theorem evB_false {R : Nat → Nat → Bool} {a b : Lev} {i : Nat} (hi : i < 3 ^ pars a b) (h : R (a.val (pl i)) (b.val (pl i)) = false) : evB R a b = false := by
  unfold evB
  rw [List.all_eq_false]
  exact ⟨i, by simpa using hi, by rw [h]; decide⟩

set_option maxRecDepth 100000 in
set_option maxHeartbeats 1000000 in
theorem every_leq (a b : Lev) (ha : Fine a) (hb : Fine b) (w : World) (B : Nat) (va vb : Value) (hB2 : 2 ≤ B) (hB : B ≤ w.heap.size) (hT : Tabs w) (hina : In w (· < B) a.lv va) (hinb : In w (· < B) b.lv vb) :
    Calls Tryd.prog 40 #[va, vb, .func (Fn.func 41) #[] #[]] w fun e w' => e = .returned (.bool (evB leR a b)) ∧ Below w.heap.size w w' := by
  obtain ⟨La, hLa⟩ : ∃ L, a.lv = L := ⟨_, rfl⟩
  obtain ⟨ka, ma, argsa⟩ := La
  have hina' := hina
  rw [hLa] at hina'
  obtain ⟨aa, ca, rfl, hNa⟩ := hina'.node
  obtain ⟨Lb, hLb⟩ : ∃ L, b.lv = L := ⟨_, rfl⟩
  obtain ⟨kb, mb, argsb⟩ := Lb
  have hinb' := hinb
  rw [hLb] at hinb'
  obtain ⟨ab, cb, rfl, hNb⟩ := hinb'.node
  obtain ⟨w1, hw1, hb1, X, Y, hs⟩ := two_new w [.int .i64 ka, .int .i64 ma, .slice aa argsa.length ca] [.int .i64 kb, .int .i64 mb, .slice ab argsb.length cb] 24 24
  have x0 := X.cell (j := 0) rfl
  have x1 := X.cell (j := 1) rfl
  have x2 := X.cell (j := 2) rfl
  have y0 := Y.cell (j := 0) rfl
  have y1 := Y.cell (j := 1) rfl
  have y2 := Y.cell (j := 2) rfl
  have HL : Hid (a.lv = .mk ka ma argsa ∧ b.lv = .mk kb mb argsb) := ⟨hLa, hLb⟩
  clear hLa hLb hina' hinb'
  have ua := ha.used
  have ub := hb.used
  have ua0 := Lv.used_nonneg a.lv
  have ub0 := Lv.used_nonneg b.lv
  have hp4 := pars_le ha hb
  have h81 : 3 ^ pars a b ≤ 81 := by
    have : 3 ^ pars a b ≤ 3 ^ 4 := Nat.pow_le_pow_right (by decide) hp4
    omega
  have hpl := places_any (pars a b)
  obtain ⟨m, hm⟩ : ∃ m, 3 ^ pars a b = m := ⟨_, rfl⟩
  have HM : Hid (3 ^ pars a b = m) := hm
  clear hm
  rw [HM.out] at h81 hpl
  have HP : Hid (max a.lv.used b.lv.used = ((pars a b : Nat) : Int)) := by show _ = _; unfold pars; omega
  have hcs : (a.lv.used < b.lv.used ∧ b.lv.used = ((pars a b : Nat) : Int)) ∨ (¬ a.lv.used < b.lv.used ∧ a.lv.used = ((pars a b : Nat) : Int)) := by have := HP.out; omega
  rcases hcs with ⟨hu, hq⟩ | ⟨hu, hq⟩
  all_goals
    have HQ : Hid (_ = ((pars a b : Nat) : Int)) := hq
    clear hq
    go_enter Tryd.func40, Tryd.ntmps40
    go_wp2_with (first
      | (go_at_call_of 36 argsa.length; refine (walks_any a.lv w1 B _ hB2 (by omega) (hT.on hb1) (hina.below hb1 hB) ha.walks).mono ?_; rintro e w2 ⟨rfl, hb2⟩; have Y2 := Y.below hb2 (by omega); have y0' := Y2.cell (j := 0) rfl; have y1' := Y2.cell (j := 1) rfl; have y2' := Y2.cell (j := 2) rfl)
      | (go_at_call 36; refine (walks_any b.lv w2 B _ hB2 (Nat.le_trans (by omega) hb2.size) ((hT.on hb1).on hb2) ((hinb.below hb1 hB).below hb2 (by omega)) hb.walks).mono ?_; rintro e w3 ⟨rfl, hb3⟩)
      | (go_at_call 54; rw [HQ.out]; refine (hpl _ hp4).mono ?_; rintro e w4 ⟨rfl, rfl⟩))
    have hb4 : Below w.heap.size w w3 := (hb1.trans (hb2.mono (by omega))).trans (hb3.mono (by have := hb2.size; omega))
    have X3 := (X.below hb2 (by omega)).below hb3 (by have := hb2.size; omega)
    have Y3 := Y2.below hb3 (by have := hb2.size; omega)
    have hs3 : w.heap.size + 2 ≤ w3.heap.size := by have := hb2.size; have := hb3.size; omega
    clear x0 x1 x2 y0 y1 y2 y0' y1' y2' hb1 hb2 hb3 X Y Y2 hw1 hpl
    go_loopw [33] (fun i wr => ∃ (j : Nat), i = .int .i64 (j : Int) ∧ j ≤ m ∧ (∀ i, i < j → leR (a.val (pl i)) (b.val (pl i)) = true) ∧ Blk wr w.heap.size 24 [.int .i64 ka, .int .i64 ma, .slice aa argsa.length ca] ∧ Blk wr (w.heap.size + 1) 24 [.int .i64 kb, .int .i64 mb, .slice ab argsb.length cb] ∧ Below w.heap.size w wr) (fun i _ => m - (intOf i).toNat)
    case atStart => exact ⟨0, rfl, by omega, fun i hi => absurd hi (Nat.not_lt_zero i), X3, Y3, hb4⟩
    case round =>
      clear X3 Y3 hb4 hs3
      obtain ⟨i, rfl, hj, hall, hX, hY, hbel⟩ := hrel
      have HA : Hid (∀ k, k < i → leR (a.val (pl k)) (b.val (pl k)) = true) := hall
      clear hall
      by_cases hlt : i < m
      · have hy := hY.lt
        have hsz := hbel.size
        cases hr : leR (a.val (pl i)) (b.val (pl i)) with
        | true =>
          have hval : Lev.val (pl i) a ≤ Lev.val (pl i) b := by unfold leR at hr; simpa using hr
          go_wp2_with (go_at_call 55; refine (place_any i (by omega) wr (hT.on hbel)).mono ?_; rintro e w5 ⟨rfl, hb5⟩; obtain ⟨w6, hw6, hb6, V6, hs6⟩ := one_new w5 [.int .i64 ((pl i 0 : Nat) : Int), .int .i64 ((pl i 1 : Nat) : Int), .int .i64 ((pl i 2 : Nat) : Int), .int .i64 ((pl i 3 : Nat) : Int)] 53)
          have hb56 : Below wr.heap.size wr w6 := hb5.trans (hb6.mono hb5.size)
          have v0 := over_cell (V6.cell (j := 0) rfl)
          have v1 := over_cell (V6.cell (j := 1) rfl)
          have v2 := over_cell (V6.cell (j := 2) rfl)
          have v3 := over_cell (V6.cell (j := 3) rfl)
          have X6 := hX.below hb56 hX.lt
          have Y6 := hY.below hb56 hY.lt
          have x0 := over_cell (X6.cell (j := 0) rfl)
          have x1 := over_cell (X6.cell (j := 1) rfl)
          have x2 := over_cell (X6.cell (j := 2) rfl)
          have y0 := over_cell (Y6.cell (j := 0) rfl)
          have y1 := over_cell (Y6.cell (j := 1) rfl)
          have y2 := over_cell (Y6.cell (j := 2) rfl)
          have hbu : ∀ u, Below w.heap.size w (over w6 u) := fun u => (hbel.trans (hb56.mono hsz)).trans ((over_below w6 u).mono (Nat.le_trans hsz hb56.size))
          refine wp_region_over w6 (Below.refl _ _) (by kernel_rfl) (by kernel_rfl) ?_
          repeat (go_big_quiet_step (first
            | (go_at_call_of 38 argsa.length; exact Calls.over (of_any (pl i) (fun k => tl_le _) a _ B _ ha.low ha.size (Nat.le_trans hB (hbu _).size) (hina.below (hbu _) hB)))
            | (go_at_call_of 38 argsb.length; exact Calls.over (of_any (pl i) (fun k => tl_le _) b _ B _ hb.low hb.size (Nat.le_trans hB (hbu _).size) (hinb.below (hbu _) hB)))
            | (go_at_call 41; exact Calls.over (atMost_any _ _ _))))
          refine wpQuiet_nil ?_
          rintro _ ⟨u, rfl⟩
          have hb7 : Below wr.heap.size wr (over w6 u) := hb56.trans ((over_below w6 u).mono hb56.size)
          go_wp2_with fail
          go_roundw
          case rel => exact ⟨i + 1, by go_num, by omega, fun k hk => by
            by_cases e : k = i
            · subst e; exact hr
            · exact HA.out k (by omega), hX.below hb7 hX.lt, hY.below hb7 hY.lt, hbel.trans (hb7.mono hsz)⟩
          case measure => simp [intOf]; omega
        | false =>
          have hval : ¬ Lev.val (pl i) a ≤ Lev.val (pl i) b := by unfold leR at hr; simpa using hr
          go_wp2_with (go_at_call 55; refine (place_any i (by omega) wr (hT.on hbel)).mono ?_; rintro e w5 ⟨rfl, hb5⟩; obtain ⟨w6, hw6, hb6, V6, hs6⟩ := one_new w5 [.int .i64 ((pl i 0 : Nat) : Int), .int .i64 ((pl i 1 : Nat) : Int), .int .i64 ((pl i 2 : Nat) : Int), .int .i64 ((pl i 3 : Nat) : Int)] 53)
          have hb56 : Below wr.heap.size wr w6 := hb5.trans (hb6.mono hb5.size)
          have v0 := over_cell (V6.cell (j := 0) rfl)
          have v1 := over_cell (V6.cell (j := 1) rfl)
          have v2 := over_cell (V6.cell (j := 2) rfl)
          have v3 := over_cell (V6.cell (j := 3) rfl)
          have X6 := hX.below hb56 hX.lt
          have Y6 := hY.below hb56 hY.lt
          have x0 := over_cell (X6.cell (j := 0) rfl)
          have x1 := over_cell (X6.cell (j := 1) rfl)
          have x2 := over_cell (X6.cell (j := 2) rfl)
          have y0 := over_cell (Y6.cell (j := 0) rfl)
          have y1 := over_cell (Y6.cell (j := 1) rfl)
          have y2 := over_cell (Y6.cell (j := 2) rfl)
          have hbu : ∀ u, Below w.heap.size w (over w6 u) := fun u => (hbel.trans (hb56.mono hsz)).trans ((over_below w6 u).mono (Nat.le_trans hsz hb56.size))
          refine wp_region_over w6 (Below.refl _ _) (by kernel_rfl) (by kernel_rfl) ?_
          repeat (go_big_quiet_step (first
            | (go_at_call_of 38 argsa.length; exact Calls.over (of_any (pl i) (fun k => tl_le _) a _ B _ ha.low ha.size (Nat.le_trans hB (hbu _).size) (hina.below (hbu _) hB)))
            | (go_at_call_of 38 argsb.length; exact Calls.over (of_any (pl i) (fun k => tl_le _) b _ B _ hb.low hb.size (Nat.le_trans hB (hbu _).size) (hinb.below (hbu _) hB)))
            | (go_at_call 41; exact Calls.over (atMost_any _ _ _))))
          refine wpQuiet_nil ?_
          rintro _ ⟨u, rfl⟩
          have hb7 : Below wr.heap.size wr (over w6 u) := hb56.trans ((over_below w6 u).mono hb56.size)
          go_wp2_with fail
          go_ret
          exact ⟨ret_bool (evB_false (by rw [HM.out]; exact hlt) hr).symm, hbel.trans (hb7.mono hsz)⟩
      · go_wp2_with fail
        go_ret
        exact ⟨ret_bool (evB_true (fun k hk => HA.out k (by rw [HM.out] at hk; omega))).symm, hbel⟩

set_option maxRecDepth 100000 in
set_option maxHeartbeats 1000000 in
theorem every_same (a b : Lev) (ha : Fine a) (hb : Fine b) (w : World) (B : Nat) (va vb : Value) (hB2 : 2 ≤ B) (hB : B ≤ w.heap.size) (hT : Tabs w) (hina : In w (· < B) a.lv va) (hinb : In w (· < B) b.lv vb) :
    Calls Tryd.prog 40 #[va, vb, .func (Fn.func 43) #[] #[]] w fun e w' => e = .returned (.bool (evB eqR a b)) ∧ Below w.heap.size w w' := by
  obtain ⟨La, hLa⟩ : ∃ L, a.lv = L := ⟨_, rfl⟩
  obtain ⟨ka, ma, argsa⟩ := La
  have hina' := hina
  rw [hLa] at hina'
  obtain ⟨aa, ca, rfl, hNa⟩ := hina'.node
  obtain ⟨Lb, hLb⟩ : ∃ L, b.lv = L := ⟨_, rfl⟩
  obtain ⟨kb, mb, argsb⟩ := Lb
  have hinb' := hinb
  rw [hLb] at hinb'
  obtain ⟨ab, cb, rfl, hNb⟩ := hinb'.node
  obtain ⟨w1, hw1, hb1, X, Y, hs⟩ := two_new w [.int .i64 ka, .int .i64 ma, .slice aa argsa.length ca] [.int .i64 kb, .int .i64 mb, .slice ab argsb.length cb] 24 24
  have x0 := X.cell (j := 0) rfl
  have x1 := X.cell (j := 1) rfl
  have x2 := X.cell (j := 2) rfl
  have y0 := Y.cell (j := 0) rfl
  have y1 := Y.cell (j := 1) rfl
  have y2 := Y.cell (j := 2) rfl
  have HL : Hid (a.lv = .mk ka ma argsa ∧ b.lv = .mk kb mb argsb) := ⟨hLa, hLb⟩
  clear hLa hLb hina' hinb'
  have ua := ha.used
  have ub := hb.used
  have ua0 := Lv.used_nonneg a.lv
  have ub0 := Lv.used_nonneg b.lv
  have hp4 := pars_le ha hb
  have h81 : 3 ^ pars a b ≤ 81 := by
    have : 3 ^ pars a b ≤ 3 ^ 4 := Nat.pow_le_pow_right (by decide) hp4
    omega
  have hpl := places_any (pars a b)
  obtain ⟨m, hm⟩ : ∃ m, 3 ^ pars a b = m := ⟨_, rfl⟩
  have HM : Hid (3 ^ pars a b = m) := hm
  clear hm
  rw [HM.out] at h81 hpl
  have HP : Hid (max a.lv.used b.lv.used = ((pars a b : Nat) : Int)) := by show _ = _; unfold pars; omega
  have hcs : (a.lv.used < b.lv.used ∧ b.lv.used = ((pars a b : Nat) : Int)) ∨ (¬ a.lv.used < b.lv.used ∧ a.lv.used = ((pars a b : Nat) : Int)) := by have := HP.out; omega
  rcases hcs with ⟨hu, hq⟩ | ⟨hu, hq⟩
  all_goals
    have HQ : Hid (_ = ((pars a b : Nat) : Int)) := hq
    clear hq
    go_enter Tryd.func40, Tryd.ntmps40
    go_wp2_with (first
      | (go_at_call_of 36 argsa.length; refine (walks_any a.lv w1 B _ hB2 (by omega) (hT.on hb1) (hina.below hb1 hB) ha.walks).mono ?_; rintro e w2 ⟨rfl, hb2⟩; have Y2 := Y.below hb2 (by omega); have y0' := Y2.cell (j := 0) rfl; have y1' := Y2.cell (j := 1) rfl; have y2' := Y2.cell (j := 2) rfl)
      | (go_at_call 36; refine (walks_any b.lv w2 B _ hB2 (Nat.le_trans (by omega) hb2.size) ((hT.on hb1).on hb2) ((hinb.below hb1 hB).below hb2 (by omega)) hb.walks).mono ?_; rintro e w3 ⟨rfl, hb3⟩)
      | (go_at_call 54; rw [HQ.out]; refine (hpl _ hp4).mono ?_; rintro e w4 ⟨rfl, rfl⟩))
    have hb4 : Below w.heap.size w w3 := (hb1.trans (hb2.mono (by omega))).trans (hb3.mono (by have := hb2.size; omega))
    have X3 := (X.below hb2 (by omega)).below hb3 (by have := hb2.size; omega)
    have Y3 := Y2.below hb3 (by have := hb2.size; omega)
    have hs3 : w.heap.size + 2 ≤ w3.heap.size := by have := hb2.size; have := hb3.size; omega
    clear x0 x1 x2 y0 y1 y2 y0' y1' y2' hb1 hb2 hb3 X Y Y2 hw1 hpl
    go_loopw [33] (fun i wr => ∃ (j : Nat), i = .int .i64 (j : Int) ∧ j ≤ m ∧ (∀ i, i < j → eqR (a.val (pl i)) (b.val (pl i)) = true) ∧ Blk wr w.heap.size 24 [.int .i64 ka, .int .i64 ma, .slice aa argsa.length ca] ∧ Blk wr (w.heap.size + 1) 24 [.int .i64 kb, .int .i64 mb, .slice ab argsb.length cb] ∧ Below w.heap.size w wr) (fun i _ => m - (intOf i).toNat)
    case atStart => exact ⟨0, rfl, by omega, fun i hi => absurd hi (Nat.not_lt_zero i), X3, Y3, hb4⟩
    case round =>
      clear X3 Y3 hb4 hs3
      obtain ⟨i, rfl, hj, hall, hX, hY, hbel⟩ := hrel
      have HA : Hid (∀ k, k < i → eqR (a.val (pl k)) (b.val (pl k)) = true) := hall
      clear hall
      by_cases hlt : i < m
      · have hy := hY.lt
        have hsz := hbel.size
        cases hr : eqR (a.val (pl i)) (b.val (pl i)) with
        | true =>
          have hval : (((a.val (pl i) : Nat) : Int) == ((b.val (pl i) : Nat) : Int)) = true := by unfold eqR at hr; simp at hr; simp; omega
          go_wp2_with (go_at_call 55; refine (place_any i (by omega) wr (hT.on hbel)).mono ?_; rintro e w5 ⟨rfl, hb5⟩; obtain ⟨w6, hw6, hb6, V6, hs6⟩ := one_new w5 [.int .i64 ((pl i 0 : Nat) : Int), .int .i64 ((pl i 1 : Nat) : Int), .int .i64 ((pl i 2 : Nat) : Int), .int .i64 ((pl i 3 : Nat) : Int)] 53)
          have hb56 : Below wr.heap.size wr w6 := hb5.trans (hb6.mono hb5.size)
          have v0 := over_cell (V6.cell (j := 0) rfl)
          have v1 := over_cell (V6.cell (j := 1) rfl)
          have v2 := over_cell (V6.cell (j := 2) rfl)
          have v3 := over_cell (V6.cell (j := 3) rfl)
          have X6 := hX.below hb56 hX.lt
          have Y6 := hY.below hb56 hY.lt
          have x0 := over_cell (X6.cell (j := 0) rfl)
          have x1 := over_cell (X6.cell (j := 1) rfl)
          have x2 := over_cell (X6.cell (j := 2) rfl)
          have y0 := over_cell (Y6.cell (j := 0) rfl)
          have y1 := over_cell (Y6.cell (j := 1) rfl)
          have y2 := over_cell (Y6.cell (j := 2) rfl)
          have hbu : ∀ u, Below w.heap.size w (over w6 u) := fun u => (hbel.trans (hb56.mono hsz)).trans ((over_below w6 u).mono (Nat.le_trans hsz hb56.size))
          refine wp_region_over w6 (Below.refl _ _) (by kernel_rfl) (by kernel_rfl) ?_
          repeat (go_big_quiet_step (first
            | (go_at_call_of 38 argsa.length; exact Calls.over (of_any (pl i) (fun k => tl_le _) a _ B _ ha.low ha.size (Nat.le_trans hB (hbu _).size) (hina.below (hbu _) hB)))
            | (go_at_call_of 38 argsb.length; exact Calls.over (of_any (pl i) (fun k => tl_le _) b _ B _ hb.low hb.size (Nat.le_trans hB (hbu _).size) (hinb.below (hbu _) hB)))
            | (go_at_call 43; exact Calls.over (alike_any _ _ _))))
          refine wpQuiet_nil ?_
          rintro _ ⟨u, rfl⟩
          have hb7 : Below wr.heap.size wr (over w6 u) := hb56.trans ((over_below w6 u).mono hb56.size)
          go_wp2_with fail
          go_roundw
          case rel => exact ⟨i + 1, by go_num, by omega, fun k hk => by
            by_cases e : k = i
            · subst e; exact hr
            · exact HA.out k (by omega), hX.below hb7 hX.lt, hY.below hb7 hY.lt, hbel.trans (hb7.mono hsz)⟩
          case measure => simp [intOf]; omega
        | false =>
          have hval : (((a.val (pl i) : Nat) : Int) == ((b.val (pl i) : Nat) : Int)) = false := by unfold eqR at hr; simp at hr; simp; omega
          go_wp2_with (go_at_call 55; refine (place_any i (by omega) wr (hT.on hbel)).mono ?_; rintro e w5 ⟨rfl, hb5⟩; obtain ⟨w6, hw6, hb6, V6, hs6⟩ := one_new w5 [.int .i64 ((pl i 0 : Nat) : Int), .int .i64 ((pl i 1 : Nat) : Int), .int .i64 ((pl i 2 : Nat) : Int), .int .i64 ((pl i 3 : Nat) : Int)] 53)
          have hb56 : Below wr.heap.size wr w6 := hb5.trans (hb6.mono hb5.size)
          have v0 := over_cell (V6.cell (j := 0) rfl)
          have v1 := over_cell (V6.cell (j := 1) rfl)
          have v2 := over_cell (V6.cell (j := 2) rfl)
          have v3 := over_cell (V6.cell (j := 3) rfl)
          have X6 := hX.below hb56 hX.lt
          have Y6 := hY.below hb56 hY.lt
          have x0 := over_cell (X6.cell (j := 0) rfl)
          have x1 := over_cell (X6.cell (j := 1) rfl)
          have x2 := over_cell (X6.cell (j := 2) rfl)
          have y0 := over_cell (Y6.cell (j := 0) rfl)
          have y1 := over_cell (Y6.cell (j := 1) rfl)
          have y2 := over_cell (Y6.cell (j := 2) rfl)
          have hbu : ∀ u, Below w.heap.size w (over w6 u) := fun u => (hbel.trans (hb56.mono hsz)).trans ((over_below w6 u).mono (Nat.le_trans hsz hb56.size))
          refine wp_region_over w6 (Below.refl _ _) (by kernel_rfl) (by kernel_rfl) ?_
          repeat (go_big_quiet_step (first
            | (go_at_call_of 38 argsa.length; exact Calls.over (of_any (pl i) (fun k => tl_le _) a _ B _ ha.low ha.size (Nat.le_trans hB (hbu _).size) (hina.below (hbu _) hB)))
            | (go_at_call_of 38 argsb.length; exact Calls.over (of_any (pl i) (fun k => tl_le _) b _ B _ hb.low hb.size (Nat.le_trans hB (hbu _).size) (hinb.below (hbu _) hB)))
            | (go_at_call 43; exact Calls.over (alike_any _ _ _))))
          refine wpQuiet_nil ?_
          rintro _ ⟨u, rfl⟩
          have hb7 : Below wr.heap.size wr (over w6 u) := hb56.trans ((over_below w6 u).mono hb56.size)
          go_wp2_with fail
          go_ret
          exact ⟨ret_bool (evB_false (by rw [HM.out]; exact hlt) hr).symm, hbel.trans (hb7.mono hsz)⟩
      · go_wp2_with fail
        go_ret
        exact ⟨ret_bool (evB_true (fun k hk => HA.out k (by rw [HM.out] at hk; omega))).symm, hbel⟩

set_option maxRecDepth 100000 in
theorem leq_any (a b : Lev) (ha : Fine a) (hb : Fine b) (w : World) (B : Nat) (va vb : Value) (hB2 : 2 ≤ B) (hB : B ≤ w.heap.size) (hT : Tabs w) (hina : In w (· < B) a.lv va) (hinb : In w (· < B) b.lv vb) :
    Calls Tryd.prog 17 #[va, vb] w fun e w' => e = .returned (.bool (evB leR a b)) ∧ Below w.heap.size w w' := by
  obtain ⟨La, hLa⟩ : ∃ L, a.lv = L := ⟨_, rfl⟩
  obtain ⟨ka, ma, argsa⟩ := La
  have hina' := hina
  rw [hLa] at hina'
  obtain ⟨aa, ca, rfl, hNa⟩ := hina'.node
  obtain ⟨Lb, hLb⟩ : ∃ L, b.lv = L := ⟨_, rfl⟩
  obtain ⟨kb, mb, argsb⟩ := Lb
  have hinb' := hinb
  rw [hLb] at hinb'
  obtain ⟨ab, cb, rfl, hNb⟩ := hinb'.node
  obtain ⟨w1, hw1, hb1, X, Y, hs⟩ := two_new w [.int .i64 ka, .int .i64 ma, .slice aa argsa.length ca] [.int .i64 kb, .int .i64 mb, .slice ab argsb.length cb] 24 24
  have x0 := X.cell (j := 0) rfl
  have x1 := X.cell (j := 1) rfl
  have x2 := X.cell (j := 2) rfl
  have y0 := Y.cell (j := 0) rfl
  have y1 := Y.cell (j := 1) rfl
  have y2 := Y.cell (j := 2) rfl
  have HL : Hid (a.lv = .mk ka ma argsa ∧ b.lv = .mk kb mb argsb) := ⟨hLa, hLb⟩
  clear hLa hLb
  go_enter Tryd.func17, Tryd.ntmps17
  go_wp2_with (go_at_call 40; go_must (refine (every_leq a b ha hb w1 B _ _ hB2 (by omega) (hT.on hb1) (hina.below hb1 hB) (hinb.below hb1 hB)).mono ?_); rintro e w2 ⟨rfl, hb2⟩)
  go_ret
  exact ⟨rfl, hb1.trans (hb2.mono (by omega))⟩

set_option maxRecDepth 100000 in
theorem same_any (a b : Lev) (ha : Fine a) (hb : Fine b) (w : World) (B : Nat) (va vb : Value) (hB2 : 2 ≤ B) (hB : B ≤ w.heap.size) (hT : Tabs w) (hina : In w (· < B) a.lv va) (hinb : In w (· < B) b.lv vb) :
    Calls Tryd.prog 19 #[va, vb] w fun e w' => e = .returned (.bool (evB eqR a b)) ∧ Below w.heap.size w w' := by
  obtain ⟨La, hLa⟩ : ∃ L, a.lv = L := ⟨_, rfl⟩
  obtain ⟨ka, ma, argsa⟩ := La
  have hina' := hina
  rw [hLa] at hina'
  obtain ⟨aa, ca, rfl, hNa⟩ := hina'.node
  obtain ⟨Lb, hLb⟩ : ∃ L, b.lv = L := ⟨_, rfl⟩
  obtain ⟨kb, mb, argsb⟩ := Lb
  have hinb' := hinb
  rw [hLb] at hinb'
  obtain ⟨ab, cb, rfl, hNb⟩ := hinb'.node
  obtain ⟨w1, hw1, hb1, X, Y, hs⟩ := two_new w [.int .i64 ka, .int .i64 ma, .slice aa argsa.length ca] [.int .i64 kb, .int .i64 mb, .slice ab argsb.length cb] 24 24
  have x0 := X.cell (j := 0) rfl
  have x1 := X.cell (j := 1) rfl
  have x2 := X.cell (j := 2) rfl
  have y0 := Y.cell (j := 0) rfl
  have y1 := Y.cell (j := 1) rfl
  have y2 := Y.cell (j := 2) rfl
  have HL : Hid (a.lv = .mk ka ma argsa ∧ b.lv = .mk kb mb argsb) := ⟨hLa, hLb⟩
  clear hLa hLb
  go_enter Tryd.func19, Tryd.ntmps19
  go_wp2_with (go_at_call 40; go_must (refine (every_same a b ha hb w1 B _ _ hB2 (by omega) (hT.on hb1) (hina.below hb1 hB) (hinb.below hb1 hB)).mono ?_); rintro e w2 ⟨rfl, hb2⟩)
  go_ret
  exact ⟨rfl, hb1.trans (hb2.mono (by omega))⟩
end Go.Proofs.YtogfmpjgmabomaaDoor
