/- The walks of the document's Args, Binds and part of terms. No condition but that the term lies in memory. -/
import Derived.Test.YtbmijpjmdpdfkaaDoorForm
import Derived.Test.YtbmijpjmdpdfkaaDoorRSize
namespace Go.Proofs.YtbmijpjmdpdfkaaDoor
open Go.RowKit

set_option maxRecDepth 100000 in
theorem rargs_any (k : Int) (w : World) : Calls Tryd.prog 87 #[.int .i64 k] w fun e w' => e = .returned (.int .i64 (tcnt k)) ∧ w = w' := by
  by_cases h0 : k = 0
  · subst h0
    go_enter Tryd.func87, Tryd.ntmps87
    go_wp2
    go_ret
    exact ⟨rfl, rfl⟩
  by_cases h1 : k = 1
  · subst h1
    go_enter Tryd.func87, Tryd.ntmps87
    go_wp2
    go_ret
    exact ⟨rfl, rfl⟩
  by_cases h2 : k = 2
  · subst h2
    go_enter Tryd.func87, Tryd.ntmps87
    go_wp2
    go_ret
    exact ⟨rfl, rfl⟩
  by_cases h3 : k = 3
  · subst h3
    go_enter Tryd.func87, Tryd.ntmps87
    go_wp2
    go_ret
    exact ⟨rfl, rfl⟩
  by_cases h4 : k = 4
  · subst h4
    go_enter Tryd.func87, Tryd.ntmps87
    go_wp2
    go_ret
    exact ⟨rfl, rfl⟩
  by_cases h5 : k = 5
  · subst h5
    go_enter Tryd.func87, Tryd.ntmps87
    go_wp2
    go_ret
    exact ⟨rfl, rfl⟩
  by_cases h6 : k = 6
  · subst h6
    go_enter Tryd.func87, Tryd.ntmps87
    go_wp2
    go_ret
    exact ⟨rfl, rfl⟩
  have hc : tcnt k = -1 := by unfold tcnt; rw [if_neg (by omega), if_neg (by omega), if_neg (by omega)]
  rw [hc]
  clear hc
  go_enter Tryd.func87, Tryd.ntmps87
  go_wp2
  go_ret
  exact ⟨rfl, rfl⟩

set_option maxRecDepth 100000 in
theorem rbinds_any (k : Int) (i : Nat) (w : World) : Calls Tryd.prog 71 #[.int .i64 k, .int .i64 (i : Int)] w fun e w' => e = .returned (.int .i64 ((bnd k i : Nat) : Int)) ∧ w = w' := by
  obtain ⟨r, HR⟩ : ∃ r, Hid (((bnd k i : Nat) : Int) = r) := ⟨_, rfl⟩
  rw [HR.out]
  by_cases h4 : k = 4
  · subst h4
    by_cases h1 : i = 1
    · subst h1
      go_enter Tryd.func71, Tryd.ntmps71
      go_wp2
      go_ret
      exact ⟨ret_int (by rw [← HR.out]; rfl), rfl⟩
    · have hi : ((i : Int) == 1) = false := by simp; omega
      go_enter Tryd.func71, Tryd.ntmps71
      go_wp2
      go_ret
      exact ⟨ret_int (by rw [← HR.out]; unfold bnd; rw [if_neg (by omega)]; rfl), rfl⟩
  by_cases h5 : k = 5
  · subst h5
    by_cases h1 : i = 1
    · subst h1
      go_enter Tryd.func71, Tryd.ntmps71
      go_wp2
      go_ret
      exact ⟨ret_int (by rw [← HR.out]; rfl), rfl⟩
    · have hi : ((i : Int) == 1) = false := by simp; omega
      go_enter Tryd.func71, Tryd.ntmps71
      go_wp2
      go_ret
      exact ⟨ret_int (by rw [← HR.out]; unfold bnd; rw [if_neg (by omega)]; rfl), rfl⟩
  by_cases h6 : k = 6
  · subst h6
    by_cases h1 : i = 2
    · subst h1
      go_enter Tryd.func71, Tryd.ntmps71
      go_wp2
      go_ret
      exact ⟨ret_int (by rw [← HR.out]; rfl), rfl⟩
    · have hi : ((i : Int) == 2) = false := by simp; omega
      go_enter Tryd.func71, Tryd.ntmps71
      go_wp2
      go_ret
      exact ⟨ret_int (by rw [← HR.out]; unfold bnd; rw [if_neg (by omega)]; rfl), rfl⟩
  have k4 : (k == 4) = false := by simpa using h4
  have k5 : (k == 5) = false := by simpa using h5
  have k6 : (k == 6) = false := by simpa using h6
  go_enter Tryd.func71, Tryd.ntmps71
  go_wp2
  go_ret
  exact ⟨ret_int (by rw [← HR.out]; unfold bnd; rw [if_neg (by omega)]; rfl), rfl⟩

set_option maxRecDepth 100000 in
set_option maxHeartbeats 4000000 in
theorem rpart_any (T : Tr) (w : World) :
    Calls Tryd.prog 70 #[T.val] w fun e w' => e = .returned (.bool T.wholeB) ∧ Below w.heap.size w w' := by
  obtain ⟨r, HR⟩ : ∃ r, Hid (T.wholeB = r) := ⟨_, rfl⟩
  rw [HR.out]
  unfold Tr.wholeB Tr.formB varB sortB constB bareB emB at HR
  obtain ⟨w1, hw1, hb1, X1, hs1⟩ := one_new w (tl T) 25
  unfold Tr.val
  unfold tl at hw1 X1
  generalize T.args.length = len at *
  generalize T.ls.length = lln at *
  generalize T.k = k at *
  generalize T.n = n at *
  generalize T.s = s at *
  have x0 := X1.cell (j := 0) rfl
  have x1 := X1.cell (j := 1) rfl
  have x2 := X1.cell (j := 2) rfl
  have x3 := X1.cell (j := 3) rfl
  have x4 := X1.cell (j := 4) rfl
  by_cases hc : tcnt k = (len : Int)
  · have hcc : (tcnt k != (len : Int)) = false := by rw [hc]; simp
    by_cases hk0 : k = 0
    · subst hk0
      by_cases hn : n < 0
      · have hd : decide (n < 0) = true := by simpa using hn
        go_enter Tryd.func70, Tryd.ntmps70
        go_wp2_with fail
        go_quiet ((go_at_call 87; exact Calls.quiet_of_same ((rargs_any _ _).mono fun e w' ⟨h1, h2⟩ => ⟨h1, h2.symm⟩)))
        go_wp2_with fail
        all_goals
          go_ret
          exact ⟨ret_bool (by rw [← HR.out]; simp; omega), bel_drewN hb1 _⟩
      · have hd : decide (n < 0) = false := by simpa using hn
        by_cases hb : 1073741824 < n
        · have hd2 : decide (1073741824 < n) = true := by simpa using hb
          go_enter Tryd.func70, Tryd.ntmps70
          go_wp2_with fail
          go_quiet ((go_at_call 87; exact Calls.quiet_of_same ((rargs_any _ _).mono fun e w' ⟨h1, h2⟩ => ⟨h1, h2.symm⟩)))
          go_wp2_with fail
          all_goals
            go_ret
            exact ⟨ret_bool (by rw [← HR.out]; simp; omega), bel_drewN hb1 _⟩
        · have hd2 : decide (1073741824 < n) = false := by simpa using hb
          by_cases hs : s.toList = []
          · go_enter Tryd.func70, Tryd.ntmps70
            go_wp2_with fail
            go_quiet ((go_at_call 87; exact Calls.quiet_of_same ((rargs_any _ _).mono fun e w' ⟨h1, h2⟩ => ⟨h1, h2.symm⟩)))
            go_wp2_with fail
            all_goals
              go_ret
              exact ⟨ret_bool (by rw [← HR.out]; rw [Bool.eq_iff_iff]; simp_all <;> omega), bel_drewN hb1 _⟩
          · go_enter Tryd.func70, Tryd.ntmps70
            go_wp2_with fail
            go_quiet ((go_at_call 87; exact Calls.quiet_of_same ((rargs_any _ _).mono fun e w' ⟨h1, h2⟩ => ⟨h1, h2.symm⟩)))
            go_wp2_with fail
            all_goals
              go_ret
              exact ⟨ret_bool (by rw [← HR.out]; simp_all), bel_drewN hb1 _⟩
    · have hk : (k != 0) = true := by simpa using hk0
      by_cases hn : n = 0
      · subst hn
        by_cases hk2 : k = 2
        · subst hk2
          go_enter Tryd.func70, Tryd.ntmps70
          go_wp2_with fail
          go_quiet ((go_at_call 87; exact Calls.quiet_of_same ((rargs_any _ _).mono fun e w' ⟨h1, h2⟩ => ⟨h1, h2.symm⟩)))
          go_wp2_with fail
          all_goals
            go_ret
            exact ⟨ret_bool (by rw [← HR.out]; simp_all), bel_drewN hb1 _⟩
        · have hk2' : (k != 2) = true := by simpa using hk2
          have hk2'' : (k == 2) = false := by simpa using hk2
          by_cases hs : s.toList = []
          · by_cases hk1 : k = 1
            · subst hk1
              go_enter Tryd.func70, Tryd.ntmps70
              go_wp2_with fail
              go_quiet ((go_at_call 87; exact Calls.quiet_of_same ((rargs_any _ _).mono fun e w' ⟨h1, h2⟩ => ⟨h1, h2.symm⟩)))
              go_wp2_with fail
              all_goals
                go_ret
                exact ⟨ret_bool (by rw [← HR.out]; rw [Bool.eq_iff_iff]; simp_all <;> omega), bel_drewN hb1 _⟩
            · have hk1' : (k != 1) = true := by simpa using hk1
              have hk1'' : (k == 1) = false := by simpa using hk1
              go_enter Tryd.func70, Tryd.ntmps70
              go_wp2_with fail
              go_quiet ((go_at_call 87; exact Calls.quiet_of_same ((rargs_any _ _).mono fun e w' ⟨h1, h2⟩ => ⟨h1, h2.symm⟩)))
              go_wp2_with fail
              all_goals
                go_ret
                exact ⟨ret_bool (by rw [← HR.out]; rw [Bool.eq_iff_iff]; simp_all <;> omega), bel_drewN hb1 _⟩
          · go_enter Tryd.func70, Tryd.ntmps70
            go_wp2_with fail
            go_quiet ((go_at_call 87; exact Calls.quiet_of_same ((rargs_any _ _).mono fun e w' ⟨h1, h2⟩ => ⟨h1, h2.symm⟩)))
            go_wp2_with fail
            all_goals
              go_ret
              exact ⟨ret_bool (by rw [← HR.out]; simp_all), bel_drewN hb1 _⟩
      · have hn' : (n != 0) = true := by simpa using hn
        go_enter Tryd.func70, Tryd.ntmps70
        go_wp2_with fail
        go_quiet ((go_at_call 87; exact Calls.quiet_of_same ((rargs_any _ _).mono fun e w' ⟨h1, h2⟩ => ⟨h1, h2.symm⟩)))
        go_wp2_with fail
        all_goals
          go_ret
          exact ⟨ret_bool (by rw [← HR.out]; simp_all <;> omega), bel_drewN hb1 _⟩
  · have hcc : (tcnt k != (len : Int)) = true := by simpa using hc
    go_enter Tryd.func70, Tryd.ntmps70
    go_wp2_with fail
    go_quiet ((go_at_call 87; exact Calls.quiet_of_same ((rargs_any _ _).mono fun e w' ⟨h1, h2⟩ => ⟨h1, h2.symm⟩)))
    go_wp2_with fail
    all_goals
      go_ret
      exact ⟨ret_bool (by rw [← HR.out]; simp [hc]), bel_drewN hb1 _⟩
end Go.Proofs.YtbmijpjmdpdfkaaDoor
