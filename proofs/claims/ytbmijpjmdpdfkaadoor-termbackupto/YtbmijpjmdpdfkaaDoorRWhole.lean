/- The walks of the document's Size and Depth of terms. No condition but that the term lies in memory. -/
import Derived.Test.YtbmijpjmdpdfkaaDoorDepth
import Derived.Test.YtbmijpjmdpdfkaaDoorForm
namespace Go.Proofs.YtbmijpjmdpdfkaaDoor
open Go.RowKit

/-- The i-th arg, read as a value. -/
theorem TIn.arg {w : World} {S : Nat → Prop} {T : Tr} (h : TIn w S T) {i : Nat} {L : Tr} (hi : T.args[i]? = some L) :
    ∃ b off, T.a = some ⟨b, off, none⟩ ∧ S b ∧ b < w.heap.size ∧ w.cell? ⟨b, off + i * 5, none⟩ = some (.int .i64 L.k) ∧ w.cell? ⟨b, off + i * 5 + 1, none⟩ = some (.int .i64 L.n) ∧ w.cell? ⟨b, off + i * 5 + 2, none⟩ = some (.string L.s) ∧
      w.cell? ⟨b, off + i * 5 + 3, none⟩ = some (.slice L.la L.ls.length L.lc) ∧ w.cell? ⟨b, off + i * 5 + 4, none⟩ = some (.slice L.a L.args.length L.c) ∧ TIn w S L := by
  obtain ⟨h1, h2, h3, h4⟩ := h.get hi
  exact ⟨T.b, T.off, h1, h2, h3.lt, h3.c0, h3.c1, h3.c2, h3.c3, h3.c4, h4⟩

abbrev tl (T : Tr) : List Value := [.int .i64 T.k, .int .i64 T.n, .string T.s, .slice T.la T.ls.length T.lc, .slice T.a T.args.length T.c]

set_option maxRecDepth 100000 in
set_option maxHeartbeats 400000 in
theorem rsize_neg (T : Tr) (most : Int) (w : World) (hm : most < 0) (hlen : T.args.length ≤ 9223372036854775807) : Calls Tryd.prog 8 #[T.val, .int .i64 most] w fun e w' => e = .returned (.int .i64 1) ∧ Below w.heap.size w w' := by
  unfold Tr.val
  generalize T.args.length = len at *
  by_cases h0 : len = 0
  · subst h0
    go_enter Tryd.func8, Tryd.ntmps8
    go_wp2_with fail
    go_loopw [5, 6] (fun x i wr => x = .int .i64 1 ∧ i = .int .i64 0 ∧ wr = w.alloc (.cells #[.int .i64 T.k, .int .i64 T.n, .string T.s, .slice T.la T.ls.length T.lc, .slice T.a 0 T.c] 25)) (fun _ _ _ => 0)
    case atStart => exact ⟨rfl, rfl, rfl⟩
    case round =>
      obtain ⟨rfl, rfl, rfl⟩ := hrel
      go_wp2_with fail
      go_ret
      exact ⟨rfl, below_alloc _ _⟩
  · have hpos : (0 : Int) < (len : Int) := by omega
    go_enter Tryd.func8, Tryd.ntmps8
    go_wp2_with fail
    go_loopw [5, 6] (fun x i wr => x = .int .i64 1 ∧ i = .int .i64 0 ∧ wr = w.alloc (.cells #[.int .i64 T.k, .int .i64 T.n, .string T.s, .slice T.la T.ls.length T.lc, .slice T.a len T.c] 25)) (fun _ _ _ => 0)
    case atStart => exact ⟨rfl, rfl, rfl⟩
    case round =>
      obtain ⟨rfl, rfl, rfl⟩ := hrel
      go_wp2_with fail
      go_ret
      exact ⟨rfl, below_alloc _ _⟩

set_option maxRecDepth 100000 in
set_option maxHeartbeats 1000000 in
theorem rsize_node (T : Tr) (ih : ∀ L ∈ T.args, ∀ (most : Int) (w : World) (B : Nat), 0 ≤ most → most ≤ 9223372036854775807 → (most ≤ 4611686018427387904 ∨ L.size ≤ 4611686018427387904) → B ≤ w.heap.size → TIn w (· < B) L →
      Calls Tryd.prog 8 #[L.val, .int .i64 most] w fun e w' => e = .returned (.int .i64 (min (L.size : Int) (most + 1))) ∧ Below w.heap.size w w')
    (most : Int) (w : World) (B : Nat) (hm0 : 0 ≤ most) (hm1 : most ≤ 9223372036854775807) (hsm : most ≤ 4611686018427387904 ∨ T.size ≤ 4611686018427387904) (hB : B ≤ w.heap.size) (hin : TIn w (· < B) T) :
    Calls Tryd.prog 8 #[T.val, .int .i64 most] w fun e w' => e = .returned (.int .i64 (min (T.size : Int) (most + 1))) ∧ Below w.heap.size w w' := by
  have hN := tin_iff.1 hin
  have hle := hN.le
  have hmx := hN.max
  rw [T.size_eq] at hsm ⊢
  obtain ⟨w1, hw1, hb1, X1, hs1⟩ := one_new w (tl T) 25
  have hss : ∀ j, Tr.sizes (T.args.take j) ≤ Tr.sizes T.args := fun j => Tr.sizes_take_le T.args j
  have HSM : Hid (most ≤ 4611686018427387904 ∨ Tr.sizes T.args + 1 ≤ 4611686018427387904) := hsm
  clear hsm
  unfold Tr.val
  unfold tl at hw1 X1
  obtain ⟨k, n, s, ls, la, lc, a, c0, tb, toff, args⟩ := T
  simp only [Tr.k, Tr.n, Tr.s, Tr.ls, Tr.la, Tr.lc, Tr.a, Tr.c, Tr.args] at hle hmx ih hss HSM hw1 X1 ⊢
  go_enter Tryd.func8, Tryd.ntmps8
  go_wp2_with fail
  go_loopw [5, 6] (fun x i wr => ∃ (c : Int) (j : Nat), x = .int .i64 c ∧ i = .int .i64 (j : Int) ∧ j ≤ args.length ∧ c = min ((Tr.sizes (args.take j) + 1 : Nat) : Int) (most + 1) ∧ Blk wr w.heap.size 25 [.int .i64 k, .int .i64 n, .string s, .slice la ls.length lc, .slice a args.length c0] ∧ Below w.heap.size w wr) (fun _ i _ => args.length - (intOf i).toNat)
  case atStart => exact ⟨1, 0, rfl, rfl, by omega, by simp [Tr.sizes]; omega, X1, hb1⟩
  case round =>
    obtain ⟨c, j, rfl, rfl, hj, hc, hb, hbel⟩ := hrel
    have x4 := hb.cell (j := 4) rfl
    have HC : Hid (c = min ((Tr.sizes (args.take j) + 1 : Nat) : Int) (most + 1)) := hc
    have hc1 : c ≤ most + 1 := by omega
    have hc3 : c ≤ ((Tr.sizes (args.take j) : Nat) : Int) + 1 := by omega
    have hc0 : 1 ≤ c := by omega
    have hc2 : c ≤ 4611686018427387905 := by have := HSM.out; have := hss j; omega
    clear hc
    have hsz : w.heap.size ≤ wr.heap.size := hbel.size
    by_cases hlt : j < args.length
    · by_cases hcm : c ≤ most
      · obtain ⟨L, hL⟩ : ∃ L, args[j]? = some L := ⟨_, List.getElem?_eq_getElem hlt⟩
        obtain ⟨b, off, ha, hS, hbl, e0, e1, e2, e3, e4, hL'⟩ := (hin.below hbel hB).arg (T := .mk k n s ls la lc a c0 tb toff args) hL
        simp only [Tr.a] at ha
        subst ha
        have hst := Tr.sizes_take hL
        have hmem := List.mem_of_getElem? hL
        have hsL := Tr.size_mem hmem
        have HL : Hid (Tr.sizes (args.take (j + 1)) = Tr.sizes (args.take j) + L.size ∧ L.size ≤ Tr.sizes args) := ⟨hst, hsL⟩
        have hcall := ih L hmem (most - c) wr B (by omega) (by omega) (by have := HSM.out; omega) (by omega) hL'
        clear hL hst hsL hmem
        simp only [Tr.val] at hcall
        have hres : c + min (L.size : Int) (most - c + 1) ≤ 9223372036854775807 := by have h1 := HSM.out; have h2 := HL.out; have h3 := hss (j + 1); clear HC; omega
        have hres0 : 0 ≤ min (L.size : Int) (most - c + 1) := by omega
        generalize hg : min (L.size : Int) (most - c + 1) = rr at *
        have HG : Hid (min (L.size : Int) (most - c + 1) = rr) := hg
        clear hg
        go_wp2_with (go_at_call 8; refine hcall.mono ?_; rintro e w' ⟨rfl, hb2⟩)
        go_roundw
        case rel =>
          have h1 := HL.out
          have h2 := HC.out
          have h3 := HG.out
          exact ⟨c + rr, j + 1, by go_num, by go_num, by omega, by omega, hb.below hb2 hb.lt, hbel.trans (hb2.mono hsz)⟩
        case measure => simp [intOf]; omega
      · go_wp2_with fail
        go_ret
        have h3 := hss j
        have h2 := HC.out
        exact ⟨ret_int (by omega), hbel⟩
    · by_cases hcm : c ≤ most
      · go_wp2_with fail
        go_ret
        have h2 := HC.out
        rw [List.take_of_length_le (by omega)] at h2
        exact ⟨ret_int (by omega), hbel⟩
      · go_wp2_with fail
        go_ret
        have h2 := HC.out
        rw [List.take_of_length_le (by omega)] at h2
        exact ⟨ret_int (by omega), hbel⟩

theorem rsize_pos (T : Tr) : ∀ (most : Int) (w : World) (B : Nat), 0 ≤ most → most ≤ 9223372036854775807 → (most ≤ 4611686018427387904 ∨ T.size ≤ 4611686018427387904) → B ≤ w.heap.size → TIn w (· < B) T →
    Calls Tryd.prog 8 #[T.val, .int .i64 most] w fun e w' => e = .returned (.int .i64 (min (T.size : Int) (most + 1))) ∧ Below w.heap.size w w' := by
  refine Tr.ind' (P := fun T => ∀ (most : Int) (w : World) (B : Nat), 0 ≤ most → most ≤ 9223372036854775807 → (most ≤ 4611686018427387904 ∨ T.size ≤ 4611686018427387904) → B ≤ w.heap.size → TIn w (· < B) T →
    Calls Tryd.prog 8 #[T.val, .int .i64 most] w fun e w' => e = .returned (.int .i64 (min (T.size : Int) (most + 1))) ∧ Below w.heap.size w w') ?_ T
  intro T ih most w B h1 h2 h3 h4 h5
  exact rsize_node T ih most w B h1 h2 h3 h4 h5

theorem rsize_any (T : Tr) (most : Int) (w : World) (B : Nat) (hm1 : most ≤ 9223372036854775807) (hsm : most ≤ 4611686018427387904 ∨ T.size ≤ 4611686018427387904) (hB : B ≤ w.heap.size) (hin : TIn w (· < B) T) :
    Calls Tryd.prog 8 #[T.val, .int .i64 most] w fun e w' => e = .returned (.int .i64 (min (T.size : Int) (max most 0 + 1))) ∧ Below w.heap.size w w' := by
  by_cases h : 0 ≤ most
  · rw [show max most 0 = most by omega]; exact rsize_pos T most w B h hm1 hsm hB hin
  · rw [show min (T.size : Int) (max most 0 + 1) = 1 by have := T.size_pos; omega]
    have hN := tin_iff.1 hin
    exact rsize_neg T most w (by omega) (Nat.le_trans hN.le hN.max)
end Go.Proofs.YtbmijpjmdpdfkaaDoor

/- The walks of the document's Args, Binds and part of terms. No condition but that the term lies in memory. -/
namespace Go.Proofs.YtbmijpjmdpdfkaaDoor
open Go.RowKit

set_option maxRecDepth 100000 in
theorem rargs_any (k : Int) (w : World) : Calls Tryd.prog 87 #[.int .i64 k] w fun e w' => e = .returned (.int .i64 (tcnt k)) ∧ w = w' := by
  by_cases h0 : k = 0
  · subst h0
    go_enter Tryd.func87, Tryd.ntmps87
    go_wp2
    go_ret
    exact ⟨rfl, rfl⟩
  by_cases h1 : k = 1
  · subst h1
    go_enter Tryd.func87, Tryd.ntmps87
    go_wp2
    go_ret
    exact ⟨rfl, rfl⟩
  by_cases h2 : k = 2
  · subst h2
    go_enter Tryd.func87, Tryd.ntmps87
    go_wp2
    go_ret
    exact ⟨rfl, rfl⟩
  by_cases h3 : k = 3
  · subst h3
    go_enter Tryd.func87, Tryd.ntmps87
    go_wp2
    go_ret
    exact ⟨rfl, rfl⟩
  by_cases h4 : k = 4
  · subst h4
    go_enter Tryd.func87, Tryd.ntmps87
    go_wp2
    go_ret
    exact ⟨rfl, rfl⟩
  by_cases h5 : k = 5
  · subst h5
    go_enter Tryd.func87, Tryd.ntmps87
    go_wp2
    go_ret
    exact ⟨rfl, rfl⟩
  by_cases h6 : k = 6
  · subst h6
    go_enter Tryd.func87, Tryd.ntmps87
    go_wp2
    go_ret
    exact ⟨rfl, rfl⟩
  have hc : tcnt k = -1 := by unfold tcnt; rw [if_neg (by omega), if_neg (by omega), if_neg (by omega)]
  rw [hc]
  clear hc
  go_enter Tryd.func87, Tryd.ntmps87
  go_wp2
  go_ret
  exact ⟨rfl, rfl⟩

set_option maxRecDepth 100000 in
theorem rbinds_any (k : Int) (i : Nat) (w : World) : Calls Tryd.prog 71 #[.int .i64 k, .int .i64 (i : Int)] w fun e w' => e = .returned (.int .i64 ((bnd k i : Nat) : Int)) ∧ w = w' := by
  obtain ⟨r, HR⟩ : ∃ r, Hid (((bnd k i : Nat) : Int) = r) := ⟨_, rfl⟩
  rw [HR.out]
  by_cases h4 : k = 4
  · subst h4
    by_cases h1 : i = 1
    · subst h1
      go_enter Tryd.func71, Tryd.ntmps71
      go_wp2
      go_ret
      exact ⟨ret_int (by rw [← HR.out]; rfl), rfl⟩
    · have hi : ((i : Int) == 1) = false := by simp; omega
      go_enter Tryd.func71, Tryd.ntmps71
      go_wp2
      go_ret
      exact ⟨ret_int (by rw [← HR.out]; unfold bnd; rw [if_neg (by omega)]; rfl), rfl⟩
  by_cases h5 : k = 5
  · subst h5
    by_cases h1 : i = 1
    · subst h1
      go_enter Tryd.func71, Tryd.ntmps71
      go_wp2
      go_ret
      exact ⟨ret_int (by rw [← HR.out]; rfl), rfl⟩
    · have hi : ((i : Int) == 1) = false := by simp; omega
      go_enter Tryd.func71, Tryd.ntmps71
      go_wp2
      go_ret
      exact ⟨ret_int (by rw [← HR.out]; unfold bnd; rw [if_neg (by omega)]; rfl), rfl⟩
  by_cases h6 : k = 6
  · subst h6
    by_cases h1 : i = 2
    · subst h1
      go_enter Tryd.func71, Tryd.ntmps71
      go_wp2
      go_ret
      exact ⟨ret_int (by rw [← HR.out]; rfl), rfl⟩
    · have hi : ((i : Int) == 2) = false := by simp; omega
      go_enter Tryd.func71, Tryd.ntmps71
      go_wp2
      go_ret
      exact ⟨ret_int (by rw [← HR.out]; unfold bnd; rw [if_neg (by omega)]; rfl), rfl⟩
  have k4 : (k == 4) = false := by simpa using h4
  have k5 : (k == 5) = false := by simpa using h5
  have k6 : (k == 6) = false := by simpa using h6
  go_enter Tryd.func71, Tryd.ntmps71
  go_wp2
  go_ret
  exact ⟨ret_int (by rw [← HR.out]; unfold bnd; rw [if_neg (by omega)]; rfl), rfl⟩

set_option maxRecDepth 100000 in
set_option maxHeartbeats 4000000 in
theorem rpart_any (T : Tr) (w : World) :
    Calls Tryd.prog 70 #[T.val] w fun e w' => e = .returned (.bool T.wholeB) ∧ Below w.heap.size w w' := by
  obtain ⟨r, HR⟩ : ∃ r, Hid (T.wholeB = r) := ⟨_, rfl⟩
  rw [HR.out]
  unfold Tr.wholeB Tr.formB varB sortB constB bareB emB at HR
  obtain ⟨w1, hw1, hb1, X1, hs1⟩ := one_new w (tl T) 25
  unfold Tr.val
  unfold tl at hw1 X1
  generalize T.args.length = len at *
  generalize T.ls.length = lln at *
  generalize T.k = k at *
  generalize T.n = n at *
  generalize T.s = s at *
  have x0 := X1.cell (j := 0) rfl
  have x1 := X1.cell (j := 1) rfl
  have x2 := X1.cell (j := 2) rfl
  have x3 := X1.cell (j := 3) rfl
  have x4 := X1.cell (j := 4) rfl
  by_cases hc : tcnt k = (len : Int)
  · have hcc : (tcnt k != (len : Int)) = false := by rw [hc]; simp
    by_cases hk0 : k = 0
    · subst hk0
      by_cases hn : n < 0
      · have hd : decide (n < 0) = true := by simpa using hn
        go_enter Tryd.func70, Tryd.ntmps70
        go_wp2_with fail
        go_quiet ((go_at_call 87; exact Calls.quiet_of_same ((rargs_any _ _).mono fun e w' ⟨h1, h2⟩ => ⟨h1, h2.symm⟩)))
        go_wp2_with fail
        all_goals
          go_ret
          exact ⟨ret_bool (by rw [← HR.out]; simp; omega), bel_drewN hb1 _⟩
      · have hd : decide (n < 0) = false := by simpa using hn
        by_cases hb : 1073741824 < n
        · have hd2 : decide (1073741824 < n) = true := by simpa using hb
          go_enter Tryd.func70, Tryd.ntmps70
          go_wp2_with fail
          go_quiet ((go_at_call 87; exact Calls.quiet_of_same ((rargs_any _ _).mono fun e w' ⟨h1, h2⟩ => ⟨h1, h2.symm⟩)))
          go_wp2_with fail
          all_goals
            go_ret
            exact ⟨ret_bool (by rw [← HR.out]; simp; omega), bel_drewN hb1 _⟩
        · have hd2 : decide (1073741824 < n) = false := by simpa using hb
          by_cases hs : s.toList = []
          · go_enter Tryd.func70, Tryd.ntmps70
            go_wp2_with fail
            go_quiet ((go_at_call 87; exact Calls.quiet_of_same ((rargs_any _ _).mono fun e w' ⟨h1, h2⟩ => ⟨h1, h2.symm⟩)))
            go_wp2_with fail
            all_goals
              go_ret
              exact ⟨ret_bool (by rw [← HR.out]; rw [Bool.eq_iff_iff]; simp_all <;> omega), bel_drewN hb1 _⟩
          · go_enter Tryd.func70, Tryd.ntmps70
            go_wp2_with fail
            go_quiet ((go_at_call 87; exact Calls.quiet_of_same ((rargs_any _ _).mono fun e w' ⟨h1, h2⟩ => ⟨h1, h2.symm⟩)))
            go_wp2_with fail
            all_goals
              go_ret
              exact ⟨ret_bool (by rw [← HR.out]; simp_all), bel_drewN hb1 _⟩
    · have hk : (k != 0) = true := by simpa using hk0
      by_cases hn : n = 0
      · subst hn
        by_cases hk2 : k = 2
        · subst hk2
          go_enter Tryd.func70, Tryd.ntmps70
          go_wp2_with fail
          go_quiet ((go_at_call 87; exact Calls.quiet_of_same ((rargs_any _ _).mono fun e w' ⟨h1, h2⟩ => ⟨h1, h2.symm⟩)))
          go_wp2_with fail
          all_goals
            go_ret
            exact ⟨ret_bool (by rw [← HR.out]; simp_all), bel_drewN hb1 _⟩
        · have hk2' : (k != 2) = true := by simpa using hk2
          have hk2'' : (k == 2) = false := by simpa using hk2
          by_cases hs : s.toList = []
          · by_cases hk1 : k = 1
            · subst hk1
              go_enter Tryd.func70, Tryd.ntmps70
              go_wp2_with fail
              go_quiet ((go_at_call 87; exact Calls.quiet_of_same ((rargs_any _ _).mono fun e w' ⟨h1, h2⟩ => ⟨h1, h2.symm⟩)))
              go_wp2_with fail
              all_goals
                go_ret
                exact ⟨ret_bool (by rw [← HR.out]; rw [Bool.eq_iff_iff]; simp_all <;> omega), bel_drewN hb1 _⟩
            · have hk1' : (k != 1) = true := by simpa using hk1
              have hk1'' : (k == 1) = false := by simpa using hk1
              go_enter Tryd.func70, Tryd.ntmps70
              go_wp2_with fail
              go_quiet ((go_at_call 87; exact Calls.quiet_of_same ((rargs_any _ _).mono fun e w' ⟨h1, h2⟩ => ⟨h1, h2.symm⟩)))
              go_wp2_with fail
              all_goals
                go_ret
                exact ⟨ret_bool (by rw [← HR.out]; rw [Bool.eq_iff_iff]; simp_all <;> omega), bel_drewN hb1 _⟩
          · go_enter Tryd.func70, Tryd.ntmps70
            go_wp2_with fail
            go_quiet ((go_at_call 87; exact Calls.quiet_of_same ((rargs_any _ _).mono fun e w' ⟨h1, h2⟩ => ⟨h1, h2.symm⟩)))
            go_wp2_with fail
            all_goals
              go_ret
              exact ⟨ret_bool (by rw [← HR.out]; simp_all), bel_drewN hb1 _⟩
      · have hn' : (n != 0) = true := by simpa using hn
        go_enter Tryd.func70, Tryd.ntmps70
        go_wp2_with fail
        go_quiet ((go_at_call 87; exact Calls.quiet_of_same ((rargs_any _ _).mono fun e w' ⟨h1, h2⟩ => ⟨h1, h2.symm⟩)))
        go_wp2_with fail
        all_goals
          go_ret
          exact ⟨ret_bool (by rw [← HR.out]; simp_all <;> omega), bel_drewN hb1 _⟩
  · have hcc : (tcnt k != (len : Int)) = true := by simpa using hc
    go_enter Tryd.func70, Tryd.ntmps70
    go_wp2_with fail
    go_quiet ((go_at_call 87; exact Calls.quiet_of_same ((rargs_any _ _).mono fun e w' ⟨h1, h2⟩ => ⟨h1, h2.symm⟩)))
    go_wp2_with fail
    all_goals
      go_ret
      exact ⟨ret_bool (by rw [← HR.out]; simp [hc]), bel_drewN hb1 _⟩
end Go.Proofs.YtbmijpjmdpdfkaaDoor

/- The walks of the document's Whole and Depth of terms. No condition but that the term lies in memory. -/
namespace Go.Proofs.YtbmijpjmdpdfkaaDoor
open Go.RowKit

mutual
/-- Is it whole all through? -/
def Tr.allB : Tr → Bool
  | .mk k n s ls la lc a c b off args => (Tr.mk k n s ls la lc a c b off args).wholeB && Tr.allsB args
def Tr.allsB : List Tr → Bool
  | [] => true
  | T :: r => T.allB && Tr.allsB r
end
theorem Tr.allB_eq (T : Tr) : T.allB = (T.wholeB && Tr.allsB T.args) := by cases T; rw [Tr.allB]; rfl
theorem Tr.allsB_iff {l : List Tr} : Tr.allsB l = true ↔ ∀ T ∈ l, T.allB = true := by
  induction l with
  | nil => simp [Tr.allsB]
  | cons x r ih => simp [Tr.allsB, ih]
theorem Tr.allsB_bad {l : List Tr} {i : Nat} {L : Tr} (h : l[i]? = some L) (hL : L.allB = false) : Tr.allsB l = false := by
  cases e : Tr.allsB l with
  | false => rfl
  | true => have := Tr.allsB_iff.1 e L (List.mem_of_getElem? h); rw [this] at hL; cases hL
theorem Tr.allsB_take {l : List Tr} {i : Nat} {L : Tr} (h : l[i]? = some L) (hi : Tr.allsB (l.take i) = true) (hL : L.allB = true) : Tr.allsB (l.take (i + 1)) = true := by
  rw [Tr.allsB_iff] at hi ⊢
  have hl := (List.getElem?_eq_some_iff.1 h).1
  rw [List.take_succ_eq_append_getElem hl, (List.getElem?_eq_some_iff.1 h).2]
  intro x hx
  rcases List.mem_append.1 hx with hx | hx
  · exact hi x hx
  · simp at hx; subst hx; exact hL

/-- Is it whole all through, with at most so many parts? -/
def Tr.wleB (T : Tr) (left : Int) : Bool := T.allB && decide ((T.size : Int) ≤ left)
def wleN (T : Tr) (left : Int) : Int := if T.wleB left = true then left - T.size else -1

set_option maxRecDepth 100000 in
set_option maxHeartbeats 1000000 in
theorem rwhole_node (T : Tr) (ih : ∀ L ∈ T.args, ∀ (left : Int) (w : World) (B : Nat), 0 ≤ left → left ≤ 4611686018427387904 → B ≤ w.heap.size → TIn w (· < B) L →
      Calls Tryd.prog 36 #[L.val, .int .i64 left] w fun e w' => e = .returned (.tuple #[.int .i64 (wleN L left), .bool (L.wleB left)]) ∧ Below w.heap.size w w')
    (left : Int) (w : World) (B : Nat) (h0 : 0 ≤ left) (h1 : left ≤ 4611686018427387904) (hB : B ≤ w.heap.size) (hin : TIn w (· < B) T) :
    Calls Tryd.prog 36 #[T.val, .int .i64 left] w fun e w' => e = .returned (.tuple #[.int .i64 (wleN T left), .bool (T.wleB left)]) ∧ Below w.heap.size w w' := by
  have hN := tin_iff.1 hin
  have hle := hN.le
  have hmx := hN.max
  obtain ⟨w1, hw1, hb1, X1, hs1⟩ := one_new w (tl T) 25
  have hcall := rpart_any T w1
  obtain ⟨r, HR⟩ : ∃ r, Hid (T.wleB left = r) := ⟨_, rfl⟩
  obtain ⟨rn, HN⟩ : ∃ rn, Hid (wleN T left = rn) := ⟨_, rfl⟩
  rw [HR.out, HN.out]
  have HSZ : Hid ((T.size = Tr.sizes T.args + 1) ∧ T.allB = (T.wholeB && Tr.allsB T.args)) := ⟨T.size_eq, T.allB_eq⟩
  have hss : ∀ j, Tr.sizes (T.args.take j) ≤ Tr.sizes T.args := fun j => Tr.sizes_take_le T.args j
  -- the way out with false
  have no : T.wleB left = false → r = false ∧ rn = -1 := fun h => ⟨by rw [← HR.out]; exact h, by rw [← HN.out]; unfold wleN; rw [h]; rfl⟩
  have yes : T.wleB left = true → r = true ∧ rn = left - T.size := fun h => ⟨by rw [← HR.out]; exact h, by rw [← HN.out]; unfold wleN; rw [if_pos h]⟩
  clear HR HN
  unfold Tr.val at hcall ⊢
  unfold tl at hw1 X1
  have x0 := X1.cell (j := 0) rfl
  have x1 := X1.cell (j := 1) rfl
  have x2 := X1.cell (j := 2) rfl
  have x3 := X1.cell (j := 3) rfl
  have x4 := X1.cell (j := 4) rfl
  by_cases hz : left = 0
  · have hw : T.wleB left = false := by unfold Tr.wleB; rw [decide_eq_false (by have := T.size_pos; omega), Bool.and_false]
    obtain ⟨rfl, rfl⟩ := no hw
    subst hz
    clear no yes hw hcall
    go_enter Tryd.func36, Tryd.ntmps36
    go_wp2_with fail
    go_ret2
    exact ⟨rfl, hb1⟩
  · have hd : decide (left - 1 < 0) = false := by simp; omega
    cases hp : T.wholeB with
    | false =>
      have hw : T.wleB left = false := by unfold Tr.wleB; rw [HSZ.out.2, hp]; rfl
      obtain ⟨rfl, rfl⟩ := no hw
      rw [hp] at hcall
      clear no yes hw
      go_enter Tryd.func36, Tryd.ntmps36
      go_wp2_with (go_at_call 70; refine hcall.mono ?_; rintro e w2 ⟨rfl, hb2⟩)
      go_ret2
      exact ⟨rfl, hb1.trans (hb2.mono (by omega))⟩
    | true =>
      rw [hp] at hcall
      have HP : Hid (T.allB = Tr.allsB T.args ∧ T.size = Tr.sizes T.args + 1) := ⟨by rw [HSZ.out.2, hp]; rfl, HSZ.out.1⟩
      have hno : (Tr.allsB T.args = false ∨ left < Tr.sizes T.args + 1) → r = false ∧ rn = -1 := fun h => no (by
        unfold Tr.wleB
        rw [HP.out.1, HP.out.2]
        rcases h with h | h
        · rw [h]; rfl
        · rw [decide_eq_false (by omega), Bool.and_false])
      have hyes : Tr.allsB T.args = true → (Tr.sizes T.args + 1 : Int) ≤ left → r = true ∧ rn = left - 1 - Tr.sizes T.args := fun h h' => by
        obtain ⟨y1, y2⟩ := yes (by unfold Tr.wleB; rw [HP.out.1, HP.out.2, h, decide_eq_true (by omega)]; rfl)
        exact ⟨y1, by rw [y2, HP.out.2]; omega⟩
      clear no yes HSZ HP hp
      obtain ⟨k, n, s, ls, la, lc, a, c0, tb, toff, args⟩ := T
      simp only [Tr.k, Tr.n, Tr.s, Tr.ls, Tr.la, Tr.lc, Tr.a, Tr.c, Tr.args] at *
      go_enter Tryd.func36, Tryd.ntmps36
      go_wp2_with (go_at_call 70; refine hcall.mono ?_; rintro e w2 ⟨rfl, hb2⟩)
      have X2 := X1.below hb2 X1.lt
      have hb02 := hb1.trans (hb2.mono (by omega))
      clear x0 x1 x2 x3 x4 hcall hb1 hb2 X1 hw1 hs1
      go_loopw [1, 6] (fun x i wr => ∃ (c : Int) (j : Nat), x = .int .i64 c ∧ i = .int .i64 (j : Int) ∧ j ≤ args.length ∧ c = left - 1 - Tr.sizes (args.take j) ∧ 0 ≤ c ∧ Tr.allsB (args.take j) = true ∧ Blk wr w.heap.size 25 [.int .i64 k, .int .i64 n, .string s, .slice la ls.length lc, .slice a args.length c0] ∧ Below w.heap.size w wr) (fun _ i _ => args.length - (intOf i).toNat)
      case atStart => exact ⟨left - 1, 0, by go_num, rfl, by omega, by simp [Tr.sizes], by omega, by simp [Tr.allsB], X2, hb02⟩
      case round =>
        clear X2 hb02
        obtain ⟨c, j, rfl, rfl, hj, hc, hc0, hal, hb, hbel⟩ := hrel
        have x4 := hb.cell (j := 4) rfl
        have HC : Hid (c = left - 1 - Tr.sizes (args.take j) ∧ Tr.allsB (args.take j) = true) := ⟨hc, hal⟩
        have hcl : c ≤ 4611686018427387904 := by omega
        clear hc hal
        have hsz : w.heap.size ≤ wr.heap.size := hbel.size
        by_cases hlt : j < args.length
        · obtain ⟨L, hL⟩ : ∃ L, args[j]? = some L := ⟨_, List.getElem?_eq_getElem hlt⟩
          obtain ⟨b, off, ha, hS, hbl, e0, e1, e2, e3, e4, hL'⟩ := (hin.below hbel hB).arg (T := .mk k n s ls la lc a c0 tb toff args) hL
          simp only [Tr.a] at ha
          subst ha
          have hcl2 := ih L (List.mem_of_getElem? hL) c wr B hc0 hcl (by omega) hL'
          have HL : Hid (args[j]? = some L) := hL
          clear hL
          simp only [Tr.val] at hcl2
          cases hw : L.wleB c with
          | true =>
            have hN2 : wleN L c = c - L.size := by unfold wleN; rw [if_pos hw]
            have hLs : (L.size : Int) ≤ c := by unfold Tr.wleB at hw; simp at hw; exact hw.2
            have HW : Hid (L.allB = true) := by unfold Tr.wleB at hw; simp at hw; exact hw.1
            rw [hw, hN2] at hcl2
            clear hw hN2
            go_wp2_with (go_at_call 36; refine hcl2.mono ?_; rintro e w' ⟨rfl, hb2⟩)
            go_roundw
            case rel =>
              have q1 := Tr.sizes_take HL.out
              have q2 := HC.out
              exact ⟨c - L.size, j + 1, by go_num, by go_num, by omega, by omega, by omega, Tr.allsB_take HL.out q2.2 HW.out, hb.below hb2 hb.lt, hbel.trans (hb2.mono hsz)⟩
            case measure => simp [intOf]; omega
          | false =>
            have hN2 : wleN L c = -1 := by unfold wleN; rw [hw]; rfl
            have hb' : Tr.allsB args = false ∨ left < Tr.sizes args + 1 := by
              unfold Tr.wleB at hw
              cases hLa : L.allB with
              | false => exact .inl (Tr.allsB_bad HL.out hLa)
              | true =>
                rw [hLa] at hw
                simp at hw
                have q1 := Tr.sizes_take HL.out
                have q3 := hss (j + 1)
                have q2 := HC.out.1
                exact .inr (by omega)
            obtain ⟨rfl, rfl⟩ := hno hb'
            rw [hw, hN2] at hcl2
            clear hw hN2 hb' hno hyes
            go_wp2_with (go_at_call 36; refine hcl2.mono ?_; rintro e w' ⟨rfl, hb2⟩)
            go_ret2
            exact ⟨rfl, hbel.trans (hb2.mono hsz)⟩
        · have q2 := HC.out
          rw [List.take_of_length_le (by omega)] at q2
          obtain ⟨rfl, rfl⟩ := hyes q2.2 (by omega)
          have HQ : Hid (c = left - 1 - Tr.sizes args) := q2.1
          clear q2 hno hyes
          go_wp2_with fail
          go_ret2
          have hq := HQ.out
          subst hq
          exact ⟨rfl, hbel⟩

theorem rwhole_any (T : Tr) : ∀ (left : Int) (w : World) (B : Nat), 0 ≤ left → left ≤ 4611686018427387904 → B ≤ w.heap.size → TIn w (· < B) T →
      Calls Tryd.prog 36 #[T.val, .int .i64 left] w fun e w' => e = .returned (.tuple #[.int .i64 (wleN T left), .bool (T.wleB left)]) ∧ Below w.heap.size w w' := by
  refine Tr.ind' (P := fun T => ∀ (left : Int) (w : World) (B : Nat), 0 ≤ left → left ≤ 4611686018427387904 → B ≤ w.heap.size → TIn w (· < B) T →
      Calls Tryd.prog 36 #[T.val, .int .i64 left] w fun e w' => e = .returned (.tuple #[.int .i64 (wleN T left), .bool (T.wleB left)]) ∧ Below w.heap.size w w') ?_ T
  intro T ih left w B h1 h2 h3 h4
  exact rwhole_node T ih left w B h1 h2 h3 h4


set_option maxRecDepth 100000 in
set_option maxHeartbeats 400000 in
theorem rdepth_zero (T : Tr) (most : Int) (w : World) (hm : most ≤ 0) : Calls Tryd.prog 13 #[T.val, .int .i64 most] w fun e w' => e = .returned (.int .i64 1) ∧ Below w.heap.size w w' := by
  unfold Tr.val
  by_cases h0 : most = 0
  · subst h0
    go_enter Tryd.func13, Tryd.ntmps13
    go_wp2_with fail
    go_ret
    exact ⟨rfl, below_alloc _ _⟩
  · have hn : ¬ 0 ≤ most := by omega
    go_enter Tryd.func13, Tryd.ntmps13
    go_wp2_with fail
    go_ret
    exact ⟨rfl, below_alloc _ _⟩

theorem Tr.depths_append (a b : List Tr) : Tr.depths (a ++ b) = max (Tr.depths a) (Tr.depths b) := by
  induction a with
  | nil => simp [Tr.depths]
  | cons x r ih => simp only [List.cons_append, Tr.depths, ih]; omega
theorem Tr.depths_take {args : List Tr} {i : Nat} {L : Tr} (h : args[i]? = some L) : Tr.depths (args.take (i + 1)) = max (Tr.depths (args.take i)) L.depth := by
  have hi := (List.getElem?_eq_some_iff.1 h).1
  rw [List.take_succ_eq_append_getElem hi, (List.getElem?_eq_some_iff.1 h).2, Tr.depths_append]; simp [Tr.depths]
theorem Tr.depth_pos (T : Tr) : 1 ≤ T.depth := by rw [Tr.depth_eq]; omega

set_option maxRecDepth 100000 in
set_option maxHeartbeats 1000000 in
theorem rdepth_node (T : Tr) (ih : ∀ L ∈ T.args, ∀ (most : Int) (w : World) (B : Nat), 0 ≤ most → most ≤ 9223372036854775806 → B ≤ w.heap.size → TIn w (· < B) L →
      Calls Tryd.prog 13 #[L.val, .int .i64 most] w fun e w' => e = .returned (.int .i64 (min (L.depth : Int) (most + 1))) ∧ Below w.heap.size w w')
    (most : Int) (w : World) (B : Nat) (hm0 : 0 < most) (hm1 : most ≤ 9223372036854775807) (hdp : most ≤ 9223372036854775806 ∨ T.depth ≤ 4611686018427387904) (hB : B ≤ w.heap.size) (hin : TIn w (· < B) T) :
    Calls Tryd.prog 13 #[T.val, .int .i64 most] w fun e w' => e = .returned (.int .i64 (min (T.depth : Int) (most + 1))) ∧ Below w.heap.size w w' := by
  have hN := tin_iff.1 hin
  have hle := hN.le
  have hmx := hN.max
  rw [T.depth_eq] at hdp ⊢
  obtain ⟨w1, hw1, hb1, X1, hs1⟩ := one_new w (tl T) 25
  have HDP : Hid (most ≤ 9223372036854775806 ∨ Tr.depths T.args + 1 ≤ 4611686018427387904) := hdp
  clear hdp
  unfold Tr.val
  unfold tl at hw1 X1
  obtain ⟨k, n, s, ls, la, lc, a, c0, tb, toff, args⟩ := T
  simp only [Tr.k, Tr.n, Tr.s, Tr.ls, Tr.la, Tr.lc, Tr.a, Tr.c, Tr.args] at *
  have hm2 : (most == 0) = false := by simp; omega
  have hm3 : 0 ≤ most := by omega
  obtain ⟨r, HR⟩ : ∃ r, Hid (min (((Tr.depths args + 1 : Nat) : Int)) (most + 1) = r) := ⟨_, rfl⟩
  rw [HR.out]
  go_enter Tryd.func13, Tryd.ntmps13
  go_wp2_with fail
  go_loopw [5, 6] (fun x i wr => ∃ (c : Int) (j : Nat), x = .int .i64 c ∧ i = .int .i64 (j : Int) ∧ j ≤ args.length ∧ c = min ((Tr.depths (args.take j) : Nat) : Int) most ∧ Blk wr w.heap.size 25 [.int .i64 k, .int .i64 n, .string s, .slice la ls.length lc, .slice a args.length c0] ∧ Below w.heap.size w wr) (fun _ i _ => args.length - (intOf i).toNat)
  case atStart => exact ⟨0, 0, rfl, rfl, by omega, by simp [Tr.depths]; omega, X1, hb1⟩
  case round =>
    obtain ⟨c, j, rfl, rfl, hj, hc, hb, hbel⟩ := hrel
    have x4 := hb.cell (j := 4) rfl
    have HC : Hid (c = min ((Tr.depths (args.take j) : Nat) : Int) most) := hc
    have hc1 : c ≤ most := by omega
    have hc0 : 0 ≤ c := by omega
    clear hc
    have hsz : w.heap.size ≤ wr.heap.size := hbel.size
    by_cases hlt : j < args.length
    · obtain ⟨L, hL⟩ : ∃ L, args[j]? = some L := ⟨_, List.getElem?_eq_getElem hlt⟩
      obtain ⟨b, off, ha, hS, hbl, e0, e1, e2, e3, e4, hL'⟩ := (hin.below hbel hB).arg (T := .mk k n s ls la lc a c0 tb toff args) hL
      simp only [Tr.a] at ha
      subst ha
      have hcall := ih L (List.mem_of_getElem? hL) (most - 1) wr B (by omega) (by omega) (by omega) hL'
      have HL : Hid (Tr.depths (args.take (j + 1)) = max (Tr.depths (args.take j)) L.depth) := Tr.depths_take hL
      clear hL
      simp only [Tr.val] at hcall
      rw [show most - 1 + 1 = most by omega] at hcall
      obtain ⟨rr, HG, hr0, hr1⟩ : ∃ rr, Hid (min (L.depth : Int) most = rr) ∧ 0 ≤ rr ∧ rr ≤ most := ⟨_, rfl, by omega, by omega⟩
      rw [HG.out] at hcall
      by_cases hcr : c < rr
      · go_wp2_with (go_at_call 13; refine hcall.mono ?_; rintro e w' ⟨rfl, hb2⟩)
        go_roundw
        case rel =>
          have h1 := HL.out
          have h2 := HC.out
          have h3 := HG.out
          exact ⟨rr, j + 1, by go_num, by go_num, by omega, by omega, hb.below hb2 hb.lt, hbel.trans (hb2.mono hsz)⟩
        case measure => simp [intOf]; omega
      · go_wp2_with (go_at_call 13; refine hcall.mono ?_; rintro e w' ⟨rfl, hb2⟩)
        go_roundw
        case rel =>
          have h1 := HL.out
          have h2 := HC.out
          have h3 := HG.out
          exact ⟨c, j + 1, by go_num, by go_num, by omega, by omega, hb.below hb2 hb.lt, hbel.trans (hb2.mono hsz)⟩
        case measure => simp [intOf]; omega
    · have h2 := HC.out
      rw [List.take_of_length_le (by omega)] at h2
      have hcs : c ≤ 9223372036854775806 := by have := HDP.out; omega
      have HQ : Hid (c = min ((Tr.depths args : Nat) : Int) most) := h2
      clear h2
      go_wp2_with fail
      go_ret
      have h2 := HQ.out
      have h3 := HR.out
      exact ⟨ret_int (by omega), hbel⟩

theorem rdepth_pos (T : Tr) : ∀ (most : Int) (w : World) (B : Nat), 0 ≤ most → most ≤ 9223372036854775806 → B ≤ w.heap.size → TIn w (· < B) T →
    Calls Tryd.prog 13 #[T.val, .int .i64 most] w fun e w' => e = .returned (.int .i64 (min (T.depth : Int) (most + 1))) ∧ Below w.heap.size w w' := by
  refine Tr.ind' (P := fun T => ∀ (most : Int) (w : World) (B : Nat), 0 ≤ most → most ≤ 9223372036854775806 → B ≤ w.heap.size → TIn w (· < B) T →
    Calls Tryd.prog 13 #[T.val, .int .i64 most] w fun e w' => e = .returned (.int .i64 (min (T.depth : Int) (most + 1))) ∧ Below w.heap.size w w') ?_ T
  intro T ih most w B h1 h2 h3 h4
  by_cases h : most = 0
  · rw [show min (T.depth : Int) (most + 1) = 1 by have := T.depth_pos; omega]
    exact rdepth_zero T most w (by omega)
  · exact rdepth_node T ih most w B (by omega) (by omega) (.inl h2) h3 h4

theorem rdepth_any (T : Tr) (most : Int) (w : World) (B : Nat) (hm1 : most ≤ 9223372036854775807) (hdp : most ≤ 9223372036854775806 ∨ T.depth ≤ 4611686018427387904) (hB : B ≤ w.heap.size) (hin : TIn w (· < B) T) :
    Calls Tryd.prog 13 #[T.val, .int .i64 most] w fun e w' => e = .returned (.int .i64 (min (T.depth : Int) (max most 0 + 1))) ∧ Below w.heap.size w w' := by
  by_cases h : 0 < most
  · rw [show max most 0 = most by omega]; exact rdepth_node T (fun L _ => rdepth_pos L) most w B h hm1 hdp hB hin
  · rw [show min (T.depth : Int) (max most 0 + 1) = 1 by have := T.depth_pos; omega]
    exact rdepth_zero T most w (by omega)
end Go.Proofs.YtbmijpjmdpdfkaaDoor
