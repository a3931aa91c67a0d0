/- The walks of term's check and its four functions. No condition but that the part lies in memory, and that the tables hold what the program's text lays. -/
import Derived.Test.YtekdalbhgdkckaaGreatDoorChk
namespace Go.Proofs.YtekdalbhgdkckaaGreatDoor
open Go.RowKit

/-- What is wrong with a Var. -/
def Pt.varE (p : Pt) (bd : Int) : Int := if p.freeB = true ∧ bd ≤ p.freeN then 8 else 0

/-- What is wrong with Levels. -/
def lvsB (ls : List Lv) (q : Int) : Bool := ls.all fun L => mayB L q

def Tr.lvE (T : Tr) (q : Int) : Int := if T.ls.length ≤ 4 ∧ lvsB T.ls q = true then 0 else 7

/-- What is wrong with a Const. -/
def Tr.conE (T : Tr) (q : Int) : Int := if T.lvE q ≠ 0 then T.lvE q else if emB T.s = true ∨ 24 < T.s.size then 9 else 0

/-- What is wrong with a part. -/
def Pt.chkE (p : Pt) (bd q : Int) : Int := if p.t.k = 0 then p.varE bd else if p.t.k = 1 then p.t.lvE q else if p.t.k = 2 then p.t.conE q else 0

theorem checkNothing_any (bd q : Int) (v0 v1 v2 : Value) (w : World) : Calls Tryz.prog 112 #[.agg #[.int .i64 bd, .int .i64 q], .agg #[v0, v1, v2]] w fun e w' => e = .returned (.int .i64 0) ∧ Below w.heap.size w w' := by
  go_enter Tryz.func112, Tryz.ntmps112
  go_wp2_with fail
  go_ret
  exact ⟨rfl, ((Below.refl _ _).alloc (Nat.le_refl _) _).alloc (by simp) _⟩

set_option maxRecDepth 100000 in
set_option maxHeartbeats 400000 in
theorem checkVar_any (bd q : Int) (p : Pt) (w : World) (hc : TCells w p.b p.off p.t) (hm : p.m ≤ 1073741824) (hn1 : p.t.n ≤ 9223372036854775807) :
    Calls Tryz.prog 109 #[.agg #[.int .i64 bd, .int .i64 q], p.val] w fun e w' => e = .returned (.int .i64 (p.varE bd)) ∧ Below w.heap.size w w' := by
  obtain ⟨w1, hw1, hb1, P1, Q1, hs1⟩ := two_new w [.int .i64 bd, .int .i64 q] [.pointer (some ⟨p.b, p.off, none⟩), .int .i64 (p.d : Int), .int .i64 (p.m : Int)] 181 178
  have p0 := P1.cell (j := 0) rfl
  have p1 := P1.cell (j := 1) rfl
  have q0 := Q1.cell (j := 0) rfl
  have q1 := Q1.cell (j := 1) rfl
  have q2 := Q1.cell (j := 2) rfl
  have hcall := free_any p w1 (hc.on hb1) hm hn1
  unfold Pt.varE
  unfold Pt.val at hcall ⊢
  generalize p.freeN = fN at *
  cases hf : p.freeB with
  | false =>
    rw [hf] at hcall
    rw [if_neg (by simp)]
    go_enter Tryz.func109, Tryz.ntmps109
    go_wp2_with (go_at_call 123; refine hcall.mono ?_; rintro e w2 ⟨rfl, hb2⟩; have r0 := (P1.below hb2 P1.lt).cell (j := 0) rfl)
    go_ret
    exact ⟨rfl, hb1.trans (hb2.mono (by omega))⟩
  | true =>
    rw [hf] at hcall
    by_cases hle : bd ≤ fN
    · have hd : decide (bd ≤ fN) = true := by simpa using hle
      rw [if_pos ⟨rfl, hle⟩]
      go_enter Tryz.func109, Tryz.ntmps109
      go_wp2_with (go_at_call 123; refine hcall.mono ?_; rintro e w2 ⟨rfl, hb2⟩; have r0 := (P1.below hb2 P1.lt).cell (j := 0) rfl)
      go_ret
      exact ⟨rfl, hb1.trans (hb2.mono (by omega))⟩
    · have hd : decide (bd ≤ fN) = false := by simpa using hle
      rw [if_neg (fun h => hle h.2)]
      go_enter Tryz.func109, Tryz.ntmps109
      go_wp2_with (go_at_call 123; refine hcall.mono ?_; rintro e w2 ⟨rfl, hb2⟩; have r0 := (P1.below hb2 P1.lt).cell (j := 0) rfl)
      go_ret
      exact ⟨rfl, hb1.trans (hb2.mono (by omega))⟩

theorem lvsB_take {ls : List Lv} {q : Int} {j : Nat} {L : Lv} (h : ls[j]? = some L) (hi : lvsB (ls.take j) q = true) (hL : mayB L q = true) : lvsB (ls.take (j + 1)) q = true := by
  have hl := (List.getElem?_eq_some_iff.1 h).1
  unfold lvsB at *
  rw [List.take_succ_eq_append_getElem hl, (List.getElem?_eq_some_iff.1 h).2, List.all_append, hi]
  simpa using hL

theorem lvsB_bad {ls : List Lv} {q : Int} {j : Nat} {L : Lv} (h : ls[j]? = some L) (hL : mayB L q = false) : lvsB ls q = false := by
  unfold lvsB
  rw [List.all_eq_false]
  exact ⟨L, List.mem_of_getElem? h, by simp [hL]⟩

set_option maxRecDepth 100000 in
set_option maxHeartbeats 1000000 in
theorem checkLevels_any (bd q : Int) (p : Pt) (w : World) (B : Nat) (h3 : 5 ≤ B) (hB : B ≤ w.heap.size) (hT : Tabs w) (hc : TCells w p.b p.off p.t) (hin : TIn w (· < B) p.t) :
    Calls Tryz.prog 110 #[.agg #[.int .i64 bd, .int .i64 q], p.val] w fun e w' => e = .returned (.int .i64 (p.t.lvE q)) ∧ Below w.heap.size w w' := by
  have hN := (tin_iff.1 hin).lv
  have hlb := hc.lt
  have c3 := hc.c3
  obtain ⟨w1, hw1, hb1, P1, Q1, hs1⟩ := two_new w [.int .i64 bd, .int .i64 q] [.pointer (some ⟨p.b, p.off, none⟩), .int .i64 (p.d : Int), .int .i64 (p.m : Int)] 181 178
  have q0 := Q1.cell (j := 0) rfl
  have q1 := Q1.cell (j := 1) rfl
  have q2 := Q1.cell (j := 2) rfl
  have C3 := ((bcell hb1).1 p.b (p.off + 3) hlb).trans c3
  have hle := hN.le
  have hmx := hN.max
  unfold Tr.lvE Pt.val
  generalize p.t.ls = ls at *
  generalize p.t.la = la at *
  generalize p.t.lc = lc at *
  obtain ⟨r, HRES⟩ : ∃ r, Hid ((if ls.length ≤ 4 ∧ lvsB ls q = true then (0 : Int) else 7) = r) := ⟨_, rfl⟩
  rw [HRES.out]
  by_cases h4 : ls.length ≤ 4
  · have hd : decide ((4 : Int) < (ls.length : Int)) = false := by simp; omega
    go_enter Tryz.func110, Tryz.ntmps110
    go_wp2_with fail
    clear q0 q1 q2 C3 c3 hc hin
    go_loopw [20] (fun i wr => ∃ j : Nat, i = .int .i64 (j : Int) ∧ j ≤ ls.length ∧ lvsB (ls.take j) q = true ∧ Blk wr w.heap.size 181 [.int .i64 bd, .int .i64 q] ∧ Below w.heap.size w wr ∧ w.heap.size + 2 ≤ wr.heap.size) (fun i _ => ls.length - (intOf i).toNat)
    case atStart => exact ⟨0, rfl, by omega, by simp [lvsB], P1, hb1, by omega⟩
    case round =>
      obtain ⟨j, rfl, hj, hok, hP, hbel, hsz⟩ := hrel
      have HO : Hid (lvsB (ls.take j) q = true) := hok
      clear hok
      by_cases hlt : j < ls.length
      · obtain ⟨L, hL⟩ : ∃ L, ls[j]? = some L := ⟨_, List.getElem?_eq_getElem hlt⟩
        obtain ⟨b, off, k', n', args', a', cap', rfl, hS, rfl, e0, e1, e2, hN'⟩ := (hN.below hbel hB).get hL
        have HL : Hid (ls[j]? = some (.mk k' n' args')) := hL
        clear hL
        obtain ⟨w3, hw3, hb3, X3, hs3⟩ := one_new wr [.int .i64 k', .int .i64 n', .slice a' args'.length cap'] 92
        have x0 := X3.cell (j := 0) rfl
        have x1 := X3.cell (j := 1) rfl
        have x2 := X3.cell (j := 2) rfl
        have y1 := (hP.below hb3 hP.lt).cell (j := 1) rfl
        have hcall := may_any (.mk k' n' args') q w3 B _ h3 (by omega) ((hT.on hbel).on hb3) (hN'.is.below hb3 (by omega))
        cases hr : mayB (.mk k' n' args') q with
        | true =>
          rw [hr] at hcall
          go_wp2_with (go_at_call 124; refine hcall.mono ?_; rintro e w4 ⟨rfl, hb4⟩)
          go_roundw
          case rel =>
            have hs4 := hb4.size
            exact ⟨j + 1, by go_num, by omega, lvsB_take HL.out HO.out hr, (hP.below hb3 hP.lt).below hb4 (by have := hP.lt; omega), (hbel.trans (hb3.mono (by omega))).trans (hb4.mono (by omega)), by omega⟩
          case measure => simp [intOf]; omega
        | false =>
          rw [hr] at hcall
          have HR : Hid (lvsB ls q = false) := lvsB_bad HL.out hr
          go_wp2_with (go_at_call 124; refine hcall.mono ?_; rintro e w4 ⟨rfl, hb4⟩)
          go_ret
          exact ⟨ret_int (by have h := HRES.out; rw [HR.out, if_neg (by simp)] at h; exact h), (hbel.trans (hb3.mono (by omega))).trans (hb4.mono (by omega))⟩
      · clear hN
        go_wp2_with fail
        go_ret
        have h := HO.out
        rw [List.take_of_length_le (by omega)] at h
        exact ⟨ret_int (by have h' := HRES.out; rw [h, if_pos ⟨h4, rfl⟩] at h'; exact h'), hbel⟩
  · have hd : decide ((4 : Int) < (ls.length : Int)) = true := by simp; omega
    go_enter Tryz.func110, Tryz.ntmps110
    go_wp2_with fail
    go_ret
    exact ⟨ret_int (by have h := HRES.out; rw [if_neg (fun h => h4 h.1)] at h; exact h), hb1⟩

theorem lvE_two (T : Tr) (q : Int) : T.lvE q = 0 ∨ T.lvE q = 7 := by unfold Tr.lvE; split <;> simp

set_option maxRecDepth 100000 in
set_option maxHeartbeats 1000000 in
theorem checkConst_any (bd q : Int) (p : Pt) (w : World) (B : Nat) (h3 : 5 ≤ B) (hB : B ≤ w.heap.size) (hT : Tabs w) (hc : TCells w p.b p.off p.t) (hin : TIn w (· < B) p.t) :
    Calls Tryz.prog 111 #[.agg #[.int .i64 bd, .int .i64 q], p.val] w fun e w' => e = .returned (.int .i64 (p.t.conE q)) ∧ Below w.heap.size w w' := by
  have hlb := hc.lt
  have c2 := hc.c2
  obtain ⟨w1, hw1, hb1, P1, Q1, hs1⟩ := two_new w [.int .i64 bd, .int .i64 q] [.pointer (some ⟨p.b, p.off, none⟩), .int .i64 (p.d : Int), .int .i64 (p.m : Int)] 181 178
  have p0 := P1.cell (j := 0) rfl
  have p1 := P1.cell (j := 1) rfl
  have q0 := Q1.cell (j := 0) rfl
  have q1 := Q1.cell (j := 1) rfl
  have q2 := Q1.cell (j := 2) rfl
  have hcall := checkLevels_any bd q p w1 B h3 (by omega) (hT.on hb1) (hc.on hb1) (hin.below hb1 hB)
  have C2 := ((bcell hb1).1 p.b (p.off + 2) hlb).trans c2
  have h07 := lvE_two p.t q
  unfold Tr.conE
  unfold Pt.val at hcall ⊢
  generalize p.t.lvE q = le at *
  generalize p.t.s = s at *
  rcases h07 with rfl | rfl
  · rw [if_neg (by simp)]
    obtain ⟨r, HRES⟩ : ∃ r, Hid ((if emB s = true ∨ 24 < s.size then (9 : Int) else 0) = r) := ⟨_, rfl⟩
    rw [HRES.out]
    have fin : ∀ w2, Below w1.heap.size w1 w2 → Below w.heap.size w w2 := fun w2 hb2 => hb1.trans (hb2.mono (by omega))
    go_enter Tryz.func111, Tryz.ntmps111
    go_wp2_with (go_at_call 110; refine hcall.mono ?_; rintro e w2 ⟨rfl, hb2⟩; have Q2 := Q1.below hb2 Q1.lt; have r0 := Q2.cell (j := 0) rfl; have r1 := Q2.cell (j := 1) rfl; have r2 := Q2.cell (j := 2) rfl; have D2 := ((bcell hb2).1 p.b (p.off + 2) (by omega)).trans C2)
    all_goals
      go_ret
      exact ⟨ret_int (by rw [← HRES.out]; unfold emB; simp_all <;> omega), fin _ hb2⟩
  · rw [if_pos (by simp)]
    go_enter Tryz.func111, Tryz.ntmps111
    go_wp2_with (go_at_call 110; refine hcall.mono ?_; rintro e w2 ⟨rfl, hb2⟩)
    go_ret
    exact ⟨rfl, hb1.trans (hb2.mono (by omega))⟩

set_option maxRecDepth 100000 in
set_option maxHeartbeats 1000000 in
theorem check_any (bd q : Int) (p : Pt) (w : World) (B : Nat) (h3 : 5 ≤ B) (hB : B ≤ w.heap.size) (hT : Tabs w) (hc : TCells w p.b p.off p.t) (hin : TIn w (· < B) p.t) (hm : p.m ≤ 1073741824) (hk : 0 ≤ p.t.k ∧ p.t.k < 7) :
    Calls Tryz.prog 91 #[.agg #[.int .i64 bd, .int .i64 q], p.val] w fun e w' => e = .returned (.int .i64 (p.chkE bd q)) ∧ Below w.heap.size w w' := by
  have hrs : ∀ (w : World) (a : Addr) (f : Nat), (store a (Value.func (Fn.func f) #[] #[])).run Tryz.prog w = _ := fun w a f => run_store Tryz.prog w a (.func (.func f) #[] #[]) .plain rfl
  have hN := tin_iff.1 hin
  have hlb := hc.lt
  have c0 := hc.c0
  obtain ⟨w0, hw0, hb0, P0, Q0, hs0⟩ := two_new w [.int .i64 bd, .int .i64 q] [.pointer (some ⟨p.b, p.off, none⟩), .int .i64 (p.d : Int), .int .i64 (p.m : Int)] 181 178
  obtain ⟨w1, hw1, hb1, R1, hs1⟩ := one_new w0 [.func (.func 109) #[] #[], .func (.func 110) #[] #[], .func (.func 111) #[] #[], .func (.func 112) #[] #[], .func (.func 112) #[] #[], .func (.func 112) #[] #[], .func (.func 112) #[] #[]] 195
  rw [hs0] at R1
  have P1 := P0.below hb1 P0.lt
  have Q1 := Q0.below hb1 Q0.lt
  have hbw : Below w.heap.size w w1 := hb0.trans (hb1.mono (by omega))
  have p0 := over_cell (P1.cell (j := 0) rfl)
  have p1 := over_cell (P1.cell (j := 1) rfl)
  have q0 := over_cell (Q1.cell (j := 0) rfl)
  have q1 := over_cell (Q1.cell (j := 1) rfl)
  have q2 := over_cell (Q1.cell (j := 2) rfl)
  have C0 := over_cell (((bcell hbw).1 p.b p.off hlb).trans c0)
  have hc1 : ∀ u, TCells (over w1 u) p.b p.off p.t := fun u => (hc.on hbw).on (over_below w1 u)
  have hin1 : ∀ u, TIn (over w1 u) (· < B) p.t := fun u => (hin.below hbw hB).below (over_below w1 u) (by omega)
  have hT1 : ∀ u, Tabs (over w1 u) := fun u => (hT.on hbw).on (over_below w1 u)
  have hB1 : ∀ u, B ≤ (over w1 u).heap.size := fun u => by have := (over_below w1 u).size; omega
  have e66 : ∀ u, Calls Tryz.prog 109 #[.agg #[.int .i64 bd, .int .i64 q], p.val] (over w1 u) fun e w'' => e = .returned (.int .i64 (p.varE bd)) ∧ ∃ u', w'' = over w1 u' := fun u => Calls.over (checkVar_any bd q p (over w1 u) (hc1 u) hm hN.n1)
  have e67 : ∀ u, Calls Tryz.prog 110 #[.agg #[.int .i64 bd, .int .i64 q], p.val] (over w1 u) fun e w'' => e = .returned (.int .i64 (p.t.lvE q)) ∧ ∃ u', w'' = over w1 u' := fun u => Calls.over (checkLevels_any bd q p (over w1 u) B h3 (hB1 u) (hT1 u) (hc1 u) (hin1 u))
  have e68 : ∀ u, Calls Tryz.prog 111 #[.agg #[.int .i64 bd, .int .i64 q], p.val] (over w1 u) fun e w'' => e = .returned (.int .i64 (p.t.conE q)) ∧ ∃ u', w'' = over w1 u' := fun u => Calls.over (checkConst_any bd q p (over w1 u) B h3 (hB1 u) (hT1 u) (hc1 u) (hin1 u))
  have e69 : ∀ u, Calls Tryz.prog 112 #[.agg #[.int .i64 bd, .int .i64 q], p.val] (over w1 u) fun e w'' => e = .returned (.int .i64 0) ∧ ∃ u', w'' = over w1 u' := fun u => Calls.over (checkNothing_any bd q _ _ _ (over w1 u))
  unfold Pt.val at e66 e67 e68 e69 ⊢
  unfold Pt.chkE
  have a0 := over_cell (R1.cell (j := 0) rfl)
  have a1 := over_cell (R1.cell (j := 1) rfl)
  have a2 := over_cell (R1.cell (j := 2) rfl)
  have a3 := over_cell (R1.cell (j := 3) rfl)
  have a4 := over_cell (R1.cell (j := 4) rfl)
  have a5 := over_cell (R1.cell (j := 5) rfl)
  have a6 := over_cell (R1.cell (j := 6) rfl)
  obtain ⟨j, hj⟩ : ∃ j : Nat, p.t.k = j := ⟨p.t.k.toNat, by omega⟩
  rw [hj] at C0 hk ⊢
  have hj7 : j < 7 := by omega
  clear hk
  match j, hj7 with
  | 0, _ =>
    go_enter Tryz.func91, Tryz.ntmps91
    go_wp2_with fail
    refine wp_region_over w1 (Below.refl _ _) (by kernel_rfl) (by kernel_rfl) ?_
    repeat (go_big_quiet_step (first | (go_at_call 109; exact e66 _)))
    refine wpQuiet_nil ?_
    rintro _ ⟨u, rfl⟩
    go_wp2_with fail
    go_ret
    exact ⟨rfl, hbw.trans ((over_below w1 u).mono hbw.size)⟩
  | 1, _ =>
    go_enter Tryz.func91, Tryz.ntmps91
    go_wp2_with fail
    refine wp_region_over w1 (Below.refl _ _) (by kernel_rfl) (by kernel_rfl) ?_
    repeat (go_big_quiet_step (first | (go_at_call 110; exact e67 _)))
    refine wpQuiet_nil ?_
    rintro _ ⟨u, rfl⟩
    go_wp2_with fail
    go_ret
    exact ⟨rfl, hbw.trans ((over_below w1 u).mono hbw.size)⟩
  | 2, _ =>
    go_enter Tryz.func91, Tryz.ntmps91
    go_wp2_with fail
    refine wp_region_over w1 (Below.refl _ _) (by kernel_rfl) (by kernel_rfl) ?_
    repeat (go_big_quiet_step (first | (go_at_call 111; exact e68 _)))
    refine wpQuiet_nil ?_
    rintro _ ⟨u, rfl⟩
    go_wp2_with fail
    go_ret
    exact ⟨rfl, hbw.trans ((over_below w1 u).mono hbw.size)⟩
  | 3, _ =>
    go_enter Tryz.func91, Tryz.ntmps91
    go_wp2_with fail
    refine wp_region_over w1 (Below.refl _ _) (by kernel_rfl) (by kernel_rfl) ?_
    repeat (go_big_quiet_step (first | (go_at_call 112; exact e69 _)))
    refine wpQuiet_nil ?_
    rintro _ ⟨u, rfl⟩
    go_wp2_with fail
    go_ret
    exact ⟨rfl, hbw.trans ((over_below w1 u).mono hbw.size)⟩
  | 4, _ =>
    go_enter Tryz.func91, Tryz.ntmps91
    go_wp2_with fail
    refine wp_region_over w1 (Below.refl _ _) (by kernel_rfl) (by kernel_rfl) ?_
    repeat (go_big_quiet_step (first | (go_at_call 112; exact e69 _)))
    refine wpQuiet_nil ?_
    rintro _ ⟨u, rfl⟩
    go_wp2_with fail
    go_ret
    exact ⟨rfl, hbw.trans ((over_below w1 u).mono hbw.size)⟩
  | 5, _ =>
    go_enter Tryz.func91, Tryz.ntmps91
    go_wp2_with fail
    refine wp_region_over w1 (Below.refl _ _) (by kernel_rfl) (by kernel_rfl) ?_
    repeat (go_big_quiet_step (first | (go_at_call 112; exact e69 _)))
    refine wpQuiet_nil ?_
    rintro _ ⟨u, rfl⟩
    go_wp2_with fail
    go_ret
    exact ⟨rfl, hbw.trans ((over_below w1 u).mono hbw.size)⟩
  | 6, _ =>
    go_enter Tryz.func91, Tryz.ntmps91
    go_wp2_with fail
    refine wp_region_over w1 (Below.refl _ _) (by kernel_rfl) (by kernel_rfl) ?_
    repeat (go_big_quiet_step (first | (go_at_call 112; exact e69 _)))
    refine wpQuiet_nil ?_
    rintro _ ⟨u, rfl⟩
    go_wp2_with fail
    go_ret
    exact ⟨rfl, hbw.trans ((over_below w1 u).mono hbw.size)⟩

end Go.Proofs.YtekdalbhgdkckaaGreatDoor
