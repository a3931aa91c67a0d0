/- The walks of term's isWhole, free and check. No condition but that the part lies in memory, and that the tables hold what the program's text lays. -/
import Derived.Test.YtekdalbhgdkckaaGreatDoorForm
import Derived.Test.YtekdalbhgdkckaaGreatDoorLMay2
namespace Go.Proofs.YtekdalbhgdkckaaGreatDoor
open Go.RowKit

theorem TCells.on {w w' : World} {b off : Nat} {T : Tr} (h : TCells w b off T) (hb : Below w.heap.size w w') : TCells w' b off T := h.carry (hb.block _ h.lt)

set_option maxRecDepth 100000 in
set_option maxHeartbeats 1000000 in
theorem isWhole_any (p : Pt) (w : World) (S : Nat → Prop) (hT : Tabs w) (hc : TCells w p.b p.off p.t) (hin : TIn w S p.t) :
    Calls Tryz.prog 88 #[p.val] w fun e w' => e = .returned (.bool p.t.wholeB) ∧ Below w.heap.size w w' := by
  have hrs : ∀ (w : World) (a : Addr) (f : Nat), (store a (Value.func (Fn.func f) #[] #[])).run Tryz.prog w = _ := fun w a f => run_store Tryz.prog w a (.func (.func f) #[] #[]) .plain rfl
  have hN := tin_iff.1 hin
  have hle : p.t.args.length ≤ 9223372036854775807 := Nat.le_trans hN.le hN.max
  have hll : p.t.ls.length ≤ 9223372036854775807 := Nat.le_trans hN.lv.le hN.lv.max
  obtain ⟨w1, hw1, hb1, P1, Q1, hs1⟩ := two_new w [.pointer (some ⟨p.b, p.off, none⟩), .int .i64 (p.d : Int), .int .i64 (p.m : Int)] [.func (.func 104) #[] #[], .func (.func 105) #[] #[], .func (.func 106) #[] #[], .func (.func 107) #[] #[], .func (.func 107) #[] #[], .func (.func 107) #[] #[], .func (.func 107) #[] #[]] 178 193
  have hlb := hc.lt
  have p0 := over_cell (P1.cell (j := 0) rfl)
  have p1 := over_cell (P1.cell (j := 1) rfl)
  have p2 := over_cell (P1.cell (j := 2) rfl)
  have C0 := over_cell (((bcell hb1).1 p.b p.off hlb).trans hc.c0)
  have hc1 : ∀ u, TCells (over w1 u) p.b p.off p.t := fun u => (hc.on hb1).on (over_below w1 u)
  have e65 : ∀ u, Calls Tryz.prog 108 #[p.val] (over w1 u) fun e w'' => e = .returned (.bool p.t.formB) ∧ ∃ u', w'' = over w1 u' := fun u => Calls.over (isFormed_any p (over w1 u) ((hT.on hb1).on (over_below w1 u)) (hc1 u) hle)
  have e61 : ∀ u, Calls Tryz.prog 104 #[p.val] (over w1 u) fun e w'' => e = .returned (.bool (varB p.t)) ∧ ∃ u', w'' = over w1 u' := fun u => Calls.over (isWholeVar_any p (over w1 u) (hc1 u) hll)
  have e62 : ∀ u, Calls Tryz.prog 105 #[p.val] (over w1 u) fun e w'' => e = .returned (.bool (sortB p.t)) ∧ ∃ u', w'' = over w1 u' := fun u => Calls.over (isWholeSort_any p (over w1 u) (hc1 u) hll)
  have e63 : ∀ u, Calls Tryz.prog 106 #[p.val] (over w1 u) fun e w'' => e = .returned (.bool (constB p.t)) ∧ ∃ u', w'' = over w1 u' := fun u => Calls.over (isWholeConst_any p (over w1 u) (hc1 u) hll)
  have e64 : ∀ u, Calls Tryz.prog 107 #[p.val] (over w1 u) fun e w'' => e = .returned (.bool (bareB p.t)) ∧ ∃ u', w'' = over w1 u' := fun u => Calls.over (isBare_any p (over w1 u) (hc1 u) hll)
  unfold Pt.val at e61 e62 e63 e64 e65 ⊢
  unfold Tr.wholeB
  have a0 := over_cell (Q1.cell (j := 0) rfl)
  have a1 := over_cell (Q1.cell (j := 1) rfl)
  have a2 := over_cell (Q1.cell (j := 2) rfl)
  have a3 := over_cell (Q1.cell (j := 3) rfl)
  have a4 := over_cell (Q1.cell (j := 4) rfl)
  have a5 := over_cell (Q1.cell (j := 5) rfl)
  have a6 := over_cell (Q1.cell (j := 6) rfl)
  cases hf : p.t.formB with
  | false =>
    rw [hf] at e65
    rw [Bool.false_and]
    go_enter Tryz.func88, Tryz.ntmps88
    go_wp2_with fail
    refine wp_region_over w1 (Below.refl _ _) (by kernel_rfl) (by kernel_rfl) ?_
    repeat (go_big_quiet_step (first | (go_at_call 108; exact e65 _)))
    refine wpQuiet_nil ?_
    rintro _ ⟨u, rfl⟩
    go_wp2_with fail
    go_ret
    exact ⟨rfl, hb1.trans ((over_below w1 u).mono (by omega))⟩
  | true =>
    have hk := Tr.formB_in hf
    rw [hf] at e65
    rw [Bool.true_and]
    clear hf
    obtain ⟨j, hj⟩ : ∃ j : Nat, p.t.k = j := ⟨p.t.k.toNat, by omega⟩
    rw [hj] at C0 hk ⊢
    have hj7 : j < 7 := by omega
    clear hk
    match j, hj7 with
    | 0, _ =>
      go_enter Tryz.func88, Tryz.ntmps88
      go_wp2_with fail
      refine wp_region_over w1 (Below.refl _ _) (by kernel_rfl) (by kernel_rfl) ?_
      repeat (go_big_quiet_step (first | (go_at_call 108; exact e65 _) | (go_at_call 104; exact e61 _)))
      refine wpQuiet_nil ?_
      rintro _ ⟨u, rfl⟩
      go_wp2_with fail
      go_ret
      exact ⟨rfl, hb1.trans ((over_below w1 u).mono (by omega))⟩
    | 1, _ =>
      go_enter Tryz.func88, Tryz.ntmps88
      go_wp2_with fail
      refine wp_region_over w1 (Below.refl _ _) (by kernel_rfl) (by kernel_rfl) ?_
      repeat (go_big_quiet_step (first | (go_at_call 108; exact e65 _) | (go_at_call 105; exact e62 _)))
      refine wpQuiet_nil ?_
      rintro _ ⟨u, rfl⟩
      go_wp2_with fail
      go_ret
      exact ⟨rfl, hb1.trans ((over_below w1 u).mono (by omega))⟩
    | 2, _ =>
      go_enter Tryz.func88, Tryz.ntmps88
      go_wp2_with fail
      refine wp_region_over w1 (Below.refl _ _) (by kernel_rfl) (by kernel_rfl) ?_
      repeat (go_big_quiet_step (first | (go_at_call 108; exact e65 _) | (go_at_call 106; exact e63 _)))
      refine wpQuiet_nil ?_
      rintro _ ⟨u, rfl⟩
      go_wp2_with fail
      go_ret
      exact ⟨rfl, hb1.trans ((over_below w1 u).mono (by omega))⟩
    | 3, _ =>
      go_enter Tryz.func88, Tryz.ntmps88
      go_wp2_with fail
      refine wp_region_over w1 (Below.refl _ _) (by kernel_rfl) (by kernel_rfl) ?_
      repeat (go_big_quiet_step (first | (go_at_call 108; exact e65 _) | (go_at_call 107; exact e64 _)))
      refine wpQuiet_nil ?_
      rintro _ ⟨u, rfl⟩
      go_wp2_with fail
      go_ret
      exact ⟨rfl, hb1.trans ((over_below w1 u).mono (by omega))⟩
    | 4, _ =>
      go_enter Tryz.func88, Tryz.ntmps88
      go_wp2_with fail
      refine wp_region_over w1 (Below.refl _ _) (by kernel_rfl) (by kernel_rfl) ?_
      repeat (go_big_quiet_step (first | (go_at_call 108; exact e65 _) | (go_at_call 107; exact e64 _)))
      refine wpQuiet_nil ?_
      rintro _ ⟨u, rfl⟩
      go_wp2_with fail
      go_ret
      exact ⟨rfl, hb1.trans ((over_below w1 u).mono (by omega))⟩
    | 5, _ =>
      go_enter Tryz.func88, Tryz.ntmps88
      go_wp2_with fail
      refine wp_region_over w1 (Below.refl _ _) (by kernel_rfl) (by kernel_rfl) ?_
      repeat (go_big_quiet_step (first | (go_at_call 108; exact e65 _) | (go_at_call 107; exact e64 _)))
      refine wpQuiet_nil ?_
      rintro _ ⟨u, rfl⟩
      go_wp2_with fail
      go_ret
      exact ⟨rfl, hb1.trans ((over_below w1 u).mono (by omega))⟩
    | 6, _ =>
      go_enter Tryz.func88, Tryz.ntmps88
      go_wp2_with fail
      refine wp_region_over w1 (Below.refl _ _) (by kernel_rfl) (by kernel_rfl) ?_
      repeat (go_big_quiet_step (first | (go_at_call 108; exact e65 _) | (go_at_call 107; exact e64 _)))
      refine wpQuiet_nil ?_
      rintro _ ⟨u, rfl⟩
      go_wp2_with fail
      go_ret
      exact ⟨rfl, hb1.trans ((over_below w1 u).mono (by omega))⟩

/-- A part's number as seen from outside, if none of the term's binders binds it. -/
def Pt.freeB (p : Pt) : Bool := decide (p.t.k = 0) && decide ((p.m : Int) ≤ p.t.n)

def Pt.freeN (p : Pt) : Int := if p.freeB = true then p.t.n - p.m else 0

set_option maxRecDepth 100000 in
set_option maxHeartbeats 400000 in
theorem free_any (p : Pt) (w : World) (hc : TCells w p.b p.off p.t) (hm : p.m ≤ 1073741824) (hn1 : p.t.n ≤ 9223372036854775807) :
    Calls Tryz.prog 123 #[p.val] w fun e w' => e = .returned (.tuple #[.int .i64 p.freeN, .bool p.freeB]) ∧ Below w.heap.size w w' := by
  obtain ⟨b, off, t, d, m⟩ := p
  simp only at *
  have hlb := hc.lt
  have c0 := hc.c0
  have c1 := hc.c1
  unfold Pt.val Pt.freeN Pt.freeB
  simp only
  generalize t.k = k at *
  generalize t.n = n at *
  obtain ⟨w1, hw1, hb1, P1, hs1⟩ := one_new w [.pointer (some ⟨b, off, none⟩), .int .i64 (d : Int), .int .i64 (m : Int)] 178
  have p0 := P1.cell (j := 0) rfl
  have p1 := P1.cell (j := 1) rfl
  have p2 := P1.cell (j := 2) rfl
  have C0 := ((bcell hb1).1 b off hlb).trans c0
  have C1 := ((bcell hb1).1 b (off + 1) hlb).trans c1
  by_cases hk : k = 0
  · subst hk
    by_cases hmn : (m : Int) ≤ n
    · have hd : decide (n < (m : Int)) = false := by simp; omega
      rw [if_pos (by simp [hmn])]
      simp only [decide_true, Bool.true_and, hmn]
      go_enter Tryz.func123, Tryz.ntmps123
      go_wp2_with fail
      go_quiet (fail)
      go_wp2_with fail
      go_quiet (fail)
      go_wp2_with fail
      go_ret2
      exact ⟨rfl, bel_drewN (bel_drewN hb1 _) _⟩
    · have hd : decide (n < (m : Int)) = true := by simp; omega
      rw [if_neg (by simp [hmn])]
      simp only [decide_true, Bool.true_and, hmn, decide_false]
      go_enter Tryz.func123, Tryz.ntmps123
      go_wp2_with fail
      go_quiet (fail)
      go_wp2_with fail
      go_ret2
      exact ⟨rfl, bel_drewN hb1 _⟩
  · have hd : (k != 0) = true := by simpa using hk
    rw [if_neg (by simp [hk])]
    simp only [hk, decide_false, Bool.false_and]
    go_enter Tryz.func123, Tryz.ntmps123
    go_wp2_with fail
    go_quiet (fail)
    go_wp2_with fail
    go_ret2
    exact ⟨rfl, bel_drewN hb1 _⟩

end Go.Proofs.YtekdalbhgdkckaaGreatDoor
