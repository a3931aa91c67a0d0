/- The walk of a question that is asked of an entry, with its deferred recover. No condition. -/
import Derived.Test.YtgimpolgagkffaaDr1
import Derived.Defers
import Derived.Recover
namespace Go.Proofs.Ytgimpolgagkffaa
open Go.RowKit

theorem rec_idle (w : World) : CallsD Try.prog 27 #[] .returning w fun e u' w' => e = .returned (.tuple #[]) ∧ u' = .returning ∧ w' = w := by
  refine callsD_of_wpS Try.func27 rfl fun c₀ cs hu => ?_
  apply wpS_region
  cases c₀
  simp_all [wpOpsS, go_sem, recoverD, Try.ntmps27, bodyPostS, results, Try.results27]

/-- The function that a law hands to Drop. -/
def askF (rest : Int) : Value := .func (.func 13) #[.agg #[.int .i64 rest]] #[]

set_option maxRecDepth 100000 in
set_option maxHeartbeats 2000000 in
theorem isTrue_any (rest : Int) (x : En) (w : World) : Calls Try.prog 19 #[.agg #[askF rest], x.val] w fun e w' => e = .returned (.bool (par rest x.num)) ∧ Below w.heap.size w w' := by
  obtain ⟨xw, xn, xt⟩ := x
  unfold En.val askF
  obtain ⟨w1, hw1, hb1, P1, hs1⟩ := one_new w [.func (.func 13) #[.agg #[.int .i64 rest]] #[]] 62
  obtain ⟨w2, hw2, hb2, P2, hs2⟩ := one_new w1 [.int .i64 xw, .int .i64 xn, .int .i64 (xt : Int)] 57
  have P1' := P1.below hb2 P1.lt
  have c0 := P1'.cell (j := 0) rfl
  have x0 := P2.cell (j := 0) rfl
  have x1 := P2.cell (j := 1) rfl
  have x2 := P2.cell (j := 2) rfl
  have c13 := par_any rest xw xn w2
  have hb12 : Below w.heap.size w w2 := hb1.trans (hb2.mono hb1.size)
  have HB : Hid _ := hb12
  clear hb12 P1 P1' P2 hb1 hb2
  generalize par rest xn = r at *
  go_enter_defers Try.func19, Try.ntmps19
  go_wp2_with fail
  refine c13.mono ?_
  rintro e w3 ⟨rfl, hb3⟩
  have FF : Hid (Below w.heap.size w w3) := HB.out.trans (hb3.mono HB.out.size)
  clear c13 c0 x0 x1 x2 hb3
  go_wp2_with fail
  refine leaves_cons (f := 27) (args := #[]) (by simp) (by simp [go_sem]) ?_
  refine (rec_idle _).mono ?_
  rintro e u' w'' ⟨rfl, rfl, rfl⟩
  have ff := FF.out
  simp [Leaves, settle, results, Try.results19, go_sem, ff]
end Go.Proofs.Ytgimpolgagkffaa
