/- The walk of the statement CodecOnly. No condition but that the bytes can be read, and that the tables hold what the program's text lays. -/
import Derived.Test.YtkbpmpcbajnmlaaDoorOw2
import Derived.Test.YtkbpmpcbajnmlaaDoorOw4
import Derived.Test.YtkbpmpcbajnmlaaDoorBg4
namespace Go.Proofs.YtkbpmpcbajnmlaaDoor
open Go.RowKit

set_option maxRecDepth 100000 in
theorem only_any (ao : Option Addr) (n cap : Nat) (bs : Bs) (w : World) (ht : Tabs w) (hR' : Rd w ao n cap bs) (hlow : ∀ a, ao = some a → a.block < w.heap.size) :
    Calls Tryd.prog 4 #[.slice ao n cap] w fun e w' => e = .returned (.bool true) ∧ Below w.heap.size w w' := by
  by_cases hn : n ≤ 4000
  · have hR : RdB w w.heap.size ao n cap bs := ⟨hR', hlow, by omega⟩
    cases hL : rLevel bs with
    | bad cL =>
      cases hT : rTerm bs with
      | bad cT =>
        cases hD : rDecl bs with
        | bad cD => exact only_bbb ao n cap bs w ht hR (begun_any w ht) hn cL cT cD hL hT hD
        | ok y => exact only_bbo ao n cap bs w ht hR (begun_any w ht) hn cL cT y.1 y.2 hL hT hD
      | ok x =>
        cases hD : rDecl bs with
        | bad cD => exact only_bob ao n cap bs w ht hR (begun_any w ht) hn cL x.1 x.2 cD hL hT hD
        | ok y => exact only_boo ao n cap bs w ht hR (begun_any w ht) hn cL x.1 x.2 y.1 y.2 hL hT hD
    | ok z =>
      cases hT : rTerm bs with
      | bad cT =>
        cases hD : rDecl bs with
        | bad cD => exact only_obb ao n cap bs w ht hR (begun_any w ht) hn z.1 z.2 cT cD hL hT hD
        | ok y => exact only_obo ao n cap bs w ht hR (begun_any w ht) hn z.1 z.2 cT y.1 y.2 hL hT hD
      | ok x =>
        cases hD : rDecl bs with
        | bad cD => exact only_oob ao n cap bs w ht hR (begun_any w ht) hn z.1 z.2 x.1 x.2 cD hL hT hD
        | ok y => exact only_ooo ao n cap bs w ht hR (begun_any w ht) hn z.1 z.2 x.1 x.2 y.1 y.2 hL hT hD
  · have hd : decide ((4000 : Int) < (n : Int)) = true := decide_eq_true (by omega)
    have hb := begun_any w ht
    clear hR' hlow
    go_enter Tryd.func4, Tryd.ntmps4
    go_wp2_with fail
    refine hb.mono ?_
    rintro e w0 ⟨rfl, b0⟩
    clear hb
    go_wp2_with fail
    go_ret
    exact ⟨rfl, b0⟩
end Go.Proofs.YtkbpmpcbajnmlaaDoor
