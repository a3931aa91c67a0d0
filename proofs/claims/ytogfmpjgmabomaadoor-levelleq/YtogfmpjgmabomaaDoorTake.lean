/- The walk of level's work.take. No condition but that there is as much left as is taken. -/
import Derived.Test.YtogfmpjgmabomaaDoorEvery
namespace Go.Proofs.YtogfmpjgmabomaaDoor
open Go.RowKit

set_option maxRecDepth 100000 in
set_option maxHeartbeats 400000 in
theorem take_any (g : Nat) (l p : Int) (w : World) (hg : Blk w g 66 [.int .i64 l]) (hp0 : 0 ≤ p) (hp : p ≤ l) (hl : l ≤ 65536) :
    Calls Tryd.prog 56 #[.pointer (some ⟨g, 0, none⟩), .int .i64 p] w fun e w' => e = .returned (.bool true) ∧ Keep w w' (· = g) ∧ Blk w' g 66 [.int .i64 (l - p)] := by
  have g0 := hg.cell (j := 0) rfl
  have f0 := hg.frozen 0
  have hn : ¬ l + 1 < p := by omega
  go_enter Tryd.func56, Tryd.ntmps56
  go_wp2_with fail
  go_region
  go_wp2_with fail
  go_ret
  exact ⟨rfl, ((Keep.refl w (· = g)).setCell (g := g) (fun _ => rfl) 0 _).drew, (hg.set 0 _).drew⟩
end Go.Proofs.YtogfmpjgmabomaaDoor
