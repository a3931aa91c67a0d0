/- The walk of LevelEval. No condition but that what was given is a level, and numbers, in memory, and that the tables hold what the program's text lays. -/
import Derived.Test.YtogfmpjgmabomabDoorREval
namespace Go.Proofs.YtogfmpjgmabomabDoor
open Go.RowKit

/-- A row of one level, of two, just made. -/
theorem node_one {w : World} {x : Lv} {x0 x1 x2 : Value} (hx : In w (· < w.heap.size) x (.agg #[x0, x1, x2])) {w' : World} (hb : Below w.heap.size w w') (hR : Blk w' w.heap.size 29 [x0, x1, x2]) : Node w' (· < w'.heap.size) 0 0 [x] (some ⟨w.heap.size, 0, none⟩) 1 :=
  ((in_one hx (fun _ h => h) 0 (by omega) hb hR).mono (fun b h => by have := hR.lt; have := hb.size; omega)).agg.2.2.2

theorem node_two {w : World} {x y : Lv} {x0 x1 x2 y0 y1 y2 : Value} (hx : In w (· < w.heap.size) x (.agg #[x0, x1, x2])) (hy : In w (· < w.heap.size) y (.agg #[y0, y1, y2])) {w' : World} (hb : Below w.heap.size w w') (hR : Blk w' w.heap.size 29 [x0, x1, x2, y0, y1, y2]) : Node w' (· < w'.heap.size) 0 0 [x, y] (some ⟨w.heap.size, 0, none⟩) 2 :=
  ((in_two hx hy (fun _ h => h) 0 (by omega) hb hR).mono (fun b h => by have := hR.lt; have := hb.size; omega)).agg.2.2.2

end Go.Proofs.YtogfmpjgmabomabDoor
