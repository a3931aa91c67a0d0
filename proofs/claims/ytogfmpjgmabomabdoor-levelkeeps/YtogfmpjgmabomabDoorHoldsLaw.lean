/- The walk of LevelHolds. No condition but that the bytes and numbers lie in memory, and that the tables hold what the program's text lays. -/
import Derived.Test.YtogfmpjgmabomabDoorMath
import Derived.Test.YtogfmpjgmabomabDoorEvalLaw
namespace Go.Proofs.YtogfmpjgmabomabDoor
open Go.RowKit

theorem arr_ints {w : World} {g : Nat} {t : TypeId} {x0 x1 x2 x3 : Int} (h : Blk w g t [.int .i64 x0, .int .i64 x1, .int .i64 x2, .int .i64 x3]) {B : Nat} (hB : g < B) : Ints w B (some ⟨g, 0, none⟩) 4 4 [x0, x1, x2, x3] :=
  ⟨rfl, Nat.le_refl _, by decide, fun j z hz => ⟨g, 0, rfl, hB, by
    rw [Nat.zero_add]
    match j, hz with
    | 0, hz => simp at hz; subst hz; exact h.cell rfl
    | 1, hz => simp at hz; subst hz; exact h.cell rfl
    | 2, hz => simp at hz; subst hz; exact h.cell rfl
    | 3, hz => simp at hz; subst hz; exact h.cell rfl
    | j + 4, hz => simp at hz⟩⟩

/-- A level that was made and put into a variable, as seen later. -/
structure Has (w : World) (b : Nat) (l : Lev) (k n : Int) (a : Option Addr) (len cap : Nat) : Prop where
  is : In w (· < w.heap.size) l.lv (.agg #[.int .i64 k, .int .i64 n, .slice a len cap])
  at_ : Blk w b 29 [.int .i64 k, .int .i64 n, .slice a len cap]

theorem Has.on {w w' : World} {b : Nat} {l : Lev} {k n : Int} {a : Option Addr} {len cap : Nat} (h : Has w b l k n a len cap) (hb : Below w.heap.size w w') : Has w' b l k n a len cap :=
  ⟨(h.is.below hb (Nat.le_refl _)).up hb.size, h.at_.below hb h.at_.lt⟩

end Go.Proofs.YtogfmpjgmabomabDoor
