/- Maps with texts as keys of which one is asked. No condition. -/
import Derived.Test.YtekdalbhgdkckaaGreatDoorChecked
import Derived.WalkKit
import Derived.ProofKit
import Derived.WideMake
namespace Go.Proofs.YtekdalbhgdkckaaGreatDoor
open Go.RowKit

/-- The text "a". -/
def aB : ByteArray := { data := #[97] }

theorem key_a (e : Bool) (w : World) : (Instr.checkKey e 10000 9 (.string aB)).run Tryz.prog w = .ok () w :=
  MapKept.run_checkKey (k := .string aB) Tryz.underlying9 (by simp [MapKept.IsKey]) e 9999

theorem look_none (w : World) : (Instr.lookup 60 (.map none) (.string aB) true).run Tryz.prog w = .ok (.tuple #[.agg #[.string { data := #[] }], .bool false]) w := by kernel_rfl

theorem look_empty {m c : Nat} {w : World} (h : w.heap[m]? = some (.map #[] c)) : (Instr.lookup 52 (.map (some m)) (.string aB) true).run Tryz.prog w = .ok (.tuple #[.int .i64 0, .bool false]) w := by
  have hf : Instr.findNow .string (.string aB) ([] : List MapEntry) 0 = some none := rfl
  simp [Instr.lookup, run_underlying Tryz.underlying52, MapKept.run_getObj_map h, key_a, MapKept.run_findKey Tryz.underlying9 hf, Result.andThen]

theorem look_one {m c b : Nat} {v : Value} {w : World} (h : w.heap[m]? = some (.map #[⟨.string aB, v, b⟩] c)) : (Instr.lookup 52 (.map (some m)) (.string aB) true).run Tryz.prog w = .ok (.tuple #[v, .bool true]) w := by
  have hf : Instr.findNow .string (.string aB) [⟨.string aB, v, b⟩] 0 = some (some (0, v)) := by
    have e : (aB == aB) = true := by decide
    simp [Instr.findNow, Instr.sameNow, e]
  simp [Instr.lookup, run_underlying Tryz.underlying52, MapKept.run_getObj_map h, key_a, MapKept.run_findKey Tryz.underlying9 hf, Result.andThen]

theorem put_first52 {m c : Nat} {v : Value} {w : World} (h : w.heap[m]? = some (.map #[] c)) : (Instr.mapUpdate 52 (.map (some m)) (.string aB) v).run Tryz.prog w = .ok () { w with heap := w.heap.setIfInBounds m (.map #[⟨.string aB, v, c⟩] (c + 1)) } :=
  run_mapUpdate_first w 52 9 3 m c aB v Tryz.underlying52 Tryz.underlying9 h

theorem put_first60 {m c : Nat} {v : Value} {w : World} (h : w.heap[m]? = some (.map #[] c)) : (Instr.mapUpdate 60 (.map (some m)) (.string aB) v).run Tryz.prog w = .ok () { w with heap := w.heap.setIfInBounds m (.map #[⟨.string aB, v, c⟩] (c + 1)) } :=
  run_mapUpdate_first w 60 9 73 m c aB v Tryz.underlying60 Tryz.underlying9 h
end Go.Proofs.YtekdalbhgdkckaaGreatDoor
