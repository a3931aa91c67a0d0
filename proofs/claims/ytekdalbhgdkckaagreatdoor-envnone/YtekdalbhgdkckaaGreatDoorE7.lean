/- The walks of env's pool.put and pool.keep, at the text "a" where the pool is new, and at the empty text. No condition. -/
import Derived.Test.YtekdalbhgdkckaaGreatDoorE6
import Derived.Test.YtekdalbhgdkckaaGreatDoorCl
namespace Go.Proofs.YtekdalbhgdkckaaGreatDoor
open Go.RowKit

set_option maxRecDepth 100000 in
theorem put_any (p : Nat) (v : Value) (w : World) (hP : Blk w p 62 [.map none, v]) :
    Calls Tryz.prog 32 #[.pointer (some ⟨p, 0, none⟩), .agg #[.string aB]] w fun e w' => e = .returned (.tuple #[]) ∧ (∃ m, Blk w' p 62 [.map (some m), v]) ∧ Keep w w' (· = p) := by
  have qT : ∀ (w : World) (r : Option Nat), (binOp .eql 60 (.map r) (.map none)).run Tryz.prog w = .ok (.bool r.isNone) w := fun w r => run_eql_map_nil w _ _ _ r Tryz.underlying60
  have hmk : ∀ W : World, (Instr.makeMap 60 none).run Tryz.prog W = .ok (.map (some W.heap.size)) (W.alloc (.map #[] 0)) := fun W => run_makeMap_plain W 60
  have lp := hP.lt
  have hpx : p ≠ w.heap.size := Nat.ne_of_lt lp
  have p0 : (w.alloc (.cells #[.string aB] 73)).cell? ⟨p, 0, none⟩ = some (.map none) := (hP.alloc _).cell (j := 0) rfl
  have q0 : ((w.alloc (.cells #[.string aB] 73)).alloc (.map #[] 0)).cell? ⟨p, 0, none⟩ = some (.map none) := ((hP.alloc _).alloc _).cell (j := 0) rfl
  have rf : ((w.alloc (.cells #[.string aB] 73)).alloc (.map #[] 0)).frozen? ⟨p, 0, none⟩ = false := ((hP.alloc _).alloc _).frozen 0
  have hsz : (w.setCell ⟨p, 0, none⟩ (.map (some (w.heap.size + 1)))).heap.size = w.heap.size := by simp [World.setCell]
  obtain ⟨w1, hw1, hb1, X1, hs1⟩ := new_oneE (w.setCell ⟨p, 0, none⟩ (.map (some (w.heap.size + 1)))) [.string aB] 73
  rw [hsz] at X1 hs1
  have P1 := (hP.set 0 (.map (some (w.heap.size + 1)))).on hb1
  obtain ⟨w3, hw3⟩ : ∃ w3, w1.alloc (.map #[] 0) = w3 := ⟨_, rfl⟩
  have hb3 : Below w1.heap.size w1 w3 := by rw [← hw3]; exact (Below.refl _ _).alloc (Nat.le_refl _) _
  have m3 : w3.drew.heap[w.heap.size + 1]? = some (.map #[] 0) := by rw [← hw3, ← hs1]; exact (MapKept.heap_alloc w1 _).1
  have X3 := X1.on hb3
  have P3 := P1.on hb3
  have hmu := put_first60 (v := .agg #[.string aB]) m3
  obtain ⟨w4, hw4⟩ : ∃ w4, ({ w3.drew with heap := w3.drew.heap.setIfInBounds (w.heap.size + 1) (.map #[⟨.string aB, .agg #[.string aB], 0⟩] (0 + 1)) } : World) = w4 := ⟨_, rfl⟩
  rw [hw4] at hmu
  have k4 : Keep w3 w4 (· = w.heap.size + 1) := by
    rw [← hw4]
    exact ⟨rfl, rfl, rfl, by simp, fun k hk hS => by show (w3.heap.setIfInBounds (w.heap.size + 1) _)[k]? = _; simp [Ne.symm hS]⟩
  have P4 := P3.keep k4 (by omega)
  have r0 := P3.cell (j := 0) rfl
  have x3 := X3.cell (j := 0) rfl
  have KK : Keep w w4 (· = p) := by
    have a : Keep w w1 (· = p) := ((Keep.refl w (· = p)).setCell (g := p) (fun _ => rfl) 0 _).trans (Keep.of_below hb1 (Nat.le_refl _)) (fun _ _ e => e)
    have b : Keep w w3 (· = p) := a.trans (Keep.of_below hb3 (Nat.le_refl _)) (fun _ _ e => e)
    exact b.trans k4 (fun i hi e => by omega)
  have H : Hid ((((w.setCell ⟨p, 0, none⟩ (.map (some (w.heap.size + 1)))).alloc (.cells #[.string aB] 73)).alloc (.map #[] 0)) = w3) := by
    show _ = _
    rw [← hw3, ← hw1]
  clear hw1 hb1 hb3 hw3 hw4 k4 m3 X1 X3 P1 P3 hP hs1 hsz
  go_enter Tryz.func32, Tryz.ntmps32
  go_wp2_with fail
  rw [H.out]
  clear H p0 q0 rf
  go_region
  all_goals
    go_end0
    exact ⟨rfl, ⟨_, P4⟩, KK⟩
end Go.Proofs.YtekdalbhgdkckaaGreatDoor
