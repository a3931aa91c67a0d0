/- The walk of level's Put. No condition but that what was given are levels that may be, in memory, and that what is made has at most 65,536 parts. -/
import Derived.Test.YtogfmpjgmabomaaDoorPut2
namespace Go.Proofs.YtogfmpjgmabomaaDoor
open Go.RowKit

theorem put_lev (g : Nat) (by_ : List Lv) (hz : ∀ y ∈ by_, PutAt g [] y) (l : Lev) : PutAt g by_ l.lv := by
  induction l with
  | zero => exact put_leaf g by_ 0 0 (by decide)
  | succ a ih => exact put_node g by_ 1 0 [a.lv] (by decide) (by simp) (by simp) (fun x hx => by simp at hx; subst hx; exact ih)
  | max a b iha ihb => exact put_node g by_ 2 0 [a.lv, b.lv] (by decide) (by simp) (by simp) (fun x hx => by simp at hx; rcases hx with rfl | rfl; exact iha; exact ihb)
  | imax a b iha ihb => exact put_node g by_ 3 0 [a.lv, b.lv] (by decide) (by simp) (by simp) (fun x hx => by simp at hx; rcases hx with rfl | rfl; exact iha; exact ihb)
  | par n =>
    by_cases h : (n : Int) < by_.length
    · exact put_par g by_ n [] (by omega) h hz
    · exact put_stay g by_ n (by omega) (by omega)
theorem put_any (g : Nat) (by_ : List Lev) (l : Lev) : PutAt g (by_.map Lev.lv) l.lv :=
  put_lev g _ (fun y hy => by
    obtain ⟨x, _, rfl⟩ := List.mem_map.1 hy
    exact put_lev g [] (fun _ h => by cases h) x) l

/-- A level with others in the place of its parameters. -/
def Lev.put (by_ : List Lev) : Lev → Lev
  | .zero => .zero
  | .succ a => .succ (a.put by_)
  | .max a b => .max (a.put by_) (b.put by_)
  | .imax a b => .imax (a.put by_) (b.put by_)
  | .par n => by_.getD n (.par n)
theorem Lev.put_lv (by_ : List Lev) (l : Lev) : l.lv.put (by_.map Lev.lv) = (l.put by_).lv := by
  induction l with
  | zero => simp only [Lev.lv, Lev.put]; rw [Lv.put_mk, if_neg (by omega), Lv.puts_map]; rfl
  | succ a ih => simp only [Lev.lv, Lev.put]; rw [Lv.put_mk, if_neg (by omega), Lv.puts_map]; simp [ih]
  | max a b iha ihb => simp only [Lev.lv, Lev.put]; rw [Lv.put_mk, if_neg (by omega), Lv.puts_map]; simp [iha, ihb]
  | imax a b iha ihb => simp only [Lev.lv, Lev.put]; rw [Lv.put_mk, if_neg (by omega), Lv.puts_map]; simp [iha, ihb]
  | par n =>
    simp only [Lev.lv, Lev.put]
    rw [Lv.put_mk]
    by_cases h : n < by_.length
    · rw [if_pos ⟨rfl, by omega, by simpa using h⟩]
      simp [List.getD_eq_getElem?_getD, h]
    · rw [if_neg (by simp; omega), Lv.puts_map]
      simp [List.getD_eq_getElem?_getD, List.getElem?_eq_none (Nat.not_lt.1 h), Lev.lv]

set_option maxRecDepth 100000 in
set_option maxHeartbeats 1000000 in
theorem Put_any (l : Lev) (by_ : List Lev) (w : World) (B : Nat) (va : Value) (ab : Option Addr) (capb : Nat) (hB : B ≤ w.heap.size) (hs : (l.put by_).size ≤ 65536) (hin : In w (· < B) l.lv va) (hby : Node w (· < B) 0 0 (by_.map Lev.lv) ab capb) :
    Calls Tryd.prog 28 #[va, .slice ab by_.length capb] w fun e w' => ∃ v, e = .returned v ∧ Own w' (w.heap.size ≤ ·) (l.put by_).lv v ∧ Below w.heap.size w w' := by
  obtain ⟨L, hL⟩ : ∃ L, l.lv = L := ⟨_, rfl⟩
  obtain ⟨k, m, args⟩ := L
  have hin' := hin
  rw [hL] at hin'
  obtain ⟨a, c, rfl, hN⟩ := hin'.node
  obtain ⟨w1, hw1, hb1, P1, Q1, R1, hs1⟩ := three_new w [.int .i64 k, .int .i64 m, .slice a args.length c] [.int .i64 0, .int .i64 0, .slice none 0 0] [.int .i64 65536] 24 24 66
  have p0 := P1.cell (j := 0) rfl
  have p1 := P1.cell (j := 1) rfl
  have p2 := P1.cell (j := 2) rfl
  have HL : Hid (l.lv = .mk k m args) := hL
  clear hL
  have hc := put_any (w.heap.size + 1 + 1) by_ l 65536 w1 B _ ab capb (by rw [Lev.put_lv, Lev.size_lv]; omega) (by omega) (by omega) (hin.below hb1 hB) (hby.below hb1 hB) R1
  rw [Lev.put_lv, List.length_map] at hc
  go_enter Tryd.func28, Tryd.ntmps28
  go_wp2_with (go_at_call 46; go_must (refine hc.mono ?_); rintro e w2 ⟨v, rfl, hp⟩; obtain ⟨kv, nv, av, lv, cv, rfl⟩ := hp.own.shape; obtain ⟨w3, hw3, hb3, X3, hs3⟩ := one_new w2 [.int .i64 kv, .int .i64 nv, .slice av lv cv] 24; have hz := hp.keep.size; have G3 := hp.left.below hb3 hp.left.lt; have g0 := G3.cell (j := 0) rfl; have x0 := X3.cell (j := 0) rfl; have x1 := X3.cell (j := 1) rfl; have x2 := X3.cell (j := 2) rfl; have Q2 := Q1.keep hp.keep (by omega); have Q3 := Q2.below hb3 Q2.lt; have q0 := Q3.cell (j := 0) rfl; have q1 := Q3.cell (j := 1) rfl; have q2 := Q3.cell (j := 2) rfl; have f0 := Q3.frozen 0; have f1 := Q3.frozen 1; have f2 := Q3.frozen 2; have hge : ¬ (65536 - (((l.put by_).lv.size : Int) - 1) < 0) := by rw [Lev.size_lv]; omega)
  obtain ⟨Q4, K4⟩ := st3 Q3 (.int .i64 kv) (.int .i64 nv) (.slice av lv cv)
  have c0 := Q4.cell (j := 0) rfl
  have c1 := Q4.cell (j := 1) rfl
  have c2 := Q4.cell (j := 2) rfl
  refine bodyPost_ret (v := .agg #[.int .i64 kv, .int .i64 nv, .slice av lv cv]) (by simp [results, Tryd.results28, go_sem, c0, c1, c2]) rfl ⟨_, rfl, ?_, ?_⟩
  · exact (((hp.own.keep (Keep.of_below (S := fun _ => False) hb3 (Nat.le_refl _)) (fun _ _ h => h)).keep K4 (by omega)).mono (by omega))
  · exact ((hb1.trans (hp.keep.below (by omega) (by omega))).trans (hb3.mono (by omega))).trans (K4.below (by omega) (by omega))
end Go.Proofs.YtogfmpjgmabomaaDoor
