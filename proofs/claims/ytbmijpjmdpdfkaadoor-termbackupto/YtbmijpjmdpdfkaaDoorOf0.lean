/- A turn's state as its first job has been laid. Plain facts of worlds, of no program. -/
import Derived.Test.YtbmijpjmdpdfkaaDoorOfV
namespace Go.Proofs.YtbmijpjmdpdfkaaDoor
open Go.RowKit

theorem OfS.start {Fit : Pt → Prop} {Im : Pt → Tr → Prop} {w wA w9 w10 : World} {B gu b off : Nat} {T : Tr} {fv v' : Value} {o : List Value} (hgu : B ≤ gu) (hgl : gu < w.heap.size) (hB : B ≤ w.heap.size) (hc : TCells w b off T) (hin : TIn w (· < B) T) (hb : b < B) (hfit : Fit ⟨b, off, T, 1, 0⟩)
    (hbA : Below w.heap.size w wA) (O : Blk wA w.heap.size 25 o) (ho : o.length = 5) (F : Blk wA (w.heap.size + 1) 111 doers) (hb9 : Below wA.heap.size wA w9) (hg10 : w9.grownBy w10 none)
    (ho10 : w10.ownsRow B 114 4 v' 1 [.pointer (some ⟨b, off, none⟩), .int .i64 1, .int .i64 0, .pointer (some ⟨w.heap.size, 0, none⟩)]) (U10 : Blk w10 gu 71 [fv, .func (.func 44) #[] #[], .slice none 0 0]) :
    OfS Fit (fun W => DoneB Im B W (⟨b, off, T, 1, 0⟩, w.heap.size, 0)) Im w (w10.setCell ⟨gu, 2, none⟩ v') B gu (w.heap.size + 1) w.heap.size fv [(⟨b, off, T, 1, 0⟩, w.heap.size, 0)] [(⟨b, off, T, 1, 0⟩, w.heap.size, 0)] v' ∧ ¬ XB (w10.setCell ⟨gu, 2, none⟩ v') w.heap.size ∧ w.heap.size ≤ (w10.setCell ⟨gu, 2, none⟩ v').heap.size := by
  have hbw : Below w.heap.size w w10 := (hbA.trans (hb9.mono hbA.size)).trans ⟨hg10.os, hg10.tape, hg10.output, hg10.size, fun k hk => hg10.block k (by have := hbA.size; have := hb9.size; omega) (fun e => by cases e)⟩
  have hF := F.lt
  have O10 : Blk w10 w.heap.size 25 o := (O.below hb9 O.lt).carry (hg10.block _ (O.below hb9 O.lt).lt (fun e => by cases e))
  have F10 : Blk w10 (w.heap.size + 1) 111 doers := (F.below hb9 F.lt).carry (hg10.block _ (F.below hb9 F.lt).lt (fun e => by cases e))
  have O11 : Blk (w10.setCell ⟨gu, 2, none⟩ v') w.heap.size 25 o := O10.other v' (by omega)
  have F11 : Blk (w10.setCell ⟨gu, 2, none⟩ v') (w.heap.size + 1) 111 doers := F10.other v' (by omega)
  have hX : ¬ XB (w10.setCell ⟨gu, 2, none⟩ v') w.heap.size := fun ⟨cs, t, fr, h1, h2⟩ => by
    have h3 := O11
    unfold Blk at h3
    rw [h3] at h1
    simp only [Option.some.injEq, Obj.cells.injEq] at h1
    obtain ⟨_, rfl, _⟩ := h1
    exact absurd h2 (by decide)
  have hH : Hole (w10.setCell ⟨gu, 2, none⟩ v') w.heap.size 0 := ⟨_, _, O11, by simp [ho]⟩
  have hlow : Below B w (w10.setCell ⟨gu, 2, none⟩ v') := (hbw.mono hB).setCell (by show B ≤ gu; omega) v'
  refine ⟨⟨⟨U10.set 2 v', ?_⟩, hlow, fun x hx => ?_, by simp, hH, F11, fun W _ hd => hd _ (List.mem_singleton.2 rfl)⟩, hX, by simp [World.setCell]; exact hbw.size⟩
  · exact owns_block ho10 (fun g e => Below.heap_setCell _ _ _ _ (fun h => owns_ne ho10 U10 (by decide) (by rw [e]; exact congrArg some h)))
  · rw [List.mem_singleton.1 hx]
    exact ⟨hc, hin, hb, hfit, hH, hB, hX⟩

theorem set_same {w : World} {b c : Nat} {v : Value} (h : w.cell? ⟨b, c, none⟩ = some v) (k : Nat) : (w.setCell ⟨b, c, none⟩ v).heap[k]? = w.heap[k]? := by
  by_cases e : k = b
  · subst e
    cases hk : w.heap[k]? with
    | none => simp [World.setCell, Array.getElem?_modify, hk]
    | some o =>
      cases o with
      | cells cs t f =>
        rw [cell_of_row w k c cs t f hk] at h
        have hs : cs.setIfInBounds c v = cs := by
          obtain ⟨hc, hv⟩ := Array.getElem?_eq_some_iff.1 h
          apply Array.ext
          · simp
          · intro i h1 h2
            rw [Array.getElem_setIfInBounds]
            split
            · rename_i h3; subst h3; exact hv.symm
            · rfl
        simp [World.setCell, Array.getElem?_modify, hk, hs]
      | _ => simp [World.setCell, Array.getElem?_modify, hk]
  · exact Below.heap_setCell _ _ _ _ e
theorem put5_same {w : World} {b o : Nat} {T : Tr} (h : TCells w b o T) (k : Nat) : (put5 w b o (.int .i64 T.k) (.int .i64 T.n) (.string T.s) (.slice T.la T.ls.length T.lc) (.slice T.a T.args.length T.c)).heap[k]? = w.heap[k]? := by
  have s0 := set_same h.c0
  have s1 := set_same (h.carry (s0 b)).c1
  have s2 := set_same ((h.carry (s0 b)).carry (s1 b)).c2
  have s3 := set_same (((h.carry (s0 b)).carry (s1 b)).carry (s2 b)).c3
  have s4 := set_same ((((h.carry (s0 b)).carry (s1 b)).carry (s2 b)).carry (s3 b)).c4
  unfold put5
  rw [s4, s3, s2, s1, s0]
end Go.Proofs.YtbmijpjmdpdfkaaDoor
