/- What holds between a Queue and the document's one behind a Drop. Of no walk; no condition. -/
import Derived.Test.YtgimpolgagkffaaAl1
namespace Go.Proofs.Ytgimpolgagkffaa
open Go.RowKit

theorem nos_take {rest : Int} {L : List En} {i : Nat} (h : i < L.length) : nos rest (L.take (i + 1)) = nos rest (L.take i) ++ (if par rest (nth L i).num = true then [] else [nth L i]) := by
  have e : L.take (i + 1) = L.take i ++ [nth L i] := by rw [List.take_add_one, nth_get h]; rfl
  unfold nos
  rw [e, List.filter_append, List.filter_cons]
  cases par rest (nth L i).num <;> rfl

theorem nos_len (rest : Int) (L : List En) : (nos rest L).length ≤ L.length := List.length_filter_le _ _

theorem LS.drop {w w3 w4 wr : World} {g : Nat} {q : Option Nat} {St : List En} {n r : Nat} {ao : Option Addr} {cap : Nat} {E : List En} {rest : Int} (h : LS w w3 g q St n r ao cap E) (hD : QDropped w3 w4 g q (nos rest St) n) (hb : Below w4.heap.size w4 wr)
    {a' : Option Addr} {m c' : Nat} (hm : (nos rest E).length = m) (ho : wr.ownsRow w4.heap.size 36 2 (.slice a' m c') m (flat2 (nos rest E))) : LS w (wr.setCell ⟨r, 0, none⟩ (.slice a' m c')) g q (nos rest St) n r a' c' (nos rest E) := by
  subst hm
  obtain ⟨hR4, b4⟩ := h.side hD.keep
  have hR5 := hR4.below hb
  have hQ5 := hD.qs.below hb
  have b5 : Below w.heap.size w wr := b4.trans (hb.mono b4.size)
  obtain ⟨v, L, hq1, hq2, _⟩ := hQ5.is
  have ap1 : r ≠ g := blk_apart hR5.blk hq1.blk (by decide)
  have ap2 : q ≠ some r := by rw [← hq2]; exact owns_ne hq1.row hR5.blk (by decide)
  have k5 : Keep wr (wr.setCell ⟨r, 0, none⟩ (.slice a' (nos rest E).length c')) (· = r) := (Keep.refl wr (· = r)).setCell (g := r) (fun _ => rfl) _ _
  refine ⟨hQ5.keep k5 (fun e => ap1 e.symm) (fun b e e' => ap2 (by rw [← e']; exact e)), ⟨hR5.blk.set 0 _, ?_⟩, h.perm.filter _, List.Pairwise.filter _ h.asc, h.gnew, h.qnew, h.rnew, b5.trans (k5.below b5.size (fun k e => by rw [e]; exact h.rnew))⟩
  refine owns_base (owns_block ho (fun k e => Below.heap_setCell _ _ _ _ (fun e' => ?_))) (fun k e => Nat.le_trans b4.size (owns_own ho e).1)
  have h1 := (owns_own ho e).1
  have h2 := hR4.blk.lt
  simp at e'
  omega
end Go.Proofs.Ytgimpolgagkffaa
