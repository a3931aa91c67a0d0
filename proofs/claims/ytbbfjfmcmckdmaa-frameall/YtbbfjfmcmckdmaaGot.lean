/- A Reader behind some bytes, and the frames that it told; how a Put and an append go on from it. No condition. -/
import Derived.Test.YtbbfjfmcmckdmaaMany
import Derived.Test.YtbbfjfmcmckdmaaEnc
namespace Go.Proofs.Ytbbfjfmcmckdmaa
open Go.RowKit

theorem Parts.mono {w : World} {g g' : Nat} {ao : Option Addr} {n cap : Nat} {ls : List (List UInt8)} (h : Parts w g ao n cap ls) (hg : g ≤ g') : Parts w g' ao n cap ls :=
  ⟨h.len, h.le, h.max, fun i l hl => by obtain ⟨b, off, v, h1, h2, h3, h4⟩ := h.cell i l hl; exact ⟨b, off, v, h1, by omega, h3, h4.mono hg⟩⟩

/-- A Reader behind the bytes ys, and the frames that it told. -/
structure GotS (w wr : World) (B g : Nat) (a : Option Addr) (m c : Nat) (vs : List Value) (q : Option Nat) (ys : List UInt8) : Prop where
  num : m = (rd ys).1.length
  own : AppV 28 B wr a m c vs
  fv : FV wr B vs (rd ys).1
  not : NotIn q vs
  fr : FR wr g q (allS ys)
  qn : ∀ b, q = some b → B ≤ b
  bel : Below w.heap.size w wr
  size : B ≤ wr.heap.size

theorem GotS.step {w wr w3 w4 : World} {B g : Nat} {a : Option Addr} {m c : Nat} {vs : List Value} {q : Option Nat} {ys zs : List UInt8} (hS : GotS w wr B g a m c vs q ys) (h1 : g < B) (hw : w.heap.size ≤ g)
    {fs : List (List UInt8)} {la : Option Addr} {lk lc : Nat} {us : List Value} {q' : Option Nat} (hP : PutIs wr w3 g q fs (allS zs) la lk lc us q') (hE : (rd zs).1 = (rd ys).1 ++ fs)
    {a' : Option Addr} {c' : Nat} (hA3 : AppV 28 B w3 a m c vs) (hA4 : AppV 28 B w4 a' (m + lk) c' (vs ++ us)) (hb4 : Below B w3 w4) (hg4 : w3.grownBy w4 (Value.ownBlock (.slice a m c))) : GotS w w4 B g a' (m + lk) c' (vs ++ us) q' zs := by
  have hs3 := hP.keep.size
  have hsz := hS.size
  refine ⟨by rw [hE, List.length_append, ← hS.num, ← hP.num], hA4, ?_, (hS.not.later hS.fv hP.new).app hP.not, hP.fr.grown hA3 h1 hg4, fun b hb => ?_, ?_, ?_⟩
  · rw [hE]
    exact ((hS.fv.put h1 hS.not hP.keep).app (hP.fv.low hsz)).grown hA3 hg4
  · rcases hP.new b hb with e | e
    · exact hS.qn b e
    · omega
  · refine (below_keep hS.bel hP.keep hS.bel.size (fun k e => ?_)).trans (hb4.mono (by omega))
    rcases e with e | e
    · omega
    · have := hS.qn _ e
      omega
  · have := hb4.size
    omega

theorem waits_at {g : Nat} {q : Option Nat} {s : RS} {w : World} (h : FR w g q s) {L : Nat} (hL : s.1.length = L) :
    Calls Try.prog 16 #[.pointer (some ⟨g, 0, none⟩)] w fun e w' => e = .returned (.int .i64 (L : Int)) ∧ w = w' := by
  subst hL
  exact waits_any g q s w h

end Go.Proofs.Ytbbfjfmcmckdmaa
