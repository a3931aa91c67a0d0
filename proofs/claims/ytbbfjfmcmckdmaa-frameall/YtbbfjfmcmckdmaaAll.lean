/- FrameAll, the walk: which frames come of any pieces, and when it is spoilt. -/
import Derived.Test.YtbbfjfmcmckdmaaRefP
import Derived.Test.YtbbfjfmcmckdmaaSpoilAll
namespace Go.Proofs.Ytbbfjfmcmckdmaa
open Go.RowKit

/-- The document's Reader has come to what one behind all bytes has. -/
def Same (zs ys : List UInt8) : Prop := allS zs = allS ys ∧ ((allS zs).2 = 0 → zs = ys)

/-- What Put of the document's Reader leaves, spoilt or not. -/
structure RPutA (w w' : World) (x : Nat) (p : Option Nat) (fs : List (List UInt8)) (ys : List UInt8) (a : Option Addr) (k c : Nat) (p' : Option Nat) (zs : List UInt8) : Prop where
  parts : Parts w' w'.heap.size a k c fs
  rr : RR w' x p' zs
  new : ∀ b, p' = some b → p = some b ∨ w.heap.size ≤ b
  keep : Keep w w' (fun k => k = x)
  same : Same zs ys

theorem rput_any (x : Nat) (p : Option Nat) (zs ys : List UInt8) (bo : Option Addr) (m c : Nat) (bs : List UInt8) (w : World) (h : RR w x p zs) (hb : Rd w bo m c bs) (hs : Same zs ys) (hl : ys.length + m ≤ 536870912) :
    Calls Try.prog 13 #[.pointer (some ⟨x, 0, none⟩), .slice bo m c] w fun e w' => ∃ a k c E, e = .returned (.tuple #[.slice a k c, .int .i64 ((E : Nat) : Int)]) ∧ Hid (E = (allS (ys ++ bs)).2) ∧ ∃ p' zs', RPutA w w' x p (putF (allS ys) bs) (ys ++ bs) a k c p' zs' := by
  obtain ⟨hs1, hs2⟩ := hs
  by_cases h0 : (allS zs).2 = 0
  · obtain rfl := hs2 h0
    refine (rput_good x p zs bo m c bs w h hb h0 hl).mono ?_
    rintro e w' ⟨a, k, c, E, rfl, hE, p', hP⟩
    exact ⟨a, k, c, E, rfl, hE, p', _, hP.parts, hP.rr, fun b hb => .inr (hP.new b hb), hP.keep, rfl, fun _ => rfl⟩
  · refine (rput_spoilt x p zs bo m c w h h0).mono ?_
    rintro e w' ⟨rfl, hh, hbel⟩
    have h1 : (allS ys).2 ≠ 0 := by rw [← hs1]; exact h0
    have h2 := (allS_stop ys bs h1).1
    refine ⟨none, 0, 0, _, rfl, by unfold Hid; rw [h2, hs1], p, zs, ?_, h.carry (by rw [hh]) (fun _ _ _ => by rw [hh]), fun b hb => .inl hb, Keep.of_below hbel (Nat.le_refl _), by rw [h2]; exact hs1, fun h3 => absurd h3 h0⟩
    have : putF (allS ys) bs = [] := by unfold putF; rw [if_neg h1]
    rw [this]
    exact parts_nil _ _

/-- Behind some pieces. -/
structure AllS (w wr : World) (B g x : Nat) (q p : Option Nat) (ys zs : List UInt8) : Prop where
  fr : FR wr g q (allS ys)
  rr : RR wr x p zs
  same : Same zs ys
  qn : ∀ b, q = some b → B ≤ b
  pn : ∀ b, p = some b → B ≤ b
  ne : ∀ b, q = some b → p ≠ some b
  bel : Below w.heap.size w wr
  size : B ≤ wr.heap.size

/-- One piece on. -/
theorem AllS.step {w wr w1 w2 w3 w6 w7 : World} {B g x : Nat} {q p : Option Nat} {ys zs : List UInt8} (hS : AllS w wr B g x q p ys zs) (hg : g < B) (hx : x < B) (hgx : g ≠ x) (hwg : w.heap.size ≤ g) (hwx : w.heap.size ≤ x)
    (hb1 : Below wr.heap.size wr w1) (ht1 : wr.heap.size < w1.heap.size) {fs : List (List UInt8)} {ys' : List UInt8} {la : Option Addr} {lk lc : Nat} {us : List Value} {q' : Option Nat} (hP : PutIs w1 w2 g q fs (allS ys') la lk lc us q')
    {ma : Option Addr} {mk mc : Nat} {p' : Option Nat} {zs' : List UInt8} (hR : RPutA w2 w3 x p fs ys' ma mk mc p' zs') (h36 : Keep w3 w6 (fun k => k = wr.heap.size)) (h67 : Keep w6 w7 (InV us)) : AllS w w7 B g x q' p' ys' zs' := by
  have hsz := hS.size
  have hs2 := hP.keep.size
  have hs3 := hR.keep.size
  have hs6 := h36.size
  have hs7 := h67.size
  have hq1 : ∀ b, q = some b → b < wr.heap.size := fun b hb => hS.fr.qlt hb
  have hp1 : ∀ b, p = some b → b < wr.heap.size := fun b hb => hS.rr.plt hb
  have hq2 : ∀ b, q' = some b → b < w2.heap.size := fun b hb => hP.fr.qlt hb
  have hin : ∀ k, InV us k → w1.heap.size ≤ k ∧ k < w2.heap.size := fun k hk => ⟨(hP.fv.inV hk).1, (hP.fv.inV hk).2.1⟩
  have hqn : ∀ b, q' = some b → B ≤ b := fun b hb => by
    rcases hP.new b hb with e | e
    · exact hS.qn b e
    · omega
  have hpn : ∀ b, p' = some b → B ≤ b := fun b hb => by
    rcases hR.new b hb with e | e
    · exact hS.pn b e
    · omega
  have hnt : ∀ k, InV us k → q' ≠ some k := fun k ⟨j, a, n, c, hj, e⟩ => by rw [← e]; exact hP.not j a n c hj
  refine ⟨?_, ?_, hR.same, hqn, hpn, fun b hb => ?_, ?_, by omega⟩
  · refine ((hP.fr.keep hR.keep hgx (fun b hb => ?_)).keep h36 (by omega) (fun b hb => ?_)).keep h67 (fun e => ?_) (fun b hb e => ?_)
    · have := hqn b hb; omega
    · rcases hP.new b hb with e | e
      · have := hq1 b e; omega
      · omega
    · have := hin g e; omega
    · exact hnt b e hb
  · refine (hR.rr.keep h36 (by omega) (fun b hb => ?_)).keep h67 (fun e => ?_) (fun b hb e => ?_)
    · rcases hR.new b hb with e | e
      · have := hp1 b e; omega
      · omega
    · have := hin x e; omega
    · have := hin b e
      rcases hR.new b hb with e | e
      · have := hp1 b e; omega
      · omega
  · intro hb'
    have h2 := hq2 b hb
    rcases hR.new b hb' with e | e
    · rcases hP.new b hb with e2 | e2
      · exact hS.ne b e2 e
      · have := hp1 b e; omega
    · omega
  · have b1 : Below w.heap.size w w1 := hS.bel.trans (hb1.mono hS.bel.size)
    have b2 := below_keep b1 hP.keep b1.size (fun k e => by
      rcases e with e | e
      · omega
      · have := hS.qn k e; omega)
    have b3 := below_keep b2 hR.keep b2.size (fun k e => by omega)
    have b6 := below_keep b3 h36 b3.size (fun k e => by omega)
    exact below_keep b6 h67 b6.size (fun k e => by have := hin k e; omega)

/-- The Reader of the document stands beside a Put. -/
theorem AllS.beside {w wr w1 w2 : World} {B g x : Nat} {q p : Option Nat} {ys zs : List UInt8} (hS : AllS w wr B g x q p ys zs) (hg : g < B) (hx : x < B) (hgx : g ≠ x) (hb1 : Below wr.heap.size wr w1) (hk : Keep w1 w2 (fun k => k = g ∨ q = some k)) : RR w2 x p zs := by
  have h1 : RR w1 x p zs := hS.rr.carry (hb1.block x hS.rr.lt) (fun b _ hl => hb1.block b hl)
  refine h1.keep hk (fun e => ?_) (fun b hb e => ?_)
  · rcases e with e | e
    · omega
    · have := hS.qn x e; omega
  · rcases e with e | e
    · have := hS.pn b hb; omega
    · exact hS.ne b e hb

end Go.Proofs.Ytbbfjfmcmckdmaa
