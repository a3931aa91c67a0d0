/- The walks of Put and Waits of the document's own Reader. No condition but that the bytes are no more than 2^30. -/
import Derived.Test.YtbbfjfmcmckdmaaRef3
namespace Go.Proofs.Ytbbfjfmcmckdmaa
open Go.RowKit

def xcells (ao : Option Addr) (n cap told e : Nat) : List Value := [.slice ao n cap, .int .i64 (told : Int), .int .i64 (e : Int)]

/-- Block x is the document's Reader behind the bytes zs; these lie in block p, if anywhere. -/
structure RR (w : World) (x : Nat) (p : Option Nat) (zs : List UInt8) : Prop where
  ne : p ≠ some x
  len : zs.length ≤ 536870912
  row : ∃ ao n cap, Blk w x 31 (xcells ao n cap (rd zs).1.length (allS zs).2) ∧ Wt w p ao n cap zs

theorem RR.lt {w : World} {x : Nat} {p : Option Nat} {zs : List UInt8} (h : RR w x p zs) : x < w.heap.size := by
  obtain ⟨_, _, _, h1, _⟩ := h.row
  exact h1.lt
theorem RR.plt {w : World} {x : Nat} {p : Option Nat} {zs : List UInt8} (h : RR w x p zs) {b : Nat} (hb : p = some b) : b < w.heap.size := by
  obtain ⟨_, _, _, _, h1⟩ := h.row
  rcases h1 with ⟨e, _⟩ | ⟨b', e, _, ho⟩
  · rw [e] at hb; cases hb
  · rw [e] at hb
    obtain rfl : b' = b := by simpa using hb
    exact ho.lt
theorem RR.carry {w w' : World} {x : Nat} {p : Option Nat} {zs : List UInt8} (h : RR w x p zs) (hg : w'.heap[x]? = w.heap[x]?) (hq : ∀ b, p = some b → b < w.heap.size → w'.heap[b]? = w.heap[b]?) : RR w' x p zs :=
  ⟨h.ne, h.len, by obtain ⟨ao, n, cap, h1, h2⟩ := h.row; exact ⟨ao, n, cap, h1.carry hg, h2.carry hq⟩⟩
theorem RR.keep {w w' : World} {x : Nat} {p : Option Nat} {zs : List UInt8} {S : Nat → Prop} (h : RR w x p zs) (hk : Keep w w' S) (hg : ¬ S x) (hq : ∀ b, p = some b → ¬ S b) : RR w' x p zs :=
  h.carry (hk.block x h.lt hg) (fun b hb hl => hk.block b hl (hq b hb))

theorem Wt.read {w : World} {p : Option Nat} {ao : Option Addr} {n cap : Nat} {zs : List UInt8} (h : Wt w p ao n cap zs) : (ao = none ∧ n = 0 ∧ cap = 0) ∨ ∃ b off, ao = some ⟨b, off, none⟩ := by
  rcases h with ⟨_, h1, h2, h3, _⟩ | ⟨b, _, h, _⟩
  · exact .inl ⟨h1, h2, h3⟩
  · exact .inr ⟨b, 0, h⟩

theorem rest_len (zs : List UInt8) (h : (allS zs).2 = 0) : (rd zs).2.1.length = (allS zs).1.length := by
  rw [(allS_wait zs h).1]
theorem spoilt_len (zs : List UInt8) (h : (allS zs).2 ≠ 0) : (allS zs).1.length = 0 := by
  unfold allS at h ⊢
  by_cases h2 : (rd zs).2.2 = 2
  · rw [if_pos h2] at h; exact absurd rfl h
  · rw [if_neg h2]; rfl

set_option maxRecDepth 100000 in
set_option maxHeartbeats 2000000 in
theorem rwaits_any (x : Nat) (p : Option Nat) (zs : List UInt8) (w : World) (h : RR w x p zs) :
    Calls Try.prog 17 #[.pointer (some ⟨x, 0, none⟩)] w fun e w' => e = .returned (.int .i64 ((allS zs).1.length : Int)) ∧ Below w.heap.size w w' := by
  obtain ⟨ao, n, cap, hB, hW⟩ := h.row
  have hx := hB.lt
  have hc0 := hB.cell (j := 0) rfl
  have hc2 := hB.cell (j := 2) rfl
  have hzl := h.len
  rw [hW.rd.len] at hzl
  by_cases h0 : (allS zs).2 = 0
  · have HL : Hid _ := rest_len zs h0
    rw [h0] at hc2
    go_enter Try.func17, Try.ntmps17
    go_wp2_with fail
    refine (read_any ao n cap zs w hW.rd hW.read (by omega)).mono ?_
    rintro e w1 ⟨a, m, c, k, E, rfl, _, hk, vs, hr⟩
    have hc1 := (hB.below hr.bel hx).cell (j := 0) rfl
    have hbel := hr.bel
    have hkn : k ≤ n := by omega
    rw [HL.out] at hk
    have HK : Hid _ := hk
    clear hr hk
    go_wp2_with fail
    go_ret
    refine ⟨?_, hbel⟩
    rw [show (((allS zs).1.length : Nat) : Int) = (n : Int) - (k : Int) by have := HK.out; omega]
    rfl
  · have hd : (((allS zs).2 : Int) == 0) = false := by rw [beq_eq_false_iff_ne]; omega
    have HL : Hid _ := spoilt_len zs h0
    generalize (allS zs).2 = E at *
    rw [HL.out]
    go_enter Try.func17, Try.ntmps17
    go_wp2_with fail
    go_ret
    exact ⟨rfl, Below.refl _ _⟩

/-- What is left of a list, from k on. -/
theorem AppV.rest {B : Nat} {w : World} {gl n c : Nat} {vs : List Value} {fs : List (List UInt8)} (h : OwnV 28 B w gl n c vs) (hp : PV w w.heap.size vs fs) (k : Nat) (hk : k ≤ n) : Parts w w.heap.size (if c = k then some ⟨gl, 0, none⟩ else some ⟨gl, k, none⟩) (n - k) (c - k) (fs.drop k) := by
  have hn := h.len
  have hc := h.le
  have hm := h.max
  refine ⟨by rw [List.length_drop, ← hp.1]; omega, by omega, by unfold maxLen at hm ⊢; omega, fun i l hl => ?_⟩
  rw [List.getElem?_drop] at hl
  obtain ⟨v, h1, h2⟩ := hp.2 _ l hl
  have h3 := (List.getElem?_eq_some_iff.1 h1).1
  rw [if_neg (by omega)]
  exact ⟨gl, k, v, rfl, h.lt, h.cell h1, h2⟩

/-- What Put of the document's Reader leaves. -/
structure RPut (w w' : World) (x : Nat) (fs : List (List UInt8)) (ys : List UInt8) (a : Option Addr) (k c : Nat) (p' : Option Nat) : Prop where
  parts : Parts w' w'.heap.size a k c fs
  rr : RR w' x p' ys
  new : ∀ b, p' = some b → w.heap.size ≤ b
  keep : Keep w w' (fun k => k = x)

set_option maxRecDepth 100000 in
set_option maxHeartbeats 2000000 in
theorem rput_spoilt (x : Nat) (p : Option Nat) (zs : List UInt8) (bo : Option Addr) (m c : Nat) (w : World) (h : RR w x p zs) (h0 : (allS zs).2 ≠ 0) :
    Calls Try.prog 13 #[.pointer (some ⟨x, 0, none⟩), .slice bo m c] w fun e w' => e = .returned (.tuple #[.slice none 0 0, .int .i64 ((allS zs).2 : Int)]) ∧ w'.heap = w.heap ∧ Below w.heap.size w w' := by
  obtain ⟨ao, n, cap, hB, hW⟩ := h.row
  have hc2 := hB.cell (j := 2) rfl
  have hd : (((allS zs).2 : Int) == 0) = false := by rw [beq_eq_false_iff_ne]; omega
  clear h0 hB hW h
  generalize (allS zs).2 = E at *
  go_enter Try.func13, Try.ntmps13
  go_wp2_with fail
  go_quiet (fail)
  go_wp2_with fail
  go_ret2
  exact ⟨rfl, rfl, bel_drewN (Below.refl _ _) _⟩

set_option maxRecDepth 100000 in
set_option maxHeartbeats 2000000 in
theorem rput_good (x : Nat) (p : Option Nat) (zs : List UInt8) (bo : Option Addr) (m c : Nat) (bs : List UInt8) (w : World) (h : RR w x p zs) (hb : Rd w bo m c bs) (h0 : (allS zs).2 = 0) (hl : zs.length + m ≤ 536870912) :
    Calls Try.prog 13 #[.pointer (some ⟨x, 0, none⟩), .slice bo m c] w fun e w' => ∃ a k c E, e = .returned (.tuple #[.slice a k c, .int .i64 ((E : Nat) : Int)]) ∧ Hid (E = (allS (zs ++ bs)).2) ∧ ∃ p', RPut w w' x (putF (allS zs) bs) (zs ++ bs) a k c p' := by
  obtain ⟨i5, hi, hz0, hz1, hz2⟩ := info_parts Try.info5
  obtain ⟨ao, n, cap, hB, hW⟩ := h.row
  have hx := hB.lt
  have hne := h.ne
  have hc0 := hB.cell (j := 0) rfl
  have hc1 := hB.cell (j := 1) rfl
  have hc2 := hB.cell (j := 2) rfl
  rw [h0] at hc2
  have hnl := hW.rd.len
  rw [hnl] at hl
  have HNL : Hid _ := hnl
  have HLB : Hid _ := hb.len
  obtain ⟨p1, p2, p3⟩ := allS_put zs bs
  have HP2 : Hid _ := p2
  have hR1 := hW.rd.alloc (.cells #[] 5)
  have ho0 : Own 5 w.heap.size (w.alloc (.cells #[] 5)) w.heap.size 0 0 [] := own_empty w.heap.size w (Nat.le_refl _)
  have hbel1 : Below w.heap.size w (w.alloc (.cells #[] 5)) := (Below.refl _ _).alloc (Nat.le_refl _) _
  have hd0 := (hB.alloc (.cells #[] 5)).cell (j := 0) rfl
  clear p1 p2 p3 hc0
  go_enter Try.func13, Try.ntmps13
  go_wp2_with (first
    | (at_builtin; refine wpList_append_bytes (P := Try.prog) _ (by rfl) (.tmp 20) (.tmp 24) 28 28 (by rfl) 5 i5 Try.underlying28 hi hz0 hz1 hz2 w.heap.size (by simp) (by rfl) ho0.app zs (by rfl) (hR1.src _ Try.underlying28) (.inr ⟨_, rfl, ho0⟩) (by omega) ?_; intro g1 cap1 w1 ho1 hbb1 hg1 hw1; simp only [Nat.zero_add, List.nil_append] at ho1; have hbel2 := hbel1.trans hbb1; have hs1 := hbel2.size; have hb1 := hb.below hbel2 (Nat.le_refl _))
    | (at_builtin; refine wpList_append_bytes (P := Try.prog) _ (by rfl) (.tmp 25) (.tmp 26) 28 28 (by rfl) 5 i5 Try.underlying28 hi hz0 hz1 hz2 w.heap.size hs1 (by rfl) ho1.app bs (by rfl) (hb1.src _ Try.underlying28) (.inr ⟨_, rfl, ho1⟩) (by omega) ?_; intro g2 cap2 w2 ho2 hbb2 hg2 hw2; have hB2 := hB.below (hbel2.trans hbb2) hx; have hd1 := hB2.cell (j := 0) rfl; have hf1 := hB2.frozen 0))
  have hq2 := ho2.new
  have hK3 : Keep w (w2.setCell ⟨x, 0, none⟩ (.slice (some ⟨g2, 0, none⟩) (n + m) cap2)) (fun k => k = x) := Keep.setCell (S := fun k => k = x) (g := x) (Keep.of_below (hbel2.trans hbb2) (Nat.le_refl _)) (fun _ => rfl) 0 _
  have hB3 : Blk (w2.setCell ⟨x, 0, none⟩ (.slice (some ⟨g2, 0, none⟩) (n + m) cap2)) x 31 (xcells (some ⟨g2, 0, none⟩) (n + m) cap2 (rd zs).1.length (allS zs).2) := hB2.set 0 _
  have ho3 : Own 5 w.heap.size (w2.setCell ⟨x, 0, none⟩ (.slice (some ⟨g2, 0, none⟩) (n + m) cap2)) g2 (n + m) cap2 (zs ++ bs) := ho2.carry (Below.heap_setCell w2 _ _ g2 (by simp; omega))
  generalize w2.setCell ⟨x, 0, none⟩ (.slice (some ⟨g2, 0, none⟩) (n + m) cap2) = w3 at hK3 hB3 ho3 ⊢
  clear hR1 ho0 hbel1 hd0 hbb1 hg1 hw1 hbel2 hs1 hb1 ho1 ho2 hbb2 hg2 hw2 hB2 hd1 hf1 hB hW hc1 hc2 hb
  refine (read_any _ (n + m) cap2 (zs ++ bs) w3 ho3.rd (.inr ⟨g2, 0, rfl⟩) (by omega)).mono ?_
  rintro e w4 ⟨a, mm, cc, k, E, rfl, hE, _, vs, hr⟩
  have HE : Hid _ := hE
  clear hE
  have hs3 := hK3.size
  have hx3 := hB3.lt
  have hB4 := hB3.below hr.bel hx3
  have ho4 := ho3.below hr.bel ho3.lt
  have hc1 := hB4.cell (j := 1) rfl
  have hf1 := hB4.frozen 1
  have hc2 := hB4.cell (j := 2) rfl
  have hf2 := hB4.frozen 2
  have hcnt := hr.num
  have HNM : Hid _ := hcnt
  rw [HP2.out, List.length_append] at hcnt
  obtain ⟨told, HT⟩ : ∃ told, Hid ((rd zs).1.length = told) := ⟨_, rfl⟩
  rw [HT.out] at hcnt hc1
  have htm : told ≤ mm := by omega
  have hdr : (rd (zs ++ bs)).1.drop told = putF (allS zs) bs := by rw [HP2.out, ← HT.out, List.drop_left]
  have hrl := hr.le
  have hcount := rd_count (zs ++ bs)
  rw [← HNM.out, List.length_append, HNL.out, HLB.out] at hcount
  have hK5 : Keep w4 ((w4.setCell ⟨x, 1, none⟩ (.int .i64 (mm : Int))).setCell ⟨x, 2, none⟩ (.int .i64 (E : Int))) (fun k => k = x) := Keep.setCell (S := fun k => k = x) (g := x) (Keep.setCell (S := fun k => k = x) (g := x) (Keep.refl w4 _) (fun _ => rfl) 1 _) (fun _ => rfl) 2 _
  have hB5 : Blk ((w4.setCell ⟨x, 1, none⟩ (.int .i64 (mm : Int))).setCell ⟨x, 2, none⟩ (.int .i64 (E : Int))) x 31 (xcells (some ⟨g2, 0, none⟩) (n + m) cap2 mm E) := (hB4.set 1 _).set 2 _
  have hown := hr.own.keep hK5 (fun k e => by omega)
  have hfv := hr.fv.keep hK5 (fun k e => by omega)
  have ho5 := ho4.carry (w' := (w4.setCell ⟨x, 1, none⟩ (.int .i64 (mm : Int))).setCell ⟨x, 2, none⟩ (.int .i64 (E : Int))) (hK5.block g2 ho4.lt (by omega))
  have hK : Keep w ((w4.setCell ⟨x, 1, none⟩ (.int .i64 (mm : Int))).setCell ⟨x, 2, none⟩ (.int .i64 (E : Int))) (fun k => k = x) := (hK3.low hr.bel hs3).trans hK5 (fun _ _ e => e)
  have fin : ∀ A len C, Parts ((w4.setCell ⟨x, 1, none⟩ (.int .i64 (mm : Int))).setCell ⟨x, 2, none⟩ (.int .i64 (E : Int))) ((w4.setCell ⟨x, 1, none⟩ (.int .i64 (mm : Int))).setCell ⟨x, 2, none⟩ (.int .i64 (E : Int))).heap.size A len C ((rd (zs ++ bs)).1.drop told) →
      RPut w ((w4.setCell ⟨x, 1, none⟩ (.int .i64 (mm : Int))).setCell ⟨x, 2, none⟩ (.int .i64 (E : Int))) x (putF (allS zs) bs) (zs ++ bs) A len C (some g2) := by
    intro A len C hp
    refine ⟨by rw [← hdr]; exact hp, ⟨fun e => ?_, ?_, _, _, _, ?_, .inr ⟨g2, rfl, rfl, ho5.mono (Nat.zero_le _)⟩⟩, fun b hb => ?_, hK⟩
    · simp at e; omega
    · rw [List.length_append, HNL.out, HLB.out]; omega
    · rw [← HNM.out, ← HE.out]; exact hB5
    · simp at hb; omega
  have FIN : Hid _ := fin
  clear hcnt fin
  rcases hown with ⟨rfl, h1, rfl, rfl⟩ | ⟨gl, rfl, hol⟩
  · obtain rfl : told = 0 := by omega
    subst h1
    have hp : Hid _ := FIN.out none 0 0 (by
      have : (rd (zs ++ bs)).1 = [] := List.eq_nil_of_length_eq_zero HNM.out.symm
      rw [this]
      exact parts_nil _ _)
    clear FIN hK5 hB5 hfv ho5 hK hr hdr
    go_wp2_with fail
    go_ret2
    exact ⟨none, 0, 0, E, rfl, HE, some g2, hp.out⟩
  · have hrest := AppV.rest hol hfv.pv told htm
    have hcl := hol.le
    have hcx := hol.max
    unfold maxLen at hcx
    by_cases hct : cc = told
    · rw [if_pos hct, show mm - told = 0 by omega, show cc - told = 0 by omega] at hrest
      have hp : Hid _ := FIN.out _ _ _ hrest
      subst hct
      clear FIN hK5 hB5 hfv ho5 hK hr hdr hrest hol
      go_wp2_with fail
      go_ret2
      exact ⟨_, _, _, E, rfl, HE, some g2, hp.out⟩
    · rw [if_neg hct] at hrest
      have hp : Hid _ := FIN.out _ _ _ hrest
      clear FIN hK5 hB5 hfv ho5 hK hr hdr hrest hol
      go_wp2_with fail
      go_ret2
      exact ⟨_, _, _, E, rfl, HE, some g2, hp.out⟩
end Go.Proofs.Ytbbfjfmcmckdmaa
