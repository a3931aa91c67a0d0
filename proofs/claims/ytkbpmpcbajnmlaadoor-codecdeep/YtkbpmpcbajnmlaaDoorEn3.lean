/- The walk of the program's writer of declarations. No condition but that the declaration is as reading tells it, lies below, and that what is written stays short. -/
import Derived.Test.YtkbpmpcbajnmlaaDoorEn2
import Derived.Test.YtkbpmpcbajnmlaaDoorOn
import Derived.Test.YtkbpmpcbajnmlaaDoorDc2
namespace Go.Proofs.YtkbpmpcbajnmlaaDoor
open Go.RowKit

/-- In the midst of writing. -/
structure WD (w0 W : World) (B g : Nat) (q0 qs : Option Nat) (bs : Bs) : Prop where
  ws : WS W B g 75 [] qs bs
  kp : Keep w0 W (fun k => k = g ∨ q0 = some k)
  qq : qs = q0 ∨ ∃ k, qs = some k ∧ w0.heap.size ≤ k

theorem WD.next {w0 W W' : World} {B g : Nat} {q0 q1 : Option Nat} {bs bs' : Bs} {x : Ending} (h : WD w0 W B g q0 q1 bs) (h' : WP W B g 75 [] q1 bs' x W') : x = .returned (.tuple #[]) ∧ ∃ q2, WD w0 W' B g q0 q2 bs' := by
  obtain ⟨h1, q2, h2, h3, h4⟩ := h'
  refine ⟨h1, q2, h2, h.kp.trans h3 (fun k hk e => ?_), ?_⟩
  · rcases e with e | e
    · exact .inl e
    · rcases h.qq with r | ⟨m, r1, r2⟩
      · exact .inr (r ▸ e)
      · rw [r1] at e; simp at e; omega
  · rcases h4 with r | ⟨m, r1, r2⟩
    · rw [r]; exact h.qq
    · exact .inr ⟨m, r1, by have := h.kp.size; omega⟩

theorem eCtors_take {cs : List (Bs × Pm)} {i : Nat} {c : Bs × Pm} (h : cs[i]? = some c) : eCtors (cs.take (i + 1)) = eCtors (cs.take i) ++ eX c.1 ++ eT c.2 := by
  rw [List.take_add_one, h]
  simp [eCtors, eCtor]
theorem eCtors_le (cs : List (Bs × Pm)) (i : Nat) : (eCtors (cs.take i)).length ≤ (eCtors cs).length := by
  have e : eCtors cs = eCtors (cs.take i) ++ eCtors (cs.drop i) := by
    unfold eCtors
    rw [← List.flatten_append, ← List.map_append, List.take_append_drop]
  rw [e, List.length_append]; omega

/-- One more constructor. -/
theorem eCtors_room {cs : List (Bs × Pm)} {i : Nat} {c : Bs × Pm} (h : cs[i]? = some c) : (eCtors (cs.take i)).length + (eX c.1).length + (eT c.2).length ≤ (eCtors cs).length := by
  have h1 := eCtors_le cs (i + 1)
  rw [eCtors_take h] at h1
  simp only [List.length_append] at h1
  exact h1

set_option maxRecDepth 100000 in
set_option maxHeartbeats 4000000 in
theorem wdecl_one (d : Dc) (U V : Tr) (ca : Option Addr) (cc gd : Nat) (w : World) (B g : Nat) (q : Option Nat) (bs : Bs) (hW : WS w B g 75 [] q bs) (ht : Tabs w) (h2 : 2 ≤ B) (hgd : gd < B)
    (hD : Blk w gd 38 (dcells d.k d.p d.c ⟨d.n.toArray⟩ ⟨d.f.toArray⟩ U V ca d.cs.length cc)) (hU : U.pl = d.t) (hV : V.pl = d.v) (iU : TIn w (· < B) U) (iV : TIn w (· < B) V) (iC : CLs w (· < B) d.cs ca cc) (h : WfD d) (hk2 : d.k ≠ 2) (hs : (bs ++ eDecl d).length ≤ 90000) :
    Calls Tryd.prog 40 #[.pointer (some ⟨g, 0, none⟩), .pointer (some ⟨gd, 0, none⟩)] w (WP w B g 75 [] q (bs ++ eDecl d)) := by
  have hBw : B ≤ w.heap.size := by have := hW.low; have := hW.lt; omega
  have hS : ∀ k, (k = g ∨ q = some k) → B ≤ k := fun k e => by
    rcases e with e | e
    · have := hW.low; omega
    · exact (hW.own e).2.1
  have hlow : ∀ W, Keep w W (fun k => k = g ∨ q = some k) → ∀ k, k < B → W.heap[k]? = w.heap[k]? := fun W hk k hlt => hk.block k (by omega) (fun e => by have := hS k e; omega)
  have hcell : ∀ W, Keep w W (fun k => k = g ∨ q = some k) → Blk W gd 38 (dcells d.k d.p d.c ⟨d.n.toArray⟩ ⟨d.f.toArray⟩ U V ca d.cs.length cc) := fun W hk => hD.carry (hlow W hk gd hgd)
  have htab : ∀ W, Keep w W (fun k => k = g ∨ q = some k) → Tabs W := fun W hk => ht.keep hk (fun k e => by have := hS k e; omega)
  have htin : ∀ W, Keep w W (fun k => k = g ∨ q = some k) → ∀ T, TIn w (· < B) T → TIn W (· < B) T := fun W hk T hT => TIn.carry (fun b hb => hlow W hk b hb) (fun b hb => hb) T hT
  have hcls : ∀ W, Keep w W (fun k => k = g ∨ q = some k) → CLs W (· < B) d.cs ca cc := fun W hk => iC.carry (fun b hb => hlow W hk b hb) (fun b hb => hb)
  have hfin : bs ++ eDecl d = bs ++ Lib.uvarint d.k ++ Lib.uvarint d.p ++ Lib.uvarint d.c ++ eX d.n ++ eX d.f ++ eT d.t ++ Lib.uvarint (vals d.k) ++ Lib.uvarint d.cs.length ++ eCtors d.cs := by
    unfold eDecl
    rw [if_neg hk2]
    simp only [List.append_assoc, List.nil_append]
  rw [hfin] at hs ⊢
  simp only [List.length_append] at hs
  have D0 : WD w w B g q q bs := ⟨hW, Keep.refl _ _, .inl rfl⟩
  have HF : Hid ((∀ W, Keep w W (fun k => k = g ∨ q = some k) → ∀ k, k < B → W.heap[k]? = w.heap[k]?) ∧ (∀ W, Keep w W (fun k => k = g ∨ q = some k) → Blk W gd 38 (dcells d.k d.p d.c ⟨d.n.toArray⟩ ⟨d.f.toArray⟩ U V ca d.cs.length cc)) ∧ (∀ W, Keep w W (fun k => k = g ∨ q = some k) → Tabs W) ∧ (∀ W, Keep w W (fun k => k = g ∨ q = some k) → ∀ T, TIn w (· < B) T → TIn W (· < B) T) ∧ ∀ W, Keep w W (fun k => k = g ∨ q = some k) → CLs W (· < B) d.cs ca cc) := ⟨hlow, hcell, htab, htin, hcls⟩
  have HL : Hid _ := hs
  have l1 := h.k1
  have l2 := h.p
  have l3 := h.c
  have l4 := h.n
  have l5 := h.f
  have l6 := h.cs
  have HWf : Hid _ := h
  have HU : Hid _ := hU
  have HV : Hid _ := hV
  have HiU : Hid _ := iU
  have HiV : Hid _ := iV
  have HK2 : Hid _ := hk2
  clear hk2 hlow hcell htab htin hcls hfin hs hW hD ht hU hV iU iV iC h hS
  have hBl := D0.kp.size
  have e0 := (HF.out.2.1 w D0.kp).cell (j := 0) rfl
  have c1 := wnum_any (wt := 75) (wl := []) B g q _ d.k w D0.ws (by omega) (by have := HL.out; simp only [List.length_append]; omega)
  go_enter Tryd.func40, Tryd.ntmps40
  go_wp2_with fail
  refine c1.mono ?_
  intro x W1 hP
  obtain ⟨rfl, q1, D1⟩ := D0.next hP
  clear c1 hP
  have e1 := (HF.out.2.1 W1 D1.kp).cell (j := 1) rfl
  have c2 := wnum_any (wt := 75) (wl := []) B g q1 _ d.p W1 D1.ws (by omega) (by have := HL.out; simp only [List.length_append]; omega)
  clear e0
  go_wp2_with fail
  refine c2.mono ?_
  intro x W2 hP
  obtain ⟨rfl, q2, D2⟩ := D1.next hP
  clear c2 hP
  have e2 := (HF.out.2.1 W2 D2.kp).cell (j := 2) rfl
  have c3 := wnum_any (wt := 75) (wl := []) B g q2 _ d.c W2 D2.ws (by omega) (by have := HL.out; simp only [List.length_append]; omega)
  clear e1
  go_wp2_with fail
  refine c3.mono ?_
  intro x W3 hP
  obtain ⟨rfl, q3, D3⟩ := D2.next hP
  clear c3 hP
  have e3 := (HF.out.2.1 W3 D3.kp).cell (j := 3) rfl
  have c4 := wtext_any (wt := 75) (wl := []) B g q3 _ d.n W3 D3.ws (by have := HL.out; simp only [List.length_append]; omega)
  clear e2
  go_wp2_with fail
  refine c4.mono ?_
  intro x W4 hP
  obtain ⟨rfl, q4, D4⟩ := D3.next hP
  clear c4 hP
  have e4 := (HF.out.2.1 W4 D4.kp).cell (j := 4) rfl
  have c5 := wtext_any (wt := 75) (wl := []) B g q4 _ d.f W4 D4.ws (by have := HL.out; simp only [List.length_append]; omega)
  clear e3
  go_wp2_with fail
  refine c5.mono ?_
  intro x W5 hP
  obtain ⟨rfl, q5, D5⟩ := D4.next hP
  clear c5 hP
  have c6 := wterm_any U gd 5 W5 B g q5 _ D5.ws (HF.out.2.2.1 W5 D5.kp) (by omega) ⟨(HF.out.2.1 W5 D5.kp).cell (j := 5) rfl, (HF.out.2.1 W5 D5.kp).cell (j := 6) rfl, (HF.out.2.1 W5 D5.kp).cell (j := 7) rfl, (HF.out.2.1 W5 D5.kp).cell (j := 8) rfl, (HF.out.2.1 W5 D5.kp).cell (j := 9) rfl⟩ (by omega) (HF.out.2.2.2.1 W5 D5.kp U HiU.out) (by rw [HU.out]; exact HWf.out.t) (by rw [HU.out]; have := HL.out; simp only [List.length_append]; omega)
  rw [HU.out] at c6
  clear e4
  go_wp2_with fail
  refine c6.mono ?_
  intro x W6 hP
  obtain ⟨rfl, q6, D6⟩ := D5.next hP
  clear c6 hP
  have e0 := (HF.out.2.1 W6 D6.kp).cell (j := 0) rfl
  have cv := vals_any d.k W6
  go_wp2_with fail
  refine cv.mono ?_
  rintro x W6' ⟨rfl, rfl⟩
  clear cv e0
  have hvl : vals d.k = 0 := by unfold vals; rw [if_neg HK2.out]
  have c7 := wnum_any (wt := 75) (wl := []) B g q6 _ (vals d.k) W6 D6.ws (by rw [hvl]; omega) (by have := HL.out; simp only [List.length_append]; omega)
  have HVL : Hid _ := hvl
  rw [hvl] at c7 ⊢
  clear hvl
  go_wp2_with fail
  refine c7.mono ?_
  intro x W7 hP
  obtain ⟨rfl, q7, D7⟩ := D6.next hP
  clear c7 hP
  have e15 := (HF.out.2.1 W7 D7.kp).cell (j := 15) rfl
  have c8 := wnum_any (wt := 75) (wl := []) B g q7 _ d.cs.length W7 D7.ws (by omega) (by have := HL.out; have hvl := HVL.out; rw [hvl] at this; simp only [List.length_append]; omega)
  go_wp2_with fail
  refine c8.mono ?_
  intro x W8 hP
  obtain ⟨rfl, q8, D8⟩ := D7.next hP
  clear c8 hP
  have f15 := (HF.out.2.1 W8 D8.kp).cell (j := 15) rfl
  clear e15
  obtain ⟨pre, hpre⟩ : ∃ pre, bs ++ Lib.uvarint d.k ++ Lib.uvarint d.p ++ Lib.uvarint d.c ++ eX d.n ++ eX d.f ++ eT d.t ++ Lib.uvarint 0 ++ Lib.uvarint d.cs.length = pre := ⟨_, rfl⟩
  have HP : Hid _ := hpre
  rw [hpre] at D8
  clear hpre
  have HLL : Hid (pre.length + (eCtors d.cs).length ≤ 90000) := by
    have h1 := HL.out
    have h2 := HVL.out
    have h3 := congrArg List.length HP.out
    rw [h2] at h1
    simp only [List.length_append] at h3
    show _ ≤ _
    omega
  obtain ⟨cl, hcl⟩ : ∃ cl, d.cs.length = cl := ⟨_, rfl⟩
  have HCL : Hid _ := hcl
  rw [hcl] at f15 l6
  clear hcl
  go_wp2_with fail
  go_loopw [68] (fun i wr => ∃ (j : Nat) (qj : Option Nat), i = .int .i64 (j : Int) ∧ j ≤ cl ∧ WD w wr B g q qj (pre ++ eCtors (d.cs.take j))) (fun i _ => cl - (intOf i).toNat)
  case atStart => exact ⟨0, q8, rfl, by omega, by simpa [eCtors] using D8⟩
  case round =>
    obtain ⟨j, qj, rfl, hj, DJ⟩ := hrel
    by_cases hjl : j < cl
    · have hd : decide ((j : Int) < (cl : Int)) = true := decide_eq_true (by omega)
      obtain ⟨cj, hcj⟩ : ∃ cj, d.cs[j]? = some cj := ⟨_, List.getElem?_eq_getElem (by have := HCL.out; omega)⟩
      have hroom := eCtors_room hcj
      obtain ⟨h5, h6, h7⟩ := HF.out.2.2.2.2 wr DJ.kp
      rcases h7 with h7 | ⟨cb, co, hca, hcb, hrow⟩
      · rw [h7] at hcj; simp at hcj
      obtain ⟨T, hT, t0, tc, ti⟩ := hrow j cj hcj
      have g15 := (HF.out.2.1 wr DJ.kp).cell (j := 15) rfl
      have HCA : Hid _ := hca
      rw [hca, HCL.out] at g15
      clear hca
      have hwfc := HWf.out.each cj (List.mem_of_getElem? hcj)
      have cx := wtext_any (wt := 75) (wl := []) B g qj _ cj.1 wr DJ.ws (by have := HLL.out; simp only [List.length_append]; omega)
      have j0 : (0 : Int) ≤ (j : Int) := by omega
      have j1 : (j : Int) < (cl : Int) := by omega
      have HCJ : Hid _ := hcj
      have HRM : Hid _ := hroom
      clear hcj hrow hroom
      go_wp2_with fail
      refine cx.mono ?_
      intro x Wa hP
      obtain ⟨rfl, qa, DA⟩ := DJ.next hP
      clear cx hP
      have ga15 := (HF.out.2.1 Wa DA.kp).cell (j := 15) rfl
      rw [HCA.out, HCL.out] at ga15
      have hle : ∀ b, b < B → Wa.heap[b]? = wr.heap[b]? := fun b hb => (HF.out.1 Wa DA.kp b hb).trans (HF.out.1 wr DJ.kp b hb).symm
      have ct := wterm_any T cb (co + j * 6 + 1) Wa B g qa _ DA.ws (HF.out.2.2.1 Wa DA.kp) (by omega) (tc.carry (hle cb hcb)) hcb (TIn.carry (fun b hb => hle b hb) (fun b hb => hb) T ti) (by rw [hT]; exact hwfc.2) (by rw [hT]; have := HLL.out; have := HRM.out; simp only [List.length_append]; omega)
      rw [hT] at ct
      clear tc ti t0 hle g15
      go_wp2_with fail
      refine ct.mono ?_
      intro x Wb hP
      obtain ⟨rfl, qb, DB⟩ := DA.next hP
      clear ct hP
      go_wp2_with fail
      go_roundw
      case rel => exact ⟨j + 1, qb, by simp, by omega, by rw [eCtors_take HCJ.out, ← List.append_assoc, ← List.append_assoc]; exact DB⟩
      case measure => simp [intOf]; omega
    · have hd : decide ((j : Int) < (cl : Int)) = false := decide_eq_false (by omega)
      have hje : d.cs.take j = d.cs := List.take_of_length_le (by have := HCL.out; omega)
      rw [hje, ← HP.out] at DJ
      go_wp2_with fail
      go_end0
      refine ⟨rfl, qj, ?_, DJ.kp, DJ.qq⟩
      have hvl := HVL.out
      rw [hvl]
      exact DJ.ws

set_option maxRecDepth 100000 in
set_option maxHeartbeats 4000000 in
theorem wdecl_two (d : Dc) (U V : Tr) (ca : Option Addr) (cc gd : Nat) (w : World) (B g : Nat) (q : Option Nat) (bs : Bs) (hW : WS w B g 75 [] q bs) (ht : Tabs w) (h2 : 2 ≤ B) (hgd : gd < B)
    (hD : Blk w gd 38 (dcells d.k d.p d.c ⟨d.n.toArray⟩ ⟨d.f.toArray⟩ U V ca d.cs.length cc)) (hU : U.pl = d.t) (hV : V.pl = d.v) (iU : TIn w (· < B) U) (iV : TIn w (· < B) V) (iC : CLs w (· < B) d.cs ca cc) (h : WfD d) (hk2 : d.k = 2) (hs : (bs ++ eDecl d).length ≤ 90000) :
    Calls Tryd.prog 40 #[.pointer (some ⟨g, 0, none⟩), .pointer (some ⟨gd, 0, none⟩)] w (WP w B g 75 [] q (bs ++ eDecl d)) := by
  have hBw : B ≤ w.heap.size := by have := hW.low; have := hW.lt; omega
  have hS : ∀ k, (k = g ∨ q = some k) → B ≤ k := fun k e => by
    rcases e with e | e
    · have := hW.low; omega
    · exact (hW.own e).2.1
  have hlow : ∀ W, Keep w W (fun k => k = g ∨ q = some k) → ∀ k, k < B → W.heap[k]? = w.heap[k]? := fun W hk k hlt => hk.block k (by omega) (fun e => by have := hS k e; omega)
  have hcell : ∀ W, Keep w W (fun k => k = g ∨ q = some k) → Blk W gd 38 (dcells d.k d.p d.c ⟨d.n.toArray⟩ ⟨d.f.toArray⟩ U V ca d.cs.length cc) := fun W hk => hD.carry (hlow W hk gd hgd)
  have htab : ∀ W, Keep w W (fun k => k = g ∨ q = some k) → Tabs W := fun W hk => ht.keep hk (fun k e => by have := hS k e; omega)
  have htin : ∀ W, Keep w W (fun k => k = g ∨ q = some k) → ∀ T, TIn w (· < B) T → TIn W (· < B) T := fun W hk T hT => TIn.carry (fun b hb => hlow W hk b hb) (fun b hb => hb) T hT
  have hcls : ∀ W, Keep w W (fun k => k = g ∨ q = some k) → CLs W (· < B) d.cs ca cc := fun W hk => iC.carry (fun b hb => hlow W hk b hb) (fun b hb => hb)
  have hfin : bs ++ eDecl d = bs ++ Lib.uvarint d.k ++ Lib.uvarint d.p ++ Lib.uvarint d.c ++ eX d.n ++ eX d.f ++ eT d.t ++ Lib.uvarint (vals d.k) ++ eT d.v ++ Lib.uvarint d.cs.length ++ eCtors d.cs := by
    unfold eDecl
    rw [if_pos hk2]
    simp only [List.append_assoc]
  rw [hfin] at hs ⊢
  simp only [List.length_append] at hs
  have D0 : WD w w B g q q bs := ⟨hW, Keep.refl _ _, .inl rfl⟩
  have HF : Hid ((∀ W, Keep w W (fun k => k = g ∨ q = some k) → ∀ k, k < B → W.heap[k]? = w.heap[k]?) ∧ (∀ W, Keep w W (fun k => k = g ∨ q = some k) → Blk W gd 38 (dcells d.k d.p d.c ⟨d.n.toArray⟩ ⟨d.f.toArray⟩ U V ca d.cs.length cc)) ∧ (∀ W, Keep w W (fun k => k = g ∨ q = some k) → Tabs W) ∧ (∀ W, Keep w W (fun k => k = g ∨ q = some k) → ∀ T, TIn w (· < B) T → TIn W (· < B) T) ∧ ∀ W, Keep w W (fun k => k = g ∨ q = some k) → CLs W (· < B) d.cs ca cc) := ⟨hlow, hcell, htab, htin, hcls⟩
  have HL : Hid _ := hs
  have l1 := h.k1
  have l2 := h.p
  have l3 := h.c
  have l4 := h.n
  have l5 := h.f
  have l6 := h.cs
  have HWf : Hid _ := h
  have HU : Hid _ := hU
  have HV : Hid _ := hV
  have HiU : Hid _ := iU
  have HiV : Hid _ := iV
  have HK2 : Hid _ := hk2
  clear hk2 hlow hcell htab htin hcls hfin hs hW hD ht hU hV iU iV iC h hS
  have hBl := D0.kp.size
  have e0 := (HF.out.2.1 w D0.kp).cell (j := 0) rfl
  have c1 := wnum_any (wt := 75) (wl := []) B g q _ d.k w D0.ws (by omega) (by have := HL.out; simp only [List.length_append]; omega)
  go_enter Tryd.func40, Tryd.ntmps40
  go_wp2_with fail
  refine c1.mono ?_
  intro x W1 hP
  obtain ⟨rfl, q1, D1⟩ := D0.next hP
  clear c1 hP
  have e1 := (HF.out.2.1 W1 D1.kp).cell (j := 1) rfl
  have c2 := wnum_any (wt := 75) (wl := []) B g q1 _ d.p W1 D1.ws (by omega) (by have := HL.out; simp only [List.length_append]; omega)
  clear e0
  go_wp2_with fail
  refine c2.mono ?_
  intro x W2 hP
  obtain ⟨rfl, q2, D2⟩ := D1.next hP
  clear c2 hP
  have e2 := (HF.out.2.1 W2 D2.kp).cell (j := 2) rfl
  have c3 := wnum_any (wt := 75) (wl := []) B g q2 _ d.c W2 D2.ws (by omega) (by have := HL.out; simp only [List.length_append]; omega)
  clear e1
  go_wp2_with fail
  refine c3.mono ?_
  intro x W3 hP
  obtain ⟨rfl, q3, D3⟩ := D2.next hP
  clear c3 hP
  have e3 := (HF.out.2.1 W3 D3.kp).cell (j := 3) rfl
  have c4 := wtext_any (wt := 75) (wl := []) B g q3 _ d.n W3 D3.ws (by have := HL.out; simp only [List.length_append]; omega)
  clear e2
  go_wp2_with fail
  refine c4.mono ?_
  intro x W4 hP
  obtain ⟨rfl, q4, D4⟩ := D3.next hP
  clear c4 hP
  have e4 := (HF.out.2.1 W4 D4.kp).cell (j := 4) rfl
  have c5 := wtext_any (wt := 75) (wl := []) B g q4 _ d.f W4 D4.ws (by have := HL.out; simp only [List.length_append]; omega)
  clear e3
  go_wp2_with fail
  refine c5.mono ?_
  intro x W5 hP
  obtain ⟨rfl, q5, D5⟩ := D4.next hP
  clear c5 hP
  have c6 := wterm_any U gd 5 W5 B g q5 _ D5.ws (HF.out.2.2.1 W5 D5.kp) (by omega) ⟨(HF.out.2.1 W5 D5.kp).cell (j := 5) rfl, (HF.out.2.1 W5 D5.kp).cell (j := 6) rfl, (HF.out.2.1 W5 D5.kp).cell (j := 7) rfl, (HF.out.2.1 W5 D5.kp).cell (j := 8) rfl, (HF.out.2.1 W5 D5.kp).cell (j := 9) rfl⟩ (by omega) (HF.out.2.2.2.1 W5 D5.kp U HiU.out) (by rw [HU.out]; exact HWf.out.t) (by rw [HU.out]; have := HL.out; simp only [List.length_append]; omega)
  rw [HU.out] at c6
  clear e4
  go_wp2_with fail
  refine c6.mono ?_
  intro x W6 hP
  obtain ⟨rfl, q6, D6⟩ := D5.next hP
  clear c6 hP
  have e0 := (HF.out.2.1 W6 D6.kp).cell (j := 0) rfl
  have cv := vals_any d.k W6
  go_wp2_with fail
  refine cv.mono ?_
  rintro x W6' ⟨rfl, rfl⟩
  clear cv e0
  have hvl : vals d.k = 1 := by unfold vals; rw [if_pos HK2.out]
  have c7 := wnum_any (wt := 75) (wl := []) B g q6 _ (vals d.k) W6 D6.ws (by rw [hvl]; omega) (by have := HL.out; simp only [List.length_append]; omega)
  have HVL : Hid _ := hvl
  rw [hvl] at c7 ⊢
  clear hvl
  go_wp2_with fail
  refine c7.mono ?_
  intro x W7 hP
  obtain ⟨rfl, q7, D7⟩ := D6.next hP
  clear c7 hP
  have c8 := wterm_any V gd 10 W7 B g q7 _ D7.ws (HF.out.2.2.1 W7 D7.kp) (by omega) ⟨(HF.out.2.1 W7 D7.kp).cell (j := 10) rfl, (HF.out.2.1 W7 D7.kp).cell (j := 11) rfl, (HF.out.2.1 W7 D7.kp).cell (j := 12) rfl, (HF.out.2.1 W7 D7.kp).cell (j := 13) rfl, (HF.out.2.1 W7 D7.kp).cell (j := 14) rfl⟩ (by omega) (HF.out.2.2.2.1 W7 D7.kp V HiV.out) (by rw [HV.out]; exact HWf.out.v.1 HK2.out) (by rw [HV.out]; have := HL.out; have hvl := HVL.out; rw [hvl] at this; simp only [List.length_append]; omega)
  rw [HV.out] at c8
  go_wp2_with fail
  refine c8.mono ?_
  intro x W8 hP
  obtain ⟨rfl, q8, D8⟩ := D7.next hP
  clear c8 hP
  have e15 := (HF.out.2.1 W8 D8.kp).cell (j := 15) rfl
  have c9 := wnum_any (wt := 75) (wl := []) B g q8 _ d.cs.length W8 D8.ws (by omega) (by have := HL.out; have hvl := HVL.out; rw [hvl] at this; simp only [List.length_append]; omega)
  go_wp2_with fail
  refine c9.mono ?_
  intro x W9 hP
  obtain ⟨rfl, q9, D9⟩ := D8.next hP
  clear c9 hP
  have f15 := (HF.out.2.1 W9 D9.kp).cell (j := 15) rfl
  clear e15
  obtain ⟨pre, hpre⟩ : ∃ pre, bs ++ Lib.uvarint d.k ++ Lib.uvarint d.p ++ Lib.uvarint d.c ++ eX d.n ++ eX d.f ++ eT d.t ++ Lib.uvarint 1 ++ eT d.v ++ Lib.uvarint d.cs.length = pre := ⟨_, rfl⟩
  have HP : Hid _ := hpre
  rw [hpre] at D9
  clear hpre
  have HLL : Hid (pre.length + (eCtors d.cs).length ≤ 90000) := by
    have h1 := HL.out
    have h2 := HVL.out
    have h3 := congrArg List.length HP.out
    rw [h2] at h1
    simp only [List.length_append] at h3
    show _ ≤ _
    omega
  obtain ⟨cl, hcl⟩ : ∃ cl, d.cs.length = cl := ⟨_, rfl⟩
  have HCL : Hid _ := hcl
  rw [hcl] at f15 l6
  clear hcl
  go_wp2_with fail
  go_loopw [68] (fun i wr => ∃ (j : Nat) (qj : Option Nat), i = .int .i64 (j : Int) ∧ j ≤ cl ∧ WD w wr B g q qj (pre ++ eCtors (d.cs.take j))) (fun i _ => cl - (intOf i).toNat)
  case atStart => exact ⟨0, q9, rfl, by omega, by simpa [eCtors] using D9⟩
  case round =>
    obtain ⟨j, qj, rfl, hj, DJ⟩ := hrel
    by_cases hjl : j < cl
    · have hd : decide ((j : Int) < (cl : Int)) = true := decide_eq_true (by omega)
      obtain ⟨cj, hcj⟩ : ∃ cj, d.cs[j]? = some cj := ⟨_, List.getElem?_eq_getElem (by have := HCL.out; omega)⟩
      have hroom := eCtors_room hcj
      obtain ⟨h5, h6, h7⟩ := HF.out.2.2.2.2 wr DJ.kp
      rcases h7 with h7 | ⟨cb, co, hca, hcb, hrow⟩
      · rw [h7] at hcj; simp at hcj
      obtain ⟨T, hT, t0, tc, ti⟩ := hrow j cj hcj
      have g15 := (HF.out.2.1 wr DJ.kp).cell (j := 15) rfl
      have HCA : Hid _ := hca
      rw [hca, HCL.out] at g15
      clear hca
      have hwfc := HWf.out.each cj (List.mem_of_getElem? hcj)
      have cx := wtext_any (wt := 75) (wl := []) B g qj _ cj.1 wr DJ.ws (by have := HLL.out; simp only [List.length_append]; omega)
      have j0 : (0 : Int) ≤ (j : Int) := by omega
      have j1 : (j : Int) < (cl : Int) := by omega
      have HCJ : Hid _ := hcj
      have HRM : Hid _ := hroom
      clear hcj hrow hroom
      go_wp2_with fail
      refine cx.mono ?_
      intro x Wa hP
      obtain ⟨rfl, qa, DA⟩ := DJ.next hP
      clear cx hP
      have ga15 := (HF.out.2.1 Wa DA.kp).cell (j := 15) rfl
      rw [HCA.out, HCL.out] at ga15
      have hle : ∀ b, b < B → Wa.heap[b]? = wr.heap[b]? := fun b hb => (HF.out.1 Wa DA.kp b hb).trans (HF.out.1 wr DJ.kp b hb).symm
      have ct := wterm_any T cb (co + j * 6 + 1) Wa B g qa _ DA.ws (HF.out.2.2.1 Wa DA.kp) (by omega) (tc.carry (hle cb hcb)) hcb (TIn.carry (fun b hb => hle b hb) (fun b hb => hb) T ti) (by rw [hT]; exact hwfc.2) (by rw [hT]; have := HLL.out; have := HRM.out; simp only [List.length_append]; omega)
      rw [hT] at ct
      clear tc ti t0 hle g15
      go_wp2_with fail
      refine ct.mono ?_
      intro x Wb hP
      obtain ⟨rfl, qb, DB⟩ := DA.next hP
      clear ct hP
      go_wp2_with fail
      go_roundw
      case rel => exact ⟨j + 1, qb, by simp, by omega, by rw [eCtors_take HCJ.out, ← List.append_assoc, ← List.append_assoc]; exact DB⟩
      case measure => simp [intOf]; omega
    · have hd : decide ((j : Int) < (cl : Int)) = false := decide_eq_false (by omega)
      have hje : d.cs.take j = d.cs := List.take_of_length_le (by have := HCL.out; omega)
      rw [hje, ← HP.out] at DJ
      go_wp2_with fail
      go_end0
      refine ⟨rfl, qj, ?_, DJ.kp, DJ.qq⟩
      have hvl := HVL.out
      rw [hvl]
      exact DJ.ws

end Go.Proofs.YtkbpmpcbajnmlaaDoor
