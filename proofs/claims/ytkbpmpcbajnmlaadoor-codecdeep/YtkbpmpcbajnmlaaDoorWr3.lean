/- The walks of the program's writer of a part of a term. No condition but that the part is formed as its Kind asks, and that what is written stays short. -/
import Derived.Test.YtkbpmpcbajnmlaaDoorWr2
import Derived.Test.YtkbpmpcbajnmlaaDoorTm3
namespace Go.Proofs.YtkbpmpcbajnmlaaDoor
open Go.RowKit

/-- A part's bytes, up to its Args. -/
def eHead (k n : Int) (s : ByteArray) (ls : List Lv) : Bs :=
  Lib.uvarint k.toNat ++ (if k = 0 then Lib.uvarint n.toNat else if k = 1 then eLs ls else if k = 2 then eX s.data.toList ++ Lib.uvarint ls.length ++ eLs ls else [])

mutual
/-- A term's bytes. -/
def eT : Pm → Bs
  | .mk k n s ls args => eHead k n s ls ++ eTs args
def eTs : List Pm → Bs
  | [] => []
  | t :: r => eT t ++ eTs r
end
theorem eT_mk (k n : Int) (s : ByteArray) (ls : List Lv) (args : List Pm) : eT (.mk k n s ls args) = eHead k n s ls ++ eTs args := by simp only [eT]
theorem eTs_append (a b : List Pm) : eTs (a ++ b) = eTs a ++ eTs b := by
  induction a with
  | nil => simp only [List.nil_append, eTs]
  | cons x r ih => simp only [List.cons_append, eTs, ih, List.append_assoc]

/-- A part that is formed as its Kind asks. -/
structure WfH (k n : Int) (s : ByteArray) (ls : List Lv) (al : Nat) : Prop where
  k0 : 0 ≤ k
  k1 : k ≤ 6
  n0 : 0 ≤ n
  n1 : n ≤ 1073741824
  al : al = argT k.toNat
  nz : k ≠ 0 → n = 0
  sz : k ≠ 2 → s = ⟨#[]⟩
  lv : (k = 1 → ls.length = 1) ∧ (k ≠ 1 → k ≠ 2 → ls = []) ∧ ls.length ≤ 1000
  wf : ∀ L ∈ ls, WfL L ∧ L.size ≤ 65536

inductive WfT : Pm → Prop
  | mk {k n : Int} {s : ByteArray} {ls : List Lv} {args : List Pm} : WfH k n s ls args.length → (∀ t ∈ args, WfT t) → WfT (.mk k n s ls args)

set_option maxRecDepth 100000 in
set_option maxHeartbeats 1000000 in
theorem itsLevels_any (T : Tr) (b off : Nat) (w : World) (hc : TCells w b off T) (h : WfH T.k T.n T.s T.ls T.args.length) (hmx : T.ls.length ≤ 9223372036854775807) : Calls Tryd.prog 97 #[.pointer (some ⟨b, off, none⟩)] w fun x w' => x = .returned (.bool true) ∧ w = w' := by
  have c0 := hc.c0
  have c3 := hc.c3
  obtain ⟨h1, h2, h3⟩ := h.lv
  obtain ⟨ll, hll⟩ : ∃ ll, T.ls.length = ll := ⟨_, rfl⟩
  rw [hll] at c3 hmx h3 h1
  have h2' : T.k ≠ 1 → T.k ≠ 2 → ll = 0 := fun a b => by rw [← hll, h2 a b]; rfl
  generalize T.k = k at *
  clear hc h h2 hll
  by_cases e1 : k = 1
  · subst e1
    obtain rfl := h1 rfl
    go_enter Tryd.func97, Tryd.ntmps97
    go_wp2_with fail
    go_ret
    exact ⟨rfl, rfl⟩
  · have d1 : (k == 1) = false := beq_eq_false_iff_ne.2 e1
    by_cases e2 : k = 2
    · subst e2
      go_enter Tryd.func97, Tryd.ntmps97
      go_wp2_with fail
      go_ret
      exact ⟨rfl, rfl⟩
    · have d2 : (k == 2) = false := beq_eq_false_iff_ne.2 e2
      obtain rfl := h2' e1 e2
      clear h2' h1
      go_enter Tryd.func97, Tryd.ntmps97
      go_wp2_with fail
      go_ret
      exact ⟨rfl, rfl⟩

set_option maxRecDepth 100000 in
set_option maxHeartbeats 4000000 in
theorem whole_any (T : Tr) (b off : Nat) (w : World) (ht : Tabs w) (S : Nat → Prop) (hc : TCells w b off T) (hin : TIn w S T) (h : WfH T.k T.n T.s T.ls T.args.length) : Calls Tryd.prog 86 #[.pointer (some ⟨b, off, none⟩)] w fun x w' => x = .returned (.bool true) ∧ Below w.heap.size w w' := by
  have hN := tin_iff.1 hin
  have hL := fun w' hc' => itsLevels_any T b off w' hc' h (by have := hN.lv.le; have := hN.lv.max; omega)
  have HC : Hid _ := hc
  have c0 := hc.c0
  have c1 := hc.c1
  have c2 := hc.c2
  have c4 := hc.c4
  obtain ⟨k, hk⟩ : ∃ k : Nat, T.k = k := ⟨T.k.toNat, by have := h.k0; omega⟩
  have k6 : k ≤ 6 := by have := h.k1; omega
  have tb := ht.tm k (by omega)
  have hal := h.al
  rw [hk, Int.toNat_natCast] at hal
  have hle := hN.le
  have hmx := hN.max
  rw [hal] at c4 hle
  have nz := h.nz
  have sz := h.sz
  rw [hk] at c0 nz sz
  have d0 : decide ((0 : Int) ≤ (k : Int)) = true := decide_eq_true (by omega)
  have d1 : decide ((k : Int) < 7) = true := decide_eq_true (by omega)
  have i0 : (0 : Int) ≤ (k : Int) := by omega
  have i1 : (k : Int) < 7 := by omega
  have d2 : (((argT k : Nat) : Int) == ((argT k : Nat) : Int)) = true := beq_self_eq_true _
  have HL : Hid _ := hL
  generalize T.n = n at *
  generalize T.s = s at *
  generalize T.a = ta at *
  generalize T.c = tc at *
  clear hL hc hin hN h hk hal
  by_cases e0 : k = 0
  · subst e0
    obtain rfl := sz (by omega)
    have dk : (((0 : Nat) : Int) == 0) = true := rfl
    have dn : (n == 0) = true ∨ (n == 0) = false := by cases n == 0 <;> simp
    have ds : ((⟨#[]⟩ : ByteArray) == ⟨#[]⟩) = true := by decide
    rcases dn with dn | dn
    all_goals
      go_enter Tryd.func86, Tryd.ntmps86
      go_wp2_with fail
      go_quiet ((go_at_call 97; exact Calls.quiet_of_same ((HL.out _ (by exact HC.out.carry rfl)).mono fun e w' ⟨h1, h2⟩ => ⟨h1, h2.symm⟩)))
      go_wp2_with fail
      go_ret
      exact ⟨rfl, bel_drewN (Below.refl _ _) _⟩
  · have dk : ((k : Int) == 0) = false := beq_eq_false_iff_ne.2 (by omega)
    obtain rfl := nz (by omega)
    by_cases e2 : k = 2
    · subst e2
      have ds : s.toList = [] ∨ ¬ s.toList = [] := Classical.em _
      rcases ds with ds | ds
      all_goals
        go_enter Tryd.func86, Tryd.ntmps86
        go_wp2_with fail
        go_quiet ((go_at_call 97; exact Calls.quiet_of_same ((HL.out _ (by exact HC.out.carry rfl)).mono fun e w' ⟨h1, h2⟩ => ⟨h1, h2.symm⟩)))
        go_wp2_with fail
        go_ret
        exact ⟨rfl, bel_drewN (Below.refl _ _) _⟩
    · obtain rfl := sz (by omega)
      have ds : ((⟨#[]⟩ : ByteArray) == ⟨#[]⟩) = true := by decide
      go_enter Tryd.func86, Tryd.ntmps86
      go_wp2_with fail
      go_quiet ((go_at_call 97; exact Calls.quiet_of_same ((HL.out _ (by exact HC.out.carry rfl)).mono fun e w' ⟨h1, h2⟩ => ⟨h1, h2.symm⟩)))
      go_wp2_with fail
      go_ret
      exact ⟨rfl, bel_drewN (Below.refl _ _) _⟩

theorem Tabs.below2 {w w' : World} (h : Tabs w) (hb : Below w.heap.size w w') : Tabs w' := h.keep (Keep.of_below (S := fun _ => False) hb (Nat.le_refl _)) (fun _ s => s.elim)

/-- The Levels of a Const, behind j of them. -/
structure WPo (w wr : World) (B g : Nat) (wt : TypeId) (wl : List Value) (q : Option Nat) (bs : Bs) (ls : List Lv) (j : Nat) : Prop where
  ws : ∃ q', WS wr B g wt wl q' (bs ++ eLs (ls.take j)) ∧ (q' = q ∨ ∃ k, q' = some k ∧ w.heap.size ≤ k)
  kp : Keep w wr (fun k => k = g ∨ q = some k)

theorem WP.trans {w w1 w2 : World} {B g : Nat} {wt : TypeId} {wl : List Value} {q q1 : Option Nat} {bs : Bs} {x : Ending} (K : Keep w w1 (fun k => k = g ∨ q = some k)) (Q : q1 = q ∨ ∃ k, q1 = some k ∧ w.heap.size ≤ k) (h : WP w1 B g wt wl q1 bs x w2) : WP w B g wt wl q bs x w2 := by
  obtain ⟨h1, q2, h2, h3, h4⟩ := h
  refine ⟨h1, q2, h2, K.trans h3 (fun i hi e => ?_), ?_⟩
  · rcases e with e | e
    · exact .inl e
    · rcases Q with r | ⟨m, r1, r2⟩
      · rw [r] at e; exact .inr e
      · rw [r1] at e; simp at e; omega
  · rcases h4 with r | ⟨m, r1, r2⟩
    · rw [r]; exact Q
    · exact .inr ⟨m, r1, by have := K.size; omega⟩

set_option maxRecDepth 100000 in
set_option maxHeartbeats 4000000 in
theorem part_any {wt : TypeId} {wl : List Value} (T : Tr) (b off : Nat) (w : World) (B g : Nat) (q : Option Nat) (bs : Bs) (hW : WS w B g wt wl q bs) (ht : Tabs w) (h2 : 2 ≤ B) (hc : TCells w b off T) (hbg : b ≠ g) (hbq : q ≠ some b) (hin : TIn w (· < B) T) (h : WfH T.k T.n T.s T.ls T.args.length) (hs : (bs ++ eHead T.k T.n T.s T.ls).length ≤ 1000000) :
    Calls Tryd.prog 71 #[.pointer (some ⟨g, 0, none⟩), .pointer (some ⟨b, off, none⟩)] w (WP w B g wt wl q (bs ++ eHead T.k T.n T.s T.ls)) := by
  have hbw := hc.lt
  have hB : B ≤ w.heap.size := by have := hW.low; have := hW.lt; omega
  have hF := whole_any T b off w ht _ hc hin h
  obtain ⟨ao, m, mc, B1, hst1⟩ := hW.st
  have s1 := B1.cell (j := 1) rfl
  have lq := fun i hi => (hW.own (k := i) hi).2.1
  have lowg := hW.low
  obtain ⟨k, hk⟩ : ∃ k : Nat, T.k = k := ⟨T.k.toNat, by have := h.k0; omega⟩
  obtain ⟨n, hn⟩ : ∃ n : Nat, T.n = n := ⟨T.n.toNat, by have := h.n0; omega⟩
  have k6 : k ≤ 6 := by have := h.k1; omega
  have n30 : n ≤ 1073741824 := by have := h.n1; omega
  have hs0 : (bs ++ Lib.uvarint k).length ≤ 1000000 := by simp only [eHead, hk, Int.toNat_natCast] at hs; simp at hs ⊢; omega
  have HK : Hid (T.k = (k : Int)) := hk
  have HN : Hid (T.n = (n : Int)) := hn
  clear hk hn
  go_enter Tryd.func71, Tryd.ntmps71
  go_wp2_with fail
  refine hF.mono ?_
  rintro x w2 ⟨rfl, hb2⟩
  have K2 : Keep w w2 (fun _ => False) := Keep.of_below hb2 (Nat.le_refl _)
  have z2 := K2.size
  have W2 := hW.below hb2
  have T2 := ht.below2 hb2
  have c2 := hc.carry (hb2.block b (by omega))
  have i2 := hin.below hb2 hB
  have a0 := c2.c0
  rw [HK.out] at a0
  have hcall := wnum_any B g q bs k w2 W2 (by omega) hs0
  clear hF s1 B1 hst1
  go_wp2_with fail
  refine hcall.mono ?_
  rintro x w3 hP3
  obtain ⟨rfl, q3, W3, K3, Q3⟩ := WP.behind hb2 hP3
  have K3' := hP3.2.choose_spec.2.1
  clear hcall hP3
  have hS3 : ∀ i, (i = g ∨ q = some i) → B ≤ i := by rintro i (e | e); omega; exact lq i e
  have z3 := K3.size
  have c3 := hc.carry (K3.block b (by omega) (fun s => s.elim hbg hbq))
  have i3 := hin.keep K3 hB hS3
  have T3 := ht.keep K3 (fun i s => by have := hS3 i s; omega)
  have b0 := c3.c0
  have b1 := c3.c1
  have b2 := c3.c2
  have b3 := c3.c3
  rw [HK.out] at b0
  rw [HN.out] at b1
  have N3 := (tin_iff.1 i3).lv
  clear K3' a0 c2 i2 T2 W2
  by_cases e0 : k = 0
  · subst e0
    have e : bs ++ eHead T.k T.n T.s T.ls = (bs ++ Lib.uvarint 0) ++ Lib.uvarint n := by rw [HK.out, HN.out]; simp [eHead]
    rw [e] at hs
    have HEQ : Hid _ := e
    clear e
    have hcall := wnum_any B g q3 _ n w3 W3 n30 hs
    go_wp2_with fail
    refine hcall.mono ?_
    rintro x w4 hP4
    have hfin := WP.trans K3 Q3 hP4
    obtain ⟨rfl, hfin'⟩ := hfin
    go_wp2_with fail
    go_end0
    rw [HEQ.out]
    exact ⟨rfl, hfin'⟩
  · have d0 : ((k : Int) == 0) = false := beq_eq_false_iff_ne.2 (by omega)
    by_cases e1 : k = 1
    · subst e1
      have hl1 := h.lv.1 HK.out
      obtain ⟨L, hL⟩ : ∃ L, T.ls[0]? = some L := ⟨_, List.getElem?_eq_getElem (by omega)⟩
      have hls : T.ls = [L] := by
        match hT : T.ls, hl1, hL with
        | [y], _, hL => simp at hL; rw [hL]
      obtain ⟨b', off', k', n', args', a', cap', ea, hS', rfl, x0, x1, x2, M⟩ := N3.get hL
      simp only [Nat.zero_mul, Nat.add_zero] at x0 x1 x2
      obtain ⟨wf1, wf2⟩ := h.wf _ (List.mem_of_getElem? hL)
      have e : bs ++ eHead T.k T.n T.s T.ls = (bs ++ Lib.uvarint 1) ++ eL (.mk k' n' args') := by rw [HK.out, hls]; simp [eHead, eLs]
      rw [e] at hs
      have HEQ : Hid _ := e
      clear e
      rw [ea, hl1] at b3
      have hle := N3.le
      rw [hl1] at hle
      have hcall := wlevel_any _ wf1 w3 B g q3 _ b' off' k' n' args' a' cap' rfl W3 T3 h2 ⟨x0, x1, x2, M⟩ hS' wf2 hs
      go_wp2_with fail
      refine hcall.mono ?_
      rintro x w4 hP4
      have hfin := WP.trans K3 Q3 hP4
      obtain ⟨rfl, hfin'⟩ := hfin
      go_wp2_with fail
      go_end0
      rw [HEQ.out]
      exact ⟨rfl, hfin'⟩
    · have d1 : ((k : Int) == 1) = false := beq_eq_false_iff_ne.2 (by omega)
      by_cases e2 : k = 2
      · subst e2
        have hl3 := h.lv.2.2
        have e : bs ++ eHead T.k T.n T.s T.ls = (((bs ++ Lib.uvarint 2) ++ eX T.s.data.toList) ++ Lib.uvarint T.ls.length) ++ eLs T.ls := by rw [HK.out]; simp [eHead]
        rw [e] at hs
        have HEQ : Hid _ := e
        clear e
        have hwf := h.wf
        have hle := N3.le
        have hmx := N3.max
        obtain ⟨ll, hll⟩ : ∃ ll, T.ls.length = ll := ⟨_, rfl⟩
        have HL : Hid (T.ls.length = ll) := hll
        rw [hll] at hs b3 hle hl3
        rw [hll] at HEQ
        clear hll
        have hs1 : ((bs ++ Lib.uvarint 2) ++ eX T.s.data.toList).length ≤ 1000000 := by simp at hs ⊢; omega
        have hs2 : (((bs ++ Lib.uvarint 2) ++ eX T.s.data.toList) ++ Lib.uvarint ll).length ≤ 1000000 := by simp at hs ⊢; omega
        have hcall := wtext_any B g q3 (bs ++ Lib.uvarint 2) T.s.data.toList w3 W3 hs1
        have es : (⟨T.s.data.toList.toArray⟩ : ByteArray) = T.s := by simp
        rw [es] at hcall
        clear es
        have HI : Hid _ := hin
        have HCc : Hid _ := hc
        have HWF : Hid _ := hwf
        clear hin hc hwf h
        go_wp2_with fail
        refine hcall.mono ?_
        rintro x w4 hP4
        obtain ⟨rfl, q4, W4, K4, Q4⟩ := WP.trans K3 Q3 hP4
        clear hcall hP4 b0 b1 b2 b3 N3 i3 c3 T3 W3 K3 Q3 z3
        have z4 := K4.size
        have c4 := HCc.out.carry (K4.block b (by omega) (fun s => s.elim hbg hbq))
        have b3 := c4.c3
        rw [HL.out] at b3
        have hcall := wnum_any B g q4 _ ll w4 W4 (by omega) hs2
        go_wp2_with fail
        refine hcall.mono ?_
        rintro x w5 hP5
        obtain ⟨rfl, q5, W5, K5, Q5⟩ := WP.trans K4 Q4 hP5
        clear hcall hP5 b3 W4 K4 Q4 z4 c4
        have z5 := K5.size
        have c5 := HCc.out.carry (K5.block b (by omega) (fun s => s.elim hbg hbq))
        have b3 := c5.c3
        rw [HL.out] at b3
        have R0 : WPo w w5 B g wt wl q (((bs ++ Lib.uvarint 2) ++ eX T.s.data.toList) ++ Lib.uvarint ll) T.ls 0 := ⟨⟨q5, by simpa [eLs] using W5, Q5⟩, K5⟩
        clear W5 Q5 K5
        go_wp2_with fail
        go_loopw [63] (fun i wr => ∃ j : Nat, i = .int .i64 (j : Int) ∧ j ≤ ll ∧ WPo w wr B g wt wl q (((bs ++ Lib.uvarint 2) ++ eX T.s.data.toList) ++ Lib.uvarint ll) T.ls j) (fun i _ => ll - (intOf i).toNat)
        case atStart => exact ⟨0, rfl, by omega, R0⟩
        case round =>
          clear R0 b3 c5 z5
          obtain ⟨j, rfl, hj, hP⟩ := hrel
          have zr := hP.kp.size
          have cr := HCc.out.carry (hP.kp.block b (by omega) (fun s => s.elim hbg hbq))
          have ir := HI.out.keep hP.kp hB hS3
          have Tr' := ht.keep hP.kp (fun i s => by have := hS3 i s; omega)
          have Nr := (tin_iff.1 ir).lv
          have b3 := cr.c3
          rw [HL.out] at b3
          obtain ⟨q6, W6, Q6⟩ := hP.ws
          by_cases hlt : j < ll
          · have hdj : decide ((j : Int) < (ll : Int)) = true := decide_eq_true (by omega)
            obtain ⟨y, hy⟩ : ∃ L, T.ls[j]? = some L := ⟨_, List.getElem?_eq_getElem (by rw [HL.out]; exact hlt)⟩
            obtain ⟨b', off', k', n', args', a', cap', ea, hS', rfl, x0, x1, x2, M⟩ := Nr.get hy
            obtain ⟨wf1, wf2⟩ := HWF.out _ (List.mem_of_getElem? hy)
            have het := eLs_take hy
            have hel := eLs_take_le T.ls (j + 1)
            have hcall := wlevel_any _ wf1 wr B g q6 _ b' (off' + j * 3) k' n' args' a' cap' rfl W6 Tr' h2 ⟨x0, x1, x2, M⟩ hS' wf2 (by rw [het] at hel; simp at hel hs ⊢; omega)
            rw [ea] at b3
            have HE : Hid (eLs (T.ls.take (j + 1)) = _) := het
            have e5 : (0 : Int) ≤ (j : Int) := by omega
            have e6 : (j : Int) < (ll : Int) := by omega
            have Kp := hP.kp
            clear hy het hel ea Nr ir cr Tr' hP
            go_wp2_with fail
            refine hcall.mono ?_
            rintro x w7 hP7
            obtain ⟨rfl, q7, W7, K7, Q7⟩ := WP.trans Kp Q6 hP7
            clear hcall
            go_wp2_with fail
            go_roundw
            case rel => exact ⟨j + 1, by go_num, by omega, ⟨q7, by rw [HE.out, ← List.append_assoc]; exact W7, Q7⟩, K7⟩
            case measure => simp [intOf]; omega
          · have hdj : decide ((j : Int) < (ll : Int)) = false := decide_eq_false (by omega)
            obtain rfl : j = ll := by omega
            rw [List.take_of_length_le (by rw [HL.out]; omega)] at W6
            have Kp := hP.kp
            clear hP Nr ir cr Tr'
            go_wp2_with fail
            go_end0
            rw [HEQ.out]
            exact ⟨rfl, q6, W6, Kp, Q6⟩
      · have d2 : ((k : Int) == 2) = false := beq_eq_false_iff_ne.2 (by omega)
        have e : bs ++ eHead T.k T.n T.s T.ls = (bs ++ Lib.uvarint k) := by
          rw [HK.out]; unfold eHead; rw [if_neg (by omega), if_neg (by omega), if_neg (by omega)]; simp
        rw [e] at hs
        have HEQ : Hid _ := e
        clear e
        go_wp2_with fail
        go_end0
        rw [HEQ.out]
        exact ⟨rfl, q3, W3, K3, Q3⟩
end Go.Proofs.YtkbpmpcbajnmlaaDoor
