/- The walk of the program's writer of terms. No condition but that the term is formed as its Kinds ask, lies below, and that what is written stays short. -/
import Derived.Test.YtkbpmpcbajnmlaaDoorWu3
namespace Go.Proofs.YtkbpmpcbajnmlaaDoor
open Go.RowKit Go.Shelf

attribute [local go_sem] Oper.semAt_some

/-- What stands below stays the same. -/
theorem PdOk.on {A A' : World} {B : Nat} {x : Pd} (h : PdOk A B 0 x) (h0 : 0 < B) (hb : ∀ k, k < B → A'.heap[k]? = A.heap[k]?) : PdOk A' B 0 x :=
  ⟨h.cells.carry (hb x.b (h.lt h0)), TIn.carry hb (fun _ e => e) _ h.inn, h.wf, h.at_⟩
theorem ws_int {w : World} {B g : Nat} {wt : TypeId} {wl : List Value} {q : Option Nat} {bs : Bs} (h : WS w B g wt wl q bs) : intAt w ⟨g, 0, none⟩ = bs.length := by
  obtain ⟨ao, n, cap, h1, h2⟩ := h.st
  unfold intAt
  rw [h1.cell (j := 0) rfl]
  rcases h2 with ⟨_, _, h2, _, h3⟩ | ⟨_, _, _, h2⟩
  · rw [h2, h3]; rfl
  · exact h2.len.symm

def valB (ts : List Tr) (i : Nat) : Value := match ts[i]? with | some T => T.val | none => undef
theorem encB_two (ts : List Tr) (i : Nat) : encB ts i = #[.int .i64 (i : Int), valB ts i] := rfl
theorem eTs_lenT (l : List Tr) : l.length ≤ (eTs (l.map Tr.pl)).length := by
  induction l with
  | nil => simp
  | cons x r ih =>
    rw [List.map_cons, eTs, List.length_append, List.length_cons, Tr.pl_eq, eT_mk, List.length_append]
    have := eHead_pos x.k x.n x.s x.ls
    omega

theorem info77s : ∃ i, Tryd.prog.info? 77 = some i ∧ i.zero = some (.pointer none) ∧ i.size = 1 ∧ i.bytes = 8 := by
  have h : (Tryd.prog.info? 77).map (fun i => (i.zero, i.size, i.bytes)) = some (some (.pointer none), 1, 8) := by kernel_rfl
  obtain ⟨i, hi, he⟩ := Option.map_eq_some_iff.1 h
  simp only [Prod.mk.injEq] at he
  exact ⟨i, hi, he⟩

set_option maxRecDepth 100000 in
set_option maxHeartbeats 4000000 in
theorem wterm_any (T : Tr) (b off : Nat) (w : World) (B g : Nat) (q : Option Nat) (bs : Bs) (hW : WS w B g 75 [] q bs) (ht : Tabs w) (h2 : 2 ≤ B) (hc : TCells w b off T) (hb : b < B) (hin : TIn w (· < B) T) (h : WfT T.pl) (hs : (bs ++ eT T.pl).length ≤ 90000) :
    Calls Tryd.prog 39 #[.pointer (some ⟨g, 0, none⟩), .pointer (some ⟨b, off, none⟩)] w (WP w B g 75 [] q (bs ++ eT T.pl)) := by
  have hBw : B ≤ w.heap.size := by have := hW.low; have := hW.lt; omega
  have hsl := hs
  rw [List.length_append] at hsl
  have hpos : 0 < (eT T.pl).length := by rw [Tr.pl_eq, eT_mk, List.length_append]; have := eHead_pos T.k T.n T.s T.ls; omega
  have hin' : TIn w (· < w.heap.size) T := hin.mono (fun k hk => by omega)
  have hwe := weigh_any T b off w ht (by omega) hc hin' h (by omega)
  obtain ⟨ao, m, mc, B1, hst1⟩ := hW.st
  have s0 := B1.cell (j := 0) rfl
  have s1 := B1.cell (j := 1) rfl
  refine (callsIn_wide (n := 9)).1 ?_
  refine callsIn_of_wp_marks Tryd.func39 rfl trivial ?_ rfl
  simp only [Tryd.ntmps39, List.size_toArray, List.length_cons, List.length_nil, Nat.reduceAdd, Nat.reduceSub, Array.replicate_succ, Array.replicate_zero, List.push_toArray, List.append_toArray, List.nil_append, List.cons_append]
  gi_wp2_with fail
  with_reducible refine And.intro (wide_fn 68) ?_
  refine (callsIn_wide.2 hwe).mono ?_
  rintro e w1 ⟨rfl, hb1⟩
  have hW1 := hW.below hb1
  obtain ⟨n, hn⟩ : ∃ n, (eT T.pl).length = n := ⟨_, rfl⟩
  rw [hn]
  have hro := room_any B g q bs w1 hW1 n (by omega)
  clear hwe
  gi_wp2_with fail
  with_reducible refine And.intro (wide_fn 69) ?_
  refine (callsIn_wide.2 hro).mono ?_
  rintro e w1' ⟨rfl, rfl⟩
  clear hro hW1 s0 s1 B1 hst1
  have hW1 := hW.below hb1
  obtain ⟨ao1, m1, mc1, B2, hst2⟩ := hW1.st
  have s0 := B2.cell (j := 0) rfl
  have hQ : QO w1 B q ao1 m1 mc1 bs := hst2
  have hm1 : bs.length = m1 := by
    rcases hst2 with ⟨_, _, h2, _, h3⟩ | ⟨_, _, _, h2⟩
    · rw [h2, h3]; rfl
    · exact h2.len
  have hz1 := hb1.size
  have hgr := grow70_any B q ao1 m1 mc1 n bs w1 hQ (by omega) (by omega) (by omega)
  have HM : Hid _ := hm1
  have HH2 : Hid _ := hst2
  clear hm1 hst2
  gi_wp2_with fail
  with_reducible refine And.intro (wide_fn 70) ?_
  refine (callsIn_wide.2 hgr).mono ?_
  rintro e w2 ⟨q', ao', cap', rfl, hQ2, hb2, hq2⟩
  obtain ⟨hW3, hk3⟩ := ws_grown hW1 B2 hb2 hQ2 hq2
  have f0 := (B2.below hb2 B2.lt).frozen 0
  have c0 := (B2.below hb2 B2.lt).cell (j := 0) rfl
  obtain ⟨w3, hw3⟩ : ∃ w3, w2.setCell ⟨g, 0, none⟩ (.slice ao' m1 cap') = w3 := ⟨_, rfl⟩
  rw [hw3] at hW3 hk3
  clear hgr s0
  gi_wp2_with fail
  have hz3 : w3.heap.size = w2.heap.size := by rw [← hw3]; simp [World.setCell]
  have hz2 := hb2.size
  obtain ⟨w4, hw4, hb4, P0, P1, hz4⟩ := two_newG w3 [.pointer (some ⟨b, off, none⟩)] [.slice (some ⟨w3.heap.size, 0, none⟩) 1 1] 77 109
  rw [hw4]
  have hW4 := hW3.below hb4
  have k4 : Keep w w4 (fun k => k = g ∨ q = some k) := ((Keep.of_below (S := fun k => k = g ∨ q = some k) hb1 (Nat.le_refl _)).trans hk3 (fun _ _ e => e)).trans (Keep.of_below (S := fun k => k = g ∨ q = some k) hb4 (Nat.le_refl _)) (fun _ _ e => e)
  have hX : PdOk w4 B 0 ⟨b, off, T⟩ := PdOk.keep (w := w) ⟨hc, hin, h, .inl hb⟩ (by omega) k4 (fun k e => by
    rcases e with e | e
    · have := hW.low; omega
    · exact (hW.own e).2.1) hBw
  have hS4 : WtS w w4 B g (w3.heap.size + 1) q (bs ++ eT T.pl) [⟨b, off, T⟩] (.slice (some ⟨w3.heap.size, 0, none⟩) 1 1) := by
    refine ⟨⟨q', bs, hW4, by rw [show ([⟨b, off, T⟩] : List Pd) = [] ++ [⟨b, off, T⟩] from rfl, restT_snoc]; simp [restT, eTs], hq2.imp id (fun ⟨k, e1, e2⟩ => ⟨k, e1, by omega⟩)⟩, P1, ⟨rfl, .inr ⟨w3.heap.size, 1, _, rfl, by omega, P0, Nat.le_refl _, by decide, rfl, rfl⟩⟩, fun x hx => by simp at hx; rw [hx]; exact hX, k4, by omega, hBw, h2, ht, ⟨bs, hW⟩⟩
  obtain ⟨go, hgo⟩ : ∃ go, w3.heap.size + 1 = go := ⟨_, rfl⟩
  rw [hgo] at hS4 ⊢
  have HT : Hid (bs.length + (eT T.pl).length ≤ 90000) := hsl
  obtain ⟨bsT, hbsT⟩ : ∃ bsT, bs ++ eT T.pl = bsT := ⟨_, rfl⟩
  have hTl : bsT.length ≤ 90000 := by rw [← hbsT]; exact hs
  rw [hbsT] at hS4
  have HBT : Hid _ := hbsT
  clear hw3 hw4 P0 P1 hX hW4 c0 f0 hQ B2 hgo hz4 hb4 hz3 k4 hW3 hk3 hb2 hQ2 hq2 hz1 hz2 HM HH2 hW1 hb1 hn hsl hs hbsT hin' hpos
  refine wpIn_loop (fun a' W => ∃ x1 x2 x3 x4 x5 x7 x8 x9 x10 x11 x12 x13 x14 x15 x16 x17 x18 x19 x20 x21 x22 x23 x24 x25 x26 x27 x28 x29 x30 x31 x32 x33 x34 x35 x36 x37 x38 x39 x40 x41 x42 x43 x44 x45 x46 x47 x48 x49 x50 x51 x52 x53 x54 x55 x56 x57 x58 x59 x60 x61 x62 x63 x64 x65 x66 x67 x68 x69 x70 x71 ds stk v, a' = { tmps := List.toArray (.pointer (some ⟨g, 0, none⟩) :: x1 :: x2 :: x3 :: x4 :: x5 :: .pointer (some ⟨go, 0, none⟩) :: x7 :: x8 :: x9 :: x10 :: x11 :: x12 :: x13 :: x14 :: x15 :: x16 :: x17 :: x18 :: x19 :: x20 :: x21 :: x22 :: x23 :: x24 :: x25 :: x26 :: x27 :: x28 :: x29 :: x30 :: x31 :: x32 :: x33 :: x34 :: x35 :: x36 :: x37 :: x38 :: x39 :: x40 :: x41 :: x42 :: x43 :: x44 :: x45 :: x46 :: x47 :: x48 :: x49 :: x50 :: x51 :: x52 :: x53 :: x54 :: x55 :: x56 :: x57 :: x58 :: x59 :: x60 :: x61 :: x62 :: x63 :: x64 :: x65 :: x66 :: x67 :: x68 :: x69 :: x70 :: x71 :: []), defers := ds } ∧ WtS w W B g go q bsT stk v ∧ Mks W w.heap.size ds) (fun _ W => bsT.length - intAt W ⟨g, 0, none⟩) ?start ?round
  case start => exact ⟨_, _, _, _, _, _, _, _, _, _, _, _, _, _, _, _, _, _, _, _, _, _, _, _, _, _, _, _, _, _, _, _, _, _, _, _, _, _, _, _, _, _, _, _, _, _, _, _, _, _, _, _, _, _, _, _, _, _, _, _, _, _, _, _, _, _, _, _, _, _, _, _, _, rfl, hS4, Mks.nil _ _⟩
  case round =>
    clear hS4
    rintro a' W ⟨x1, x2, x3, x4, x5, x7, x8, x9, x10, x11, x12, x13, x14, x15, x16, x17, x18, x19, x20, x21, x22, x23, x24, x25, x26, x27, x28, x29, x30, x31, x32, x33, x34, x35, x36, x37, x38, x39, x40, x41, x42, x43, x44, x45, x46, x47, x48, x49, x50, x51, x52, x53, x54, x55, x56, x57, x58, x59, x60, x61, x62, x63, x64, x65, x66, x67, x68, x69, x70, x71, ds, stk, v, rfl, hS, hM⟩
    obtain ⟨q1, bs1, hw1, hbs, hq1⟩ := hS.ws
    obtain ⟨ao1, n1, cap1, hblk1, hst1⟩ := hw1.st
    have hn1 : bs1.length = n1 := by
      rcases hst1 with ⟨_, _, h2, _, h3⟩ | ⟨_, _, _, h2⟩
      · rw [h2, h3]; rfl
      · exact h2.len
    have hmeas : intAt W ⟨g, 0, none⟩ = bs1.length := by
      unfold intAt; rw [hblk1.cell (j := 0) rfl, hn1]
    rcases List.eq_nil_or_concat stk with rfl | ⟨st, x, rfl⟩
    · have hv : ∃ c, v = .slice none 0 c ∨ ∃ k, v = .slice (some ⟨k, 0, none⟩) 0 c := by
        rcases hS.row.2 with ⟨e, _⟩ | ⟨k, c, _, e, _⟩
        · exact ⟨0, .inl e⟩
        · exact ⟨c, .inr ⟨k, e⟩⟩
      have hbs' : bs1 = bsT := by simpa [restT, eTs] using hbs
      subst hbs'
      have HM2 : Hid _ := hM
      have c6 := hS.blk.cell (j := 0) rfl
      rcases hv with ⟨c, (rfl | ⟨k, rfl⟩)⟩
      all_goals
        gi_wp2_with fail
        refine leaves_marks ds _ HM2.out (fun w' hk => ?_)
        have hb9 := HBT.out
        rw [hb9]
        refine ⟨_, results_none rfl _ _ _, rfl, q1, hw1.keep hk (fun e => by have := hW.lt; omega) (fun k e h => hw1.notdef e h.2), hS.kp.trans hk (fun k hk' e => by omega), hq1⟩
    · rw [List.concat_eq_append] at hS hbs
      rw [restT_snoc] at hbs
      have hXo := hS.ok x (by simp)
      have hrow := hS.row
      rw [List.length_append, List.length_singleton] at hrow
      obtain ⟨rk, cap, rfl, hr1, hr2, hr3, hr4⟩ := owns_shape hrow (by omega)
      have hcell : W.cell? ⟨rk, st.length, none⟩ = some x.ptr := by
        obtain ⟨g', e1, _, _, _, _, e2⟩ := owns_cell hrow (i := st.length) (c := x.ptr) (by rw [ptrs_append, List.getElem?_append_right (by simp [ptrs_len])]; simp [ptrs])
        simp at e1; rw [e1]; exact e2
      have hcut : W.ownsRow w.heap.size 77 1 (.slice (some ⟨rk, 0, none⟩) st.length cap) st.length (ptrs st) := owns_cut (ys := [x.ptr]) (by rw [ptrs_append] at hrow; exact hrow) (by simp [ptrs_len]) (by omega)
      have hsl : st.length ≤ 90000 := by
        have h1 := restT_len st
        have h2 := congrArg List.length hbs
        simp only [List.length_append] at h2
        omega
      have hstp : ∀ y ∈ st, PdOk W B 0 y := fun y hy => hS.ok y (by simp [hy])
      have hS0 := hS.hS
      have hlow : ∀ W', Keep w W' (fun k => k = g ∨ q = some k) → ∀ k, k < B → W'.heap[k]? = w.heap[k]? := fun W' hk k hlt => hk.block k (by omega) (fun e => by have := hS0 k e; omega)
      have hgo : rk ≠ go := fun e => by subst e; exact owns_ty hrow hS.blk (by decide) rfl
      have hgoW := hS.blk.lt
      have hgoN := hS.low
      have hgW := hW.lt
      have hgB := hW.low
      have hwW := hS.kp.size
      have hxb := hXo.lt (by omega)
      have hxw : x.b < w.heap.size := Nat.lt_of_lt_of_le hxb hBw
      have hxp : x.ptr = .pointer (some ⟨x.b, x.off, none⟩) := rfl
      rw [hxp] at hcell
      obtain ⟨W1, hW1, hb1, X1, z1⟩ := one_newG W [.pointer (some ⟨x.b, x.off, none⟩)] 77
      have G1 := hS.blk.below hb1 hgoW
      obtain ⟨W2, hW2⟩ : ∃ W2, W1.setCell ⟨go, 0, none⟩ (.slice (some ⟨rk, 0, none⟩) st.length cap) = W2 := ⟨_, rfl⟩
      have k12 : Keep W1 W2 (fun k => k = go) := by rw [← hW2]; exact (Keep.refl W1 (fun k => k = go)).setCell (fun _ => rfl) _ _
      have kW2 : Keep W W2 (fun k => k = go) := (Keep.of_below (S := fun k => k = go) hb1 (Nat.le_refl _)).trans k12 (fun _ _ e => e)
      have G2 : Blk W2 go 109 [.slice (some ⟨rk, 0, none⟩) st.length cap] := by rw [← hW2]; exact G1.set 0 _
      have X2 := X1.keep k12 (by omega)
      have hws2 : WS W2 B g 75 [] q1 bs1 := hw1.keep kW2 (by omega) (fun k e h => by have := hw1.ne hS.blk (by decide); exact this (h ▸ e))
      have hX2 : PdOk W2 B 0 x := hXo.keep (by omega) kW2 (fun k e => by omega) (by omega)
      have kp2 : Keep w W2 (fun k => k = g ∨ q = some k) := hS.kp.trans kW2 (fun k hk e => by omega)
      obtain ⟨hwf, hwfs⟩ := hX2.wf.head
      have hlen := congrArg List.length hbs
      rw [Tr.pl_eq, eT_mk] at hlen
      simp only [List.length_append] at hlen
      have hP := part_any x.t x.b x.off W2 B g q1 bs1 hws2 (ht.keep kp2 (fun k e => by have := hS0 k e; omega)) h2 hX2.cells (by omega) (fun e => by have := (hws2.own e).2.1; omega) hX2.inn hwf (by rw [List.length_append]; omega)
      have hpos := eHead_pos x.t.k x.t.n x.t.s x.t.ls
      obtain ⟨sl, hsle⟩ : ∃ sl, st.length = sl := ⟨_, rfl⟩
      have HSL : Hid _ := hsle
      have c6 := hS.blk.cell (j := 0) rfl
      have c6' := G1.cell (j := 0) rfl
      have f6 := G1.frozen 0
      have c8 := X2.cell (j := 0) rfl
      rw [hsle] at c6 c6' hcell hW2 hsl G2 hcut hr3
      have hd : decide ((0 : Int) < ((sl + 1 : Nat) : Int)) = true := decide_eq_true (by omega)
      have i0 : (0 : Int) ≤ (sl : Int) := by omega
      have i1 : (sl : Int) < (sl : Int) + 1 := by omega
      have i3 : (((sl + 1 : Nat) : Int) - 1) = (sl : Int) := by omega
      have i4 : sl ≤ cap := by omega
      have HBS : Hid (bs1 ++ (eT x.t.pl ++ restT st) = bsT ∧ bs1.length + ((eHead x.t.k x.t.n x.t.s x.t.ls).length + (eTs (x.t.args.map Tr.pl)).length + (restT st).length) = bsT.length ∧ intAt W ⟨g, 0, none⟩ = bs1.length) := ⟨hbs, by omega, hmeas⟩
      have HM2 : Hid _ := hM
      have HS2 : Hid _ := hS
      have hq1lt : ∀ k, q1 = some k → k < W.heap.size := fun k e => (hw1.own e).1
      have hq1g : ∀ k, q1 = some k → k ≠ g := fun k e => (hw1.own e).2.2
      have hm := eTs_lenT x.t.args
      have hal : x.t.args.length ≤ 90000 := by omega
      clear hm
      clear hbs hlen hmeas hM hS hrow hsle hXo G1 X1 hb1 hst1 hblk1 hn1 hw1
      gi_wp2_with fail
      with_reducible refine And.intro (wide_fn 71) ?_
      refine (callsIn_wide.2 hP).mono ?_
      rintro e W3 ⟨rfl, q2, hws3, hk3, hq3⟩
      clear hP hW2 hW1 c8 f6 c6 c6' hcell
      have X3 := X2.keep hk3 (fun e => by
        rcases e with e | e
        · omega
        · have := hq1lt _ e; omega)
      have G3 := G2.keep hk3 (fun e => by
        rcases e with e | e
        · omega
        · exact hws2.ne G2 (by decide) e)
      have kp3 : Keep w W3 (fun k => k = g ∨ q = some k) := kp2.trans hk3 (fun k hk e => by
        rcases e with e | e
        · exact .inl e
        · rcases hq1 with h1 | ⟨k', h1, h3⟩
          · exact .inr (h1 ▸ e)
          · rw [h1] at e; simp at e; omega)
      have hX3 : PdOk W3 B 0 x := hX2.on (by omega) (fun k hk => (hlow _ kp3 k hk).trans (hlow _ kp2 k hk).symm)
      have hz3 := hk3.size
      have hz2 := kW2.size
      have hq2lo : q2 = q ∨ ∃ k, q2 = some k ∧ w.heap.size ≤ k := by
        rcases hq3 with h1 | ⟨k', h1, h3⟩
        · rw [h1]; exact hq1
        · exact .inr ⟨k', h1, by omega⟩
      have hrk3 : W3.heap[rk]? = W.heap[rk]? := (hk3.block rk (by omega) (fun e => by
        rcases e with e | e
        · omega
        · obtain ⟨l, hl⟩ := hws2.qrow e
          have hl' : W.heap[rk]? = some (.cells l.toArray 5 (0, 0)) := (kW2.block rk hr2 (fun e => hgo e)).symm.trans hl
          rcases hcut.2 with ⟨h1, _⟩ | ⟨g', c', cur, h1, _, h3, _⟩
          · cases h1
          · simp at h1
            obtain ⟨rfl, _⟩ := h1
            rw [hl'] at h3
            simp at h3)).trans (kW2.block rk hr2 (fun e => hgo e))
      have hcut3 : W3.ownsRow w.heap.size 77 1 (.slice (some ⟨rk, 0, none⟩) sl cap) sl (ptrs st) := owns_block hcut (fun k e => by simp [Value.ownBlock] at e; subst e; exact hrk3)
      have c8 := X3.cell (j := 0) rfl
      have ca := hX3.cells.c4
      gi_wp2_with fail
      with_reducible refine And.intro (wide_fn 72) ?_
      refine (callsIn_wide.2 (backward_fn _ _ _ W3)).mono ?_
      rintro e W4' ⟨rfl, rfl⟩
      obtain ⟨W4, hW4, hb4, Y4, z4⟩ := one_newG W3 [.slice x.t.a x.t.args.length x.t.c] 31
      dsimp only
      rw [hW4]
      clear hW4
      gi_wp2_with fail
      have hws4 := hws3.below hb4
      have X4 := X3.below hb4 X3.lt
      have G4 := G3.below hb4 G3.lt
      have kp4 : Keep w W4 (fun k => k = g ∨ q = some k) := kp3.trans (Keep.of_below (S := fun _ => False) hb4 (Nat.le_refl _)) (fun _ _ e => e.elim)
      have hX4 : PdOk W4 B 0 x := hX3.on (by omega) (fun k hk => (hlow _ kp4 k hk).trans (hlow _ kp3 k hk).symm)
      have hcut4 : W4.ownsRow w.heap.size 77 1 (.slice (some ⟨rk, 0, none⟩) sl cap) sl (ptrs st) := owns_below hcut3 hb4
      have hall : x.t.args = [] ∨ (x.t.a = some ⟨x.t.b, x.t.off, none⟩ ∧ x.t.b < W4.heap.size ∧ TAll W4 (· < B) x.t.b x.t.off x.t.args) := (tin_iff.1 hX4.inn).all.imp id (fun ⟨h1, h2, h3⟩ => ⟨h1, by omega, h3⟩)
      have hseq := back_seq W3.heap.size x.t.a x.t.args.length x.t.c x.t.b x.t.off x.t.args B W4 z4 (Y4.cell (j := 0) rfl) rfl (by omega) hall
      obtain ⟨ks, hds, hnd, hks⟩ := HM2.out
      have hks4 : ∀ k ∈ ks, W4.heap[k]? = some (.deferred (some [])) := fun k hk => by
        obtain ⟨h1, h3⟩ := hks k hk
        have hlt := (Array.getElem?_eq_some_iff.1 h3).1
        have e2 : W2.heap[k]? = W.heap[k]? := kW2.block k hlt (fun e => by subst e; exact HS2.out.blk.notdef h3)
        have e3 : W3.heap[k]? = W2.heap[k]? := hk3.block k (by omega) (fun e => by
          rcases e with e | e
          · omega
          · exact hws2.notdef e (e2.trans h3))
        exact ((hb4.block k (by omega)).trans (e3.trans e2)).trans h3
      have hC : RgC w B g go q q2 W.heap.size W3.heap.size W4.heap.size ks :=
        ⟨h2, hBw, hgW, hgB, fun k e => (hW.own e).2.1, fun k e => (hws4.own e).1, hgoN, by omega, hwW, by omega, by omega, z4, by omega, fun k hk => ⟨(Array.getElem?_eq_some_iff.1 (hks4 k hk)).1, (hks k hk).1⟩⟩
      have hlow4 : ∀ W', Keep w W' (fun k => k = g ∨ q = some k) → ∀ k, k < B → W'.heap[k]? = W4.heap[k]? := fun W' hk k hlt => (hlow _ hk k hlt).trans (hlow _ kp4 k hlt).symm
      have HDS : Hid _ := hds
      clear hds hks hall
      refine wpIn_rngn (by rfl) enters87 hseq (fun k hk => by
          rcases hk with e | ⟨h1, e⟩
          · omega
          · subst e
            rcases (tin_iff.1 hX4.inn).all with h3 | ⟨_, h3, _⟩
            · rw [h3] at h1; simp at h1
            · omega) (fun _ => rfl)
        (fun pre W' => ∃ v, RgS w B g go q q2 (bs1 ++ eHead x.t.k x.t.n x.t.s x.t.ls) W.heap.size W3.heap.size (.pointer (some ⟨x.b, x.off, none⟩)) W4.heap.size ks (st ++ argsPd x.t pre) v W')
        (fun _ _ _ => False) ?hI ?hIx ?h0 ?hround ?hdone ?hstop
      case hI => exact fun pre A A' ⟨v, h1⟩ _ hk => ⟨v, h1.keep hC hk⟩
      case hIx => exact fun _ _ _ _ h _ => h
      case h0 =>
        refine ⟨_, hws4, G4, ?_, ?_, kp4, ?_, hks4, X4⟩
        · rw [show st ++ argsPd x.t [] = st by simp [argsPd], HSL.out]; exact hcut4
        · rw [show st ++ argsPd x.t [] = st by simp [argsPd]]
          exact fun y hy => (HS2.out.ok y (by simp [hy])).on (by omega) (fun k hk => (hlow _ kp4 k hk).trans (hlow _ HS2.out.kp k hk).symm)
        · intro k e
          simp [Value.ownBlock] at e
          subst e
          refine ⟨by omega, by omega, by omega, by omega⟩
      case hstop => exact fun _ _ _ _ _ h _ => h.elim
      case hround =>
        intro l i W5 K hK
        rw [encB_two]
        generalize valB x.t.args i = tv
        gi_wp2_with fail
        rintro pre rest W6 hxs hz6 ⟨v6, hR⟩
        have hi : i < x.t.args.length := by
          have : i ∈ (List.range x.t.args.length).reverse := by rw [hxs]; simp
          simpa using this
        obtain ⟨U, hU⟩ : ∃ U, x.t.args[i]? = some U := ⟨_, List.getElem?_eq_getElem hi⟩
        have hpl : (st ++ argsPd x.t pre).length ≤ 200000 := by
          have h1 := congrArg List.length hxs
          have h2 : (argsPd x.t pre).length ≤ pre.length := List.length_filterMap_le _ _
          have h3 := HSL.out
          simp at h1
          rw [List.length_append]
          omega
        have kp6 := hR.kp
        obtain ⟨hTa, hTb, hUc, hUi⟩ := hX4.inn.get hU
        have hy4 : PdOk W4 B 0 ⟨x.t.b, x.t.off + i * 5, U⟩ := ⟨hUc, hUi, hwfs U (List.mem_of_getElem? hU), .inl hTb⟩
        have hy := hy4.on (by omega) (hlow4 _ kp6)
        have hXc := (hX4.on (by omega) (hlow4 _ kp6)).cells.c4
        rw [hTa] at hXc
        have cgo := hR.blk.cell (j := 0) rfl
        have cnx := hR.xb.cell (j := 0) rfl
        have j0 : (0 : Int) ≤ (i : Int) := by omega
        have j1 : (i : Int) < (x.t.args.length : Int) := by omega
        obtain ⟨i77, hi7, hz7, hs7, hb7⟩ := info77s
        have hgl := hR.blk.lt
        have hxl := hR.xb.lt
        have hxB : x.b < W6.heap.size := by omega
        apply wpIn_block
        refine wpIn_region_heldr (S := fun w' => w'.cell? ⟨W.heap.size, 0, none⟩ = some (.pointer (some ⟨x.b, x.off, none⟩)) ∧ w'.cell? ⟨x.b, x.off + 4, none⟩ = some (.slice (some ⟨x.t.b, x.t.off, none⟩) x.t.args.length x.t.c)) (by kernel_rfl) (by kernel_rfl) ⟨cnx, hXc⟩ (fun hS => ?_)
        refine wpAnyH_take (i := 1) (v := ?_) rfl (by kernel_rfl) (by kernel_rfl) (by kernel_rfl) (fun _ _ _ h => h) (Or.inl ⟨by rfl, ?_⟩) hS ?_
        rotate_left
        · (intro wq hq; obtain ⟨g1, g2⟩ := hq; go_simp; (try with_reducible rfl))
        simp only [Act.put, List.getElem_toArray, List.getElem_cons_succ, List.getElem_cons_zero, List.setIfInBounds_toArray, List.set_cons_zero, List.set_cons_succ]
        refine wpAnyH_take (i := 2) (v := ?_) rfl (by kernel_rfl) (by kernel_rfl) (by kernel_rfl) (fun _ _ _ h => h) (Or.inl ⟨by rfl, ?_⟩) hS ?_
        rotate_left
        · (intro wq hq; obtain ⟨g1, g2⟩ := hq; go_simp; (try with_reducible rfl))
        simp only [Act.put, List.getElem_toArray, List.getElem_cons_succ, List.getElem_cons_zero, List.setIfInBounds_toArray, List.set_cons_zero, List.set_cons_succ]
        refine wpAnyH_take (i := 3) (v := ?_) rfl (by kernel_rfl) (by kernel_rfl) (by kernel_rfl) (fun _ _ _ h => h) (Or.inl ⟨by rfl, ?_⟩) hS ?_
        rotate_left
        · (intro wq hq; obtain ⟨g1, g2⟩ := hq; go_simp; (try with_reducible rfl))
        simp only [Act.put, List.getElem_toArray, List.getElem_cons_succ, List.getElem_cons_zero, List.setIfInBounds_toArray, List.set_cons_zero, List.set_cons_succ]
        refine wpAnyH_take (i := 4) (v := ?_) rfl (by kernel_rfl) (by kernel_rfl) (by kernel_rfl) (fun _ _ _ h => h) (Or.inl ⟨by rfl, ?_⟩) hS ?_
        rotate_left
        · (intro wq hq; obtain ⟨g1, g2⟩ := hq; go_simp; (try with_reducible rfl))
        simp only [Act.put, List.getElem_toArray, List.getElem_cons_succ, List.getElem_cons_zero, List.setIfInBounds_toArray, List.set_cons_zero, List.set_cons_succ]
        refine wpAnyH_take (i := 5) (v := ?_) rfl (by kernel_rfl) (by kernel_rfl) (by kernel_rfl) (fun _ _ _ h => h) (Or.inl ⟨by rfl, ?_⟩) hS ?_
        rotate_left
        · (intro wq hq; obtain ⟨g1, g2⟩ := hq; go_simp; (try with_reducible rfl))
        simp only [Act.put, List.getElem_toArray, List.getElem_cons_succ, List.getElem_cons_zero, List.setIfInBounds_toArray, List.set_cons_zero, List.set_cons_succ]
        refine wpAnyH_take (i := 6) (v := ?_) rfl (by kernel_rfl) (by kernel_rfl) (by kernel_rfl) (fun _ _ _ h => h) (Or.inl ⟨by rfl, ?_⟩) hS ?_
        rotate_left
        · (intro wq hq; obtain ⟨g1, g2⟩ := hq; go_simp; (try with_reducible rfl))
        simp only [Act.put, List.getElem_toArray, List.getElem_cons_succ, List.getElem_cons_zero, List.setIfInBounds_toArray, List.set_cons_zero, List.set_cons_succ]
        refine wpAnyH_ready (rs := [0, 7]) (by kernel_rfl) (by simp) ?_
        refine AllReadyH.cons rfl (fun K hK => ?_) (AllReadyH.cons rfl (fun K hK => ?_) AllReadyH.nil)
        · go_simp
          refine hK.out _ _ hS (fun hS => ?_)
          clear hK K
          refine wpAnyH_ready (rs := [7]) (by kernel_rfl) (by simp) ?_
          refine AllReadyH.cons rfl (fun K hK => ?_) AllReadyH.nil
          obtain ⟨Wa, hWa, hba, Pa, za⟩ := one_newG W6.drew [.pointer (some ⟨x.t.b, x.t.off + i * 5, none⟩)] 77
          have hba' : Below W6.heap.size W6 Wa := (bel_drewG (Below.refl W6.heap.size W6)).trans hba
          have cg7 := (hR.blk.below hba' hgl).cell (j := 0) rfl
          have cn7 := (hR.xb.below hba' hxl).cell (j := 0) rfl
          have cX7 := ((World.cell?_of_block (hba'.block x.b hxB)).trans hXc : Wa.cell? ⟨x.b, x.off + 4, none⟩ = _)
          have hrow7 := owns_below hR.row hba'
          go_simp
          refine hK.out _ _ ⟨cn7, cX7⟩ (fun hS => ?_)
          clear hK K
          refine wpAnyH_ready (rs := [8]) (by kernel_rfl) (by simp) ?_
          refine AllReadyH.cons rfl (fun K hK => ?_) AllReadyH.nil
          refine step_append_own (by rfl) (.tmp 63) (.tmp 70) 109 (by rfl) w.heap.size 77 i77 _ 1 8 Tryd.underlying109 hi7 hz7 hs7 hb7 (by rfl) (by decide) v6 (st ++ argsPd x.t pre).length (ptrs (st ++ argsPd x.t pre)) (by rfl) hrow7 ⟨W6.heap.size, 0, none⟩ 1 1 [.pointer (some ⟨x.t.b, x.t.off + i * 5, none⟩)] (by rfl) (by rfl) (fun i u hu => by rw [Addr.add_lit, Nat.zero_add]; exact Pa.cell hu) (by simp [Value.oneCell']) (by unfold maxLen; omega) (by omega) (Nat.le_trans kp6.size hba'.size) (by decide) ?_
          intro v' W8 ho8 hg8 hn8
          obtain ⟨hR9, hK9⟩ := hR.push hC (by omega) hba' ho8 hg8 hn8 hy
          have hv6 : ∀ k, v6.ownBlock = some k → k ≠ W.heap.size ∧ k ≠ x.b ∧ k ≠ go := fun k e => ⟨(hR.nb k e).2.2.1, fun h => by have h1 := (owns_own hR.row e).1; rw [h] at h1; exact absurd h1 (Nat.not_le.2 hxw), fun h => owns_ty hR.row hR.blk (by decide) (h ▸ e)⟩
          have h8 : ∀ k, k < W6.heap.size → (∀ j, v6.ownBlock = some j → j ≠ k) → W8.heap[k]? = W6.heap[k]? := fun k hk hv => (hg8.block k (Nat.lt_of_lt_of_le hk hba'.size) (fun e => hv k e.symm rfl)).trans (hba'.block k hk)
          have cn8 : W8.cell? ⟨W.heap.size, 0, none⟩ = some (.pointer (some ⟨x.b, x.off, none⟩)) := (World.cell?_of_block (h8 _ hxl (fun j e => (hv6 j e).1))).trans cnx
          have cX8 : W8.cell? ⟨x.b, x.off + 4, none⟩ = some (.slice (some ⟨x.t.b, x.t.off, none⟩) x.t.args.length x.t.c) := (World.cell?_of_block (h8 _ hxB (fun j e => (hv6 j e).2.1))).trans hXc
          have B8 := hR.blk.carry (h8 _ hgl (fun j e => (hv6 j e).2.2))
          have cg8 := B8.cell (j := 0) rfl
          have fg8 := B8.frozen 0
          obtain ⟨g8, c8', hve, hg81, hg82, hg83, hg84⟩ := owns_shape ho8 (by omega)
          rw [hve] at hR9 hK9 ⊢
          refine hK.out _ _ ⟨cn8, cX8⟩ (fun hS => ?_)
          clear hK K
          refine wpAnyH_ready (rs := [9]) (by kernel_rfl) (by simp) ?_
          refine AllReadyH.cons rfl (fun K hK => ?_) AllReadyH.nil
          go_simp
          rw [show st.length + (argsPd x.t pre).length + 1 = (st ++ argsPd x.t pre).length + 1 by rw [List.length_append]]
          refine hK.out _ _ ⟨hR9.xb.cell (j := 0) rfl, (by have h9 := (hX4.on (by omega) (hlow4 _ hR9.kp)).cells.c4; rw [hTa] at h9; exact h9)⟩ (fun hS => ?_)
          clear hK K
          refine wpAnyH_done (by kernel_rfl) ?_ _
          refine ⟨hK9.mono (fun k e => ?_), .slice (some ⟨g8, 0, none⟩) ((st ++ argsPd x.t pre).length + 1) c8', ?_⟩
          · rcases e with e | e
            · exact ⟨fun h => by rcases h with h | ⟨_, h⟩ <;> omega, by omega, by omega⟩
            · obtain ⟨n1, n2, n3, n4⟩ := hR.nb k e
              have h1 := (owns_own hR.row e).1
              exact ⟨fun h => by rcases h with h | ⟨_, h⟩ <;> omega, n1, n2⟩
          · rw [argsPd_append, argsPd_one hU, ← List.append_assoc]
            exact hR9
        · obtain ⟨Wa, hWa, hba, Pa, za⟩ := one_newG W6.drew [.pointer (some ⟨x.t.b, x.t.off + i * 5, none⟩)] 77
          have hba' : Below W6.heap.size W6 Wa := (bel_drewG (Below.refl W6.heap.size W6)).trans hba
          have cg7 := (hR.blk.below hba' hgl).cell (j := 0) rfl
          have cn7 := (hR.xb.below hba' hxl).cell (j := 0) rfl
          have cX7 := ((World.cell?_of_block (hba'.block x.b hxB)).trans hXc : Wa.cell? ⟨x.b, x.off + 4, none⟩ = _)
          have hrow7 := owns_below hR.row hba'
          go_simp
          refine hK.out _ _ ⟨cn7, cX7⟩ (fun hS => ?_)
          clear hK K
          refine wpAnyH_ready (rs := [0]) (by kernel_rfl) (by simp) ?_
          refine AllReadyH.cons rfl (fun K hK => ?_) AllReadyH.nil
          go_simp
          refine hK.out _ _ hS (fun hS => ?_)
          clear hK K
          refine wpAnyH_ready (rs := [8]) (by kernel_rfl) (by simp) ?_
          refine AllReadyH.cons rfl (fun K hK => ?_) AllReadyH.nil
          refine step_append_own (by rfl) (.tmp 63) (.tmp 70) 109 (by rfl) w.heap.size 77 i77 _ 1 8 Tryd.underlying109 hi7 hz7 hs7 hb7 (by rfl) (by decide) v6 (st ++ argsPd x.t pre).length (ptrs (st ++ argsPd x.t pre)) (by rfl) hrow7 ⟨W6.heap.size, 0, none⟩ 1 1 [.pointer (some ⟨x.t.b, x.t.off + i * 5, none⟩)] (by rfl) (by rfl) (fun i u hu => by rw [Addr.add_lit, Nat.zero_add]; exact Pa.cell hu) (by simp [Value.oneCell']) (by unfold maxLen; omega) (by omega) (Nat.le_trans kp6.size hba'.size) (by decide) ?_
          intro v' W8 ho8 hg8 hn8
          obtain ⟨hR9, hK9⟩ := hR.push hC (by omega) hba' ho8 hg8 hn8 hy
          have hv6 : ∀ k, v6.ownBlock = some k → k ≠ W.heap.size ∧ k ≠ x.b ∧ k ≠ go := fun k e => ⟨(hR.nb k e).2.2.1, fun h => by have h1 := (owns_own hR.row e).1; rw [h] at h1; exact absurd h1 (Nat.not_le.2 hxw), fun h => owns_ty hR.row hR.blk (by decide) (h ▸ e)⟩
          have h8 : ∀ k, k < W6.heap.size → (∀ j, v6.ownBlock = some j → j ≠ k) → W8.heap[k]? = W6.heap[k]? := fun k hk hv => (hg8.block k (Nat.lt_of_lt_of_le hk hba'.size) (fun e => hv k e.symm rfl)).trans (hba'.block k hk)
          have cn8 : W8.cell? ⟨W.heap.size, 0, none⟩ = some (.pointer (some ⟨x.b, x.off, none⟩)) := (World.cell?_of_block (h8 _ hxl (fun j e => (hv6 j e).1))).trans cnx
          have cX8 : W8.cell? ⟨x.b, x.off + 4, none⟩ = some (.slice (some ⟨x.t.b, x.t.off, none⟩) x.t.args.length x.t.c) := (World.cell?_of_block (h8 _ hxB (fun j e => (hv6 j e).2.1))).trans hXc
          have B8 := hR.blk.carry (h8 _ hgl (fun j e => (hv6 j e).2.2))
          have cg8 := B8.cell (j := 0) rfl
          have fg8 := B8.frozen 0
          obtain ⟨g8, c8', hve, hg81, hg82, hg83, hg84⟩ := owns_shape ho8 (by omega)
          rw [hve] at hR9 hK9 ⊢
          refine hK.out _ _ ⟨cn8, cX8⟩ (fun hS => ?_)
          clear hK K
          refine wpAnyH_ready (rs := [9]) (by kernel_rfl) (by simp) ?_
          refine AllReadyH.cons rfl (fun K hK => ?_) AllReadyH.nil
          go_simp
          rw [show st.length + (argsPd x.t pre).length + 1 = (st ++ argsPd x.t pre).length + 1 by rw [List.length_append]]
          refine hK.out _ _ ⟨hR9.xb.cell (j := 0) rfl, (by have h9 := (hX4.on (by omega) (hlow4 _ hR9.kp)).cells.c4; rw [hTa] at h9; exact h9)⟩ (fun hS => ?_)
          clear hK K
          refine wpAnyH_done (by kernel_rfl) ?_ _
          refine ⟨hK9.mono (fun k e => ?_), .slice (some ⟨g8, 0, none⟩) ((st ++ argsPd x.t pre).length + 1) c8', ?_⟩
          · rcases e with e | e
            · exact ⟨fun h => by rcases h with h | ⟨_, h⟩ <;> omega, by omega, by omega⟩
            · obtain ⟨n1, n2, n3, n4⟩ := hR.nb k e
              have h1 := (owns_own hR.row e).1
              exact ⟨fun h => by rcases h with h | ⟨_, h⟩ <;> omega, n1, n2⟩
          · rw [argsPd_append, argsPd_one hU, ← List.append_assoc]
            exact hR9
      case hdone =>
        rintro W7 hz7 ⟨v7, hR⟩ hD
        have hks7 := hR.mks
        have kp7 := hR.kp
        have hMk : Mks W7 w.heap.size ({ target := .collected W4.heap.size, args := #[] } :: ds) := by
          rw [HDS.out]
          refine ⟨W4.heap.size :: ks, rfl, List.nodup_cons.2 ⟨fun hm => ?_, hnd⟩, fun k hk => ?_⟩
          · have := (hC.mN _ hm).1; omega
          · rcases List.mem_cons.1 hk with rfl | hk
            · exact ⟨by omega, hD⟩
            · exact ⟨(hC.mN _ hk).2, hks7 k hk⟩
        have hWt : WtS w W7 B g go q bsT (st ++ argsPd x.t (List.range x.t.args.length).reverse) v7 := by
          refine ⟨⟨q2, _, hR.ws, ?_, hq2lo⟩, hR.blk, hR.row, hR.ok, kp7, hgoN, hBw, h2, ht, HS2.out.ent⟩
          rw [argsPd_rest, ← HBS.out.1, Tr.pl_eq, eT_mk, List.append_assoc, List.append_assoc]
        have hme := ws_int hR.ws
        rw [List.length_append] at hme
        have HME : Hid _ := hme
        have HWT : Hid _ := hWt
        have HMK : Hid _ := hMk
        clear hme hWt hMk hR hks7 kp7 hD
        gi_wp2_with fail
        exact ⟨⟨_, _, _, _, _, _, _, _, _, _, _, _, _, _, _, _, _, _, _, _, _, _, _, _, _, _, _, _, _, _, _, _, _, _, _, _, _, _, _, _, _, _, _, _, _, _, _, _, _, _, _, _, _, _, _, _, _, _, _, _, _, _, _, _, _, _, _, _, _, _, _, _, _, rfl, HWT.out, HMK.out⟩, by have h1 := HME.out; have h3 := HBS.out.2; omega⟩
end Go.Proofs.YtkbpmpcbajnmlaaDoor
