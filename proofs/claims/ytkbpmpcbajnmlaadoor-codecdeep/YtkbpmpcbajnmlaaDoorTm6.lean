/- The walk of the program's reader of terms, its closure: what it tells is what the plain function tells. One of its ways. -/
import Derived.Test.YtkbpmpcbajnmlaaDoorTm3
import Derived.Deep.RegionHeld3
namespace Go.Proofs.YtkbpmpcbajnmlaaDoor
open Go.RowKit

set_option maxRecDepth 100000 in
set_option maxHeartbeats 4000000 in
theorem tm51_more (f : Nat) (hf : f ≤ 100) (hto : ∀ f', f = f' + 1 → TO f') (B g gb gp gf : Nat) (st : Er (Nat × Bs)) (w : World) (h : TS w B g gb gp gf st) (p : Int) (hp : Blk w gp 3 [.int .i64 p]) (hst : ∀ x, st = .ok x → p = (x.1 : Int) ∧ x.1 ≤ 2000) (h4 : 3 ≤ (tmX f st p).told 0) :
    Calls Tryd.prog 51 #[.int .i64 (101 - (f : Int)), .pointer (some ⟨gb, 0, none⟩), .pointer (some ⟨gp, 0, none⟩), .pointer (some ⟨gf, 0, none⟩)] w (TOP w B g gb gp gf (st.bind (rTm f))) := by
  obtain ⟨l1, l2, l3, l4, l5⟩ := h.lts
  have htwo := h.two
  obtain ⟨w1, hw1, hb1, P1, Q1, hs1⟩ := two_newG w [.int .i64 (101 - (f : Int))] [.int .i64 0, .int .i64 0, .string { data := #[] }, .slice none 0 0, .slice none 0 0] 3 33
  have K1 : Keep w w1 (fun _ => False) := Keep.of_below hb1 (Nat.le_refl _)
  have h1 := h.keep K1 (fun _ s => s.elim) id id id id
  have hp1 := hp.keep K1 id
  have b0 := h1.box.cell (j := 0) rfl
  have pc := hp1.cell (j := 0) rfl
  have dc := P1.cell (j := 0) rfl
  have hB := begin_any B g st.snd (p == 2000) (decide (100 < 101 - (f : Int))) w1 h1.rd
  go_enter Tryd.func51, Tryd.ntmps51
  go_wp2_with fail
  refine hB.mono ?_
  rintro x w2 ⟨rfl, R2, K2⟩
  have h2p := hp1.keep K2 (fun e => h.n2 e.symm)
  have pc2 := h2p.cell (j := 0) rfl
  have pf2 := h2p.frozen 0
  have K3 : Keep w2 (w2.setCell ⟨gp, 0, none⟩ (.int .i64 (wrap64 (p + 1)))) (· = gp) := (Keep.refl w2 (· = gp)).setCell (fun _ => rfl) 0 _
  have h3p := h2p.set 0 (.int .i64 (wrap64 (p + 1)))
  have R3 := R2.keep K3 h.n2 (fun k hk => by rw [hk]; exact h.lowp)
  have b3 := ((h1.box.keep K2 (fun e => h.n1 e.symm)).keep K3 (fun e => h.n4 e.symm)).cell (j := 0) rfl
  have hKd := kind_any B g _ 0 6 (by omega) (by omega) _ R3
  have hk4 := kind_told (st.snd.fail (beg (p == 2000) (decide (100 < 101 - (f : Int))))) 0 6
  change (tmX f st p).told 0 ≤ 6 at hk4
  change Calls Tryd.prog 46 _ _ (fun x w' => x = .returned (.int .i64 (((tmX f st p).told 0 : Nat) : Int)) ∧ RSx w' B g (tmX f st p).rest ∧ _) at hKd
  clear hB
  go_wp2_with fail
  refine hKd.mono ?_
  rintro x w4 ⟨rfl, R4, K4⟩
  have K24 : Keep w1 w4 (fun k => k = g ∨ k = gp) := ((K2.mono (fun _ e => .inl e)).trans K3 (fun _ _ e => .inr e)).trans K4 (fun _ _ e => .inl e)
  have h4S : TS w4 B g gb gp gf (lvS (tmX f st p) p.toNat) := h1.move K24 (lvS_rest R4) (tmS_cnt hst (h3p.keep K4 (fun e => h.n2 e.symm)))
  have P4 := P1.keep K24 (by omega)
  have Q4 := Q1.keep K24 (by omega)
  have HX := tm_more (f := f) (fun x hx => (hst x hx).1) h4
  have z1 := K1.size
  have z4 := K24.size
  obtain ⟨kk, hkk⟩ : ∃ kk, (tmX f st p).told 0 = kk := ⟨_, rfl⟩
  rw [hkk] at hk4 h4 HX
  rw [hkk]
  have HX' : Hid _ := HX
  have hpos : 0 < argT kk → 0 < f := fun _ => by
    rcases tm_begin (f := f) (fun x hx => (hst x hx).1) with ⟨c, _, hX⟩ | ⟨q, bs, c, _, _, hX, _⟩ | ⟨q, bs, f', _, hf', _⟩
    · rw [hX] at hkk; simp only [Er.told] at hkk; omega
    · rw [hX] at hkk; simp only [Er.told] at hkk; omega
    · omega
  have hav : argT kk ≤ 3 := by unfold argT; split <;> (try split) <;> omega
  have hd0 : ((kk : Int) == 0) = false := beq_eq_false_iff_ne.2 (by omega)
  have hd1 : ((kk : Int) == 1) = false := beq_eq_false_iff_ne.2 (by omega)
  have hd2 : ((kk : Int) == 2) = false := beq_eq_false_iff_ne.2 (by omega)
  have i0 : (0 : Int) ≤ (kk : Int) := by omega
  have i1 : (kk : Int) < 7 := by omega
  have K5 : Keep w4 (w4.alloc (.cells #[.int .i64 (kk : Int), .int .i64 0, .string { data := #[] }, .slice none 0 0, .slice none 0 0] 33)) (fun _ => False) := (Keep.refl w4 _).alloc _
  have S5 := h4S.keep K5 (fun _ s => s.elim) id id id id
  have X5 := Blk.new w4 33 [.int .i64 (kk : Int), .int .i64 0, .string { data := #[] }, .slice none 0 0, .slice none 0 0]
  have P5 := P4.keep K5 id
  have Q5 := Q4.keep K5 id
  have zs5 : (w4.alloc (.cells #[.int .i64 (kk : Int), .int .i64 0, .string { data := #[] }, .slice none 0 0, .slice none 0 0] 33)).heap.size = w4.heap.size + 1 := by simp
  have tc := S5.tabs.tm kk (by omega)
  have hsev := sev_terms f (argT kk) hav hf hto hpos B g gb gp gf w.heap.size _ _ S5 P5 (by omega) (by omega)
  rw [zs5] at hsev
  clear HX hkk R4 hKd hp1 h2p h3p pc pc2 pf2 b0 b3 dc R2 R3 hw1 P1 Q1
  go_wp2_with fail
  refine hsev.mono ?_
  rintro x w6 ⟨v, ps, cs, rfl, hls, hG, S6, O6, K6⟩
  obtain ⟨ts, a, c, b, hmap, rfl, ha1, ha2, ha3⟩ := hG.targs
  clear hG hsev
  obtain ⟨tl, htl⟩ : ∃ tl, ts.length = tl := ⟨_, rfl⟩
  have HTL : Hid _ := htl
  rw [htl]
  clear htl
  have X6 := X5.keep K6 (by omega)
  have Q6 := Q5.keep K6 (by omega)
  have x0 := X6.cell (j := 0) rfl
  have x1 := X6.cell (j := 1) rfl
  have x2 := X6.cell (j := 2) rfl
  have x3 := X6.cell (j := 3) rfl
  have x4 := X6.cell (j := 4) rfl
  have xf := X6.frozen 4
  have K7 : Keep w6 (w6.setCell ⟨w4.heap.size, 4, none⟩ (.slice a tl c)) (· = w4.heap.size) := (Keep.refl w6 (· = w4.heap.size)).setCell (fun _ => rfl) 4 _
  have Q7 := Q6.keep K7 (by omega)
  have q0 := Q7.cell (j := 0) rfl
  have q1 := Q7.cell (j := 1) rfl
  have q2 := Q7.cell (j := 2) rfl
  have q3 := Q7.cell (j := 3) rfl
  have q4 := Q7.cell (j := 4) rfl
  have qf0 := Q7.frozen 0
  have qf1 := Q7.frozen 1
  have qf2 := Q7.frozen 2
  have qf3 := Q7.frozen 3
  have qf4 := Q7.frozen 4
  clear tc
  go_wp2_with fail
  obtain ⟨Q8, K8⟩ := st5G Q7 (.int .i64 (kk : Int)) (.int .i64 0) (.string { data := #[] }) (.slice none 0 0) (.slice a tl c)
  have d0 := Q8.cell (j := 0) rfl
  have d1 := Q8.cell (j := 1) rfl
  have d2 := Q8.cell (j := 2) rfl
  have d3 := Q8.cell (j := 3) rfl
  have d4 := Q8.cell (j := 4) rfl
  have z5 := K5.size
  have z6 := K6.size
  have z7 := K7.size
  have z8 := K8.size
  have K68 : Keep w6 _ (fun k => k = w4.heap.size ∨ k = w.heap.size + 1) := (K7.mono (fun _ e => .inl e)).trans K8 (fun _ _ e => .inr e)
  refine bodyPost_ret (v := .agg #[.int .i64 (kk : Int), .int .i64 0, .string { data := #[] }, .slice none 0 0, .slice a tl c]) (by simp [results, Tryd.results51, go_sem, d0, d1, d2, d3, d4]) rfl ⟨.mk (kk : Int) 0 { data := #[] } [] ps, .mk (kk : Int) 0 { data := #[] } [] none 0 a c b 0 ts, ?_, ?_, fun y hy => ?_, ?_, ?_⟩
  · rw [← HTL.out]; rfl
  · rw [HX'.out, snd_map _ (fun l => Pm.mk (kk : Int) 0 ⟨#[]⟩ [] l)]
    exact S6.keep K68 (fun k hk => by omega) (by omega) (by omega) (by omega) (by omega)
  · rw [HX'.out] at hy
    cases hm : (lvS (tmX f st p) p.toNat).bind (rMany (rTm (f - 1)) (argT kk)) with
    | bad c => rw [hm] at hy; cases hy
    | ok u =>
      rw [hm] at hy
      simp only [Er.bind, Er.ok.injEq] at hy
      subst hy
      simp only
      rw [O6 u hm]
  · refine ⟨.mk (kk : Int) 0 { data := #[] } [] none 0 a c b 0 ts, ?_, ?_, ?_⟩
    · rw [Tr.pl_eq]; simp only [Tr.k, Tr.n, Tr.s, Tr.ls, Tr.args, hmap]
    · simp only [Tr.cells, Tr.k, Tr.n, Tr.s, Tr.la, Tr.ls, Tr.lc, Tr.a, Tr.args, Tr.c, List.length_nil]
    · refine tr_made ⟨by omega, by omega⟩ ⟨by omega, by omega⟩ (node_none _ _) ha1 ha2 ?_
      rcases ha3 with h0 | ⟨e1, e2, e3⟩
      · exact .inl h0
      · exact .inr ⟨e1, ⟨by omega, by omega⟩, e3.carry e2 (fun b hb => K68.block b hb.2 (by omega)) (fun b hb => ⟨by omega, by omega⟩)⟩
  · exact ((((K1.mono (fun _ s => s.elim)).trans K24 (fun _ _ s => s)).trans K5 (fun _ _ s => s.elim)).trans K6 (fun _ _ s => s)).trans K68 (fun i hi s => by omega)
end Go.Proofs.YtkbpmpcbajnmlaaDoor

/- The walk of the program's reader of terms, its closure: what it tells is what the plain function tells. One of its ways. -/
namespace Go.Proofs.YtkbpmpcbajnmlaaDoor
open Go.RowKit

set_option maxRecDepth 100000 in
set_option maxHeartbeats 4000000 in
theorem tm51_zero (f : Nat) (hf : f ≤ 100) (hto : ∀ f', f = f' + 1 → TO f') (B g gb gp gf : Nat) (st : Er (Nat × Bs)) (w : World) (h : TS w B g gb gp gf st) (p : Int) (hp : Blk w gp 3 [.int .i64 p]) (hst : ∀ x, st = .ok x → p = (x.1 : Int) ∧ x.1 ≤ 2000) (h4 : (tmX f st p).told 0 = 0) :
    Calls Tryd.prog 51 #[.int .i64 (101 - (f : Int)), .pointer (some ⟨gb, 0, none⟩), .pointer (some ⟨gp, 0, none⟩), .pointer (some ⟨gf, 0, none⟩)] w (TOP w B g gb gp gf (st.bind (rTm f))) := by
  obtain ⟨l1, l2, l3, l4, l5⟩ := h.lts
  have htwo := h.two
  obtain ⟨w1, hw1, hb1, P1, Q1, hs1⟩ := two_newG w [.int .i64 (101 - (f : Int))] [.int .i64 0, .int .i64 0, .string { data := #[] }, .slice none 0 0, .slice none 0 0] 3 33
  have K1 : Keep w w1 (fun _ => False) := Keep.of_below hb1 (Nat.le_refl _)
  have h1 := h.keep K1 (fun _ s => s.elim) id id id id
  have hp1 := hp.keep K1 id
  have b0 := h1.box.cell (j := 0) rfl
  have pc := hp1.cell (j := 0) rfl
  have dc := P1.cell (j := 0) rfl
  have hB := begin_any B g st.snd (p == 2000) (decide (100 < 101 - (f : Int))) w1 h1.rd
  go_enter Tryd.func51, Tryd.ntmps51
  go_wp2_with fail
  refine hB.mono ?_
  rintro x w2 ⟨rfl, R2, K2⟩
  have h2p := hp1.keep K2 (fun e => h.n2 e.symm)
  have pc2 := h2p.cell (j := 0) rfl
  have pf2 := h2p.frozen 0
  have K3 : Keep w2 (w2.setCell ⟨gp, 0, none⟩ (.int .i64 (wrap64 (p + 1)))) (· = gp) := (Keep.refl w2 (· = gp)).setCell (fun _ => rfl) 0 _
  have h3p := h2p.set 0 (.int .i64 (wrap64 (p + 1)))
  have R3 := R2.keep K3 h.n2 (fun k hk => by rw [hk]; exact h.lowp)
  have b3 := ((h1.box.keep K2 (fun e => h.n1 e.symm)).keep K3 (fun e => h.n4 e.symm)).cell (j := 0) rfl
  have hKd := kind_any B g _ 0 6 (by omega) (by omega) _ R3
  have hk4 := kind_told (st.snd.fail (beg (p == 2000) (decide (100 < 101 - (f : Int))))) 0 6
  change (tmX f st p).told 0 ≤ 6 at hk4
  change Calls Tryd.prog 46 _ _ (fun x w' => x = .returned (.int .i64 (((tmX f st p).told 0 : Nat) : Int)) ∧ RSx w' B g (tmX f st p).rest ∧ _) at hKd
  clear hB
  go_wp2_with fail
  refine hKd.mono ?_
  rintro x w4 ⟨rfl, R4, K4⟩
  have K24 : Keep w1 w4 (fun k => k = g ∨ k = gp) := ((K2.mono (fun _ e => .inl e)).trans K3 (fun _ _ e => .inr e)).trans K4 (fun _ _ e => .inl e)
  have h4S : TS w4 B g gb gp gf (lvS (tmX f st p) p.toNat) := h1.move K24 (lvS_rest R4) (tmS_cnt hst (h3p.keep K4 (fun e => h.n2 e.symm)))
  have P4 := P1.keep K24 (by omega)
  have Q4 := Q1.keep K24 (by omega)
  have HX := tm_zero (f := f) (fun x hx => (hst x hx).1) h4
  have z1 := K1.size
  have z4 := K24.size
  rw [h4]
  have K5 : Keep w4 (w4.alloc (.cells #[.int .i64 0, .int .i64 0, .string { data := #[] }, .slice none 0 0, .slice none 0 0] 33)) (fun _ => False) := (Keep.refl w4 _).alloc _
  have S5 := h4S.keep K5 (fun _ s => s.elim) id id id id
  have X5 := Blk.new w4 33 [.int .i64 0, .int .i64 0, .string { data := #[] }, .slice none 0 0, .slice none 0 0]
  have P5 := P4.keep K5 id
  have Q5 := Q4.keep K5 id
  have zs5 : (w4.alloc (.cells #[.int .i64 0, .int .i64 0, .string { data := #[] }, .slice none 0 0, .slice none 0 0] 33)).heap.size = w4.heap.size + 1 := by simp
  have b5 := S5.box.cell (j := 0) rfl
  have hU := number_any B g (tmX f st p).rest _ (R4.keep K5 id (fun _ s => s.elim))
  obtain ⟨Y, hY⟩ : ∃ Y, (tmX f st p).rest.bind rNum = Y := ⟨_, rfl⟩
  have hN3 : Y.told 0 ≤ 1073741824 := by rw [← hY]; exact num_told _
  rw [hY] at hU HX
  have HY : Hid _ := HX
  have HYe : Hid _ := hY
  obtain ⟨nn, hnn⟩ : ∃ nn, Y.told 0 = nn := ⟨_, rfl⟩
  rw [hnn] at hU hN3
  have HN : Hid _ := hnn
  clear HX hnn hY h4 R4 hKd hp1 h2p h3p pc pc2 pf2 b0 b3 dc R2 R3 hw1 P1 Q1
  go_wp2_with fail
  refine hU.mono ?_
  rintro x w5 ⟨rfl, R5, KU⟩
  clear hU
  have zU := KU.size
  have X5' := X5.keep KU (by omega)
  have Q5' := Q5.keep KU (by omega)
  have P5' := P5.keep KU (by omega)
  have y1 := X5'.cell (j := 1) rfl
  have yf := X5'.frozen 1
  have KV : Keep w5 (w5.setCell ⟨w4.heap.size, 1, none⟩ (.int .i64 (nn : Int))) (· = w4.heap.size) := (Keep.refl w5 (· = w4.heap.size)).setCell (fun _ => rfl) 1 _
  have SU := S5.move (st' := Y.bind fun y => .ok (p.toNat + 1, y.2)) (KU.mono (fun _ e => .inl e)) (tm_rest R5) (tm_cnt (X := tmX f st p) S5 KU (fun c hc => by rw [← HYe.out, hc]; rfl))
  have SV := SU.keep KV (fun k hk => by omega) (by omega) (by omega) (by omega) (by omega)
  have XV := X5'.set 1 (.int .i64 (nn : Int))
  have PV := P5'.keep KV (by omega)
  have QV := Q5'.keep KV (by omega)
  have v0 := XV.cell (j := 0) rfl
  have tc : (w5.setCell ⟨w4.heap.size, 1, none⟩ (.int .i64 (nn : Int))).cell? ⟨1, 0, none⟩ = some (.int .i64 0) := SV.tabs.tm 0 (by omega)
  have hsev := sev_terms f 0 (by omega) hf hto (fun h => by omega) B g gb gp gf w.heap.size _ _ SV PV (by omega) (by omega)
  have zs6 : (w5.setCell ⟨w4.heap.size, 1, none⟩ (.int .i64 (nn : Int))).heap.size = w5.heap.size := by simp [World.setCell]
  rw [zs6] at hsev
  change Calls Tryd.prog 54 #[.int .i64 0, _] _ _ at hsev
  clear b5
  go_wp2_with fail
  refine hsev.mono ?_
  rintro x w6 ⟨v, ps, cs, rfl, hls, hG, S6, O6, K6⟩
  obtain ⟨ts, a, c, b, hmap, rfl, ha1, ha2, ha3⟩ := hG.targs
  clear hG hsev
  obtain ⟨tl, htl⟩ : ∃ tl, ts.length = tl := ⟨_, rfl⟩
  have HTL : Hid _ := htl
  rw [htl]
  clear htl
  have X6 := XV.keep K6 (by omega)
  have Q6 := QV.keep K6 (by omega)
  have x0 := X6.cell (j := 0) rfl
  have x1 := X6.cell (j := 1) rfl
  have x2 := X6.cell (j := 2) rfl
  have x3 := X6.cell (j := 3) rfl
  have x4 := X6.cell (j := 4) rfl
  have xf := X6.frozen 4
  have K7 : Keep w6 (w6.setCell ⟨w4.heap.size, 4, none⟩ (.slice a tl c)) (· = w4.heap.size) := (Keep.refl w6 (· = w4.heap.size)).setCell (fun _ => rfl) 4 _
  have Q7 := Q6.keep K7 (by omega)
  have q0 := Q7.cell (j := 0) rfl
  have q1 := Q7.cell (j := 1) rfl
  have q2 := Q7.cell (j := 2) rfl
  have q3 := Q7.cell (j := 3) rfl
  have q4 := Q7.cell (j := 4) rfl
  have qf0 := Q7.frozen 0
  have qf1 := Q7.frozen 1
  have qf2 := Q7.frozen 2
  have qf3 := Q7.frozen 3
  have qf4 := Q7.frozen 4
  clear tc
  go_wp2_with fail
  obtain ⟨Q8, K8⟩ := st5G Q7 (.int .i64 0) (.int .i64 (nn : Int)) (.string { data := #[] }) (.slice none 0 0) (.slice a tl c)
  have d0 := Q8.cell (j := 0) rfl
  have d1 := Q8.cell (j := 1) rfl
  have d2 := Q8.cell (j := 2) rfl
  have d3 := Q8.cell (j := 3) rfl
  have d4 := Q8.cell (j := 4) rfl
  have z5 := K5.size
  have z6 := K6.size
  have z7 := K7.size
  have z8 := K8.size
  have zV := KV.size
  have K68 : Keep w6 _ (fun k => k = w4.heap.size ∨ k = w.heap.size + 1) := (K7.mono (fun _ e => .inl e)).trans K8 (fun _ _ e => .inr e)
  refine bodyPost_ret (v := .agg #[.int .i64 0, .int .i64 (nn : Int), .string { data := #[] }, .slice none 0 0, .slice a tl c]) (by simp [results, Tryd.results51, go_sem, d0, d1, d2, d3, d4]) rfl ⟨.mk 0 (nn : Int) { data := #[] } [] ps, .mk 0 (nn : Int) { data := #[] } [] none 0 a c b 0 ts, ?_, ?_, fun y hy => ?_, ?_, ?_⟩
  · rw [← HTL.out]; rfl
  · have e1 : (st.bind (rTm f)).snd = ((Y.bind fun y => .ok (p.toNat + 1, y.2)).bind (rMany (rTm (f - 1)) 0)).snd := by rw [HY.out]; cases Y <;> rfl
    rw [e1]
    exact S6.keep K68 (fun k hk => by omega) (by omega) (by omega) (by omega) (by omega)
  · rw [HY.out] at hy
    have hn := HN.out
    obtain rfl : ps = [] := List.eq_nil_of_length_eq_zero hls
    cases Y with
    | bad c => cases hy
    | ok u =>
      simp only [Er.bind, Er.ok.injEq] at hy
      subst hy
      simp only [Er.told] at hn
      simp only [hn]
  · refine ⟨.mk 0 (nn : Int) { data := #[] } [] none 0 a c b 0 ts, ?_, ?_, ?_⟩
    · rw [Tr.pl_eq]; simp only [Tr.k, Tr.n, Tr.s, Tr.ls, Tr.args, hmap]
    · simp only [Tr.cells, Tr.k, Tr.n, Tr.s, Tr.la, Tr.ls, Tr.lc, Tr.a, Tr.args, Tr.c, List.length_nil]
    · refine tr_made ⟨by omega, by omega⟩ ⟨by omega, by omega⟩ (node_none _ _) ha1 ha2 ?_
      rcases ha3 with h0 | ⟨e1, e2, e3⟩
      · exact .inl h0
      · exact .inr ⟨e1, ⟨by omega, by omega⟩, e3.carry e2 (fun b hb => K68.block b hb.2 (by omega)) (fun b hb => ⟨by omega, by omega⟩)⟩
  · exact ((((((K1.mono (fun _ s => s.elim)).trans K24 (fun _ _ s => s)).trans K5 (fun _ _ s => s.elim)).trans KU (fun _ _ s => .inl s)).trans KV (fun i hi s => by omega)).trans K6 (fun _ _ s => s)).trans K68 (fun i hi s => by omega)
end Go.Proofs.YtkbpmpcbajnmlaaDoor

/- The walk of the program's reader of terms, its closure: what it tells is what the plain function tells. One of its ways. -/
namespace Go.Proofs.YtkbpmpcbajnmlaaDoor
open Go.RowKit

set_option maxRecDepth 100000 in
set_option maxHeartbeats 4000000 in
theorem tm51_one (f : Nat) (hf : f ≤ 100) (hto : ∀ f', f = f' + 1 → TO f') (B g gb gp gf : Nat) (st : Er (Nat × Bs)) (w : World) (h : TS w B g gb gp gf st) (p : Int) (hp : Blk w gp 3 [.int .i64 p]) (hst : ∀ x, st = .ok x → p = (x.1 : Int) ∧ x.1 ≤ 2000) (h4 : (tmX f st p).told 0 = 1) :
    Calls Tryd.prog 51 #[.int .i64 (101 - (f : Int)), .pointer (some ⟨gb, 0, none⟩), .pointer (some ⟨gp, 0, none⟩), .pointer (some ⟨gf, 0, none⟩)] w (TOP w B g gb gp gf (st.bind (rTm f))) := by
  obtain ⟨l1, l2, l3, l4, l5⟩ := h.lts
  have htwo := h.two
  obtain ⟨w1, hw1, hb1, P1, Q1, hs1⟩ := two_newG w [.int .i64 (101 - (f : Int))] [.int .i64 0, .int .i64 0, .string { data := #[] }, .slice none 0 0, .slice none 0 0] 3 33
  have K1 : Keep w w1 (fun _ => False) := Keep.of_below hb1 (Nat.le_refl _)
  have h1 := h.keep K1 (fun _ s => s.elim) id id id id
  have hp1 := hp.keep K1 id
  have b0 := h1.box.cell (j := 0) rfl
  have pc := hp1.cell (j := 0) rfl
  have dc := P1.cell (j := 0) rfl
  have hB := begin_any B g st.snd (p == 2000) (decide (100 < 101 - (f : Int))) w1 h1.rd
  go_enter Tryd.func51, Tryd.ntmps51
  go_wp2_with fail
  refine hB.mono ?_
  rintro x w2 ⟨rfl, R2, K2⟩
  have h2p := hp1.keep K2 (fun e => h.n2 e.symm)
  have pc2 := h2p.cell (j := 0) rfl
  have pf2 := h2p.frozen 0
  have K3 : Keep w2 (w2.setCell ⟨gp, 0, none⟩ (.int .i64 (wrap64 (p + 1)))) (· = gp) := (Keep.refl w2 (· = gp)).setCell (fun _ => rfl) 0 _
  have h3p := h2p.set 0 (.int .i64 (wrap64 (p + 1)))
  have R3 := R2.keep K3 h.n2 (fun k hk => by rw [hk]; exact h.lowp)
  have b3 := ((h1.box.keep K2 (fun e => h.n1 e.symm)).keep K3 (fun e => h.n4 e.symm)).cell (j := 0) rfl
  have hKd := kind_any B g _ 0 6 (by omega) (by omega) _ R3
  have hk4 := kind_told (st.snd.fail (beg (p == 2000) (decide (100 < 101 - (f : Int))))) 0 6
  change (tmX f st p).told 0 ≤ 6 at hk4
  change Calls Tryd.prog 46 _ _ (fun x w' => x = .returned (.int .i64 (((tmX f st p).told 0 : Nat) : Int)) ∧ RSx w' B g (tmX f st p).rest ∧ _) at hKd
  clear hB
  go_wp2_with fail
  refine hKd.mono ?_
  rintro x w4 ⟨rfl, R4, K4⟩
  have K24 : Keep w1 w4 (fun k => k = g ∨ k = gp) := ((K2.mono (fun _ e => .inl e)).trans K3 (fun _ _ e => .inr e)).trans K4 (fun _ _ e => .inl e)
  have h4S : TS w4 B g gb gp gf (lvS (tmX f st p) p.toNat) := h1.move K24 (lvS_rest R4) (tmS_cnt hst (h3p.keep K4 (fun e => h.n2 e.symm)))
  have P4 := P1.keep K24 (by omega)
  have Q4 := Q1.keep K24 (by omega)
  have HX := tm_one (f := f) (fun x hx => (hst x hx).1) h4
  have z1 := K1.size
  have z4 := K24.size
  rw [h4]
  have K5 : Keep w4 (w4.alloc (.cells #[.int .i64 1, .int .i64 0, .string { data := #[] }, .slice none 0 0, .slice none 0 0] 33)) (fun _ => False) := (Keep.refl w4 _).alloc _
  have S5 := h4S.keep K5 (fun _ s => s.elim) id id id id
  have X5 := Blk.new w4 33 [.int .i64 1, .int .i64 0, .string { data := #[] }, .slice none 0 0, .slice none 0 0]
  have P5 := P4.keep K5 id
  have Q5 := Q4.keep K5 id
  have zs5 : (w4.alloc (.cells #[.int .i64 1, .int .i64 0, .string { data := #[] }, .slice none 0 0, .slice none 0 0] 33)).heap.size = w4.heap.size + 1 := by simp
  have b5 := S5.box.cell (j := 0) rfl
  have hU := sev_levels 1 (by omega) B g (tmX f st p).rest _ S5.tabs htwo (R4.keep K5 id (fun _ s => s.elim))
  obtain ⟨Y, hY⟩ : ∃ Y, (tmX f st p).rest.bind (rMany rLevel 1) = Y := ⟨_, rfl⟩
  rw [hY] at hU HX
  rw [zs5] at hU
  change Calls Tryd.prog 48 #[.int .i64 1, _] _ _ at hU
  have HY : Hid _ := HX
  have HYe : Hid _ := hY
  clear HX hY h4 R4 hKd hp1 h2p h3p pc pc2 pf2 b0 b3 dc R2 R3 hw1 P1 Q1
  go_wp2_with fail
  refine hU.mono ?_
  rintro x w5 ⟨v, ls, lcs, rfl, hll, hLG, R5, OL, KU⟩
  clear hU
  obtain ⟨la, lc, rfl, hLN⟩ := hLG.node
  clear hLG
  have HLL : Hid _ := hll
  rw [hll]
  clear hll
  have zU := KU.size
  have X5' := X5.keep KU (by omega)
  have Q5' := Q5.keep KU (by omega)
  have P5' := P5.keep KU (by omega)
  have y3 := X5'.cell (j := 3) rfl
  have yf := X5'.frozen 3
  have KV : Keep w5 (w5.setCell ⟨w4.heap.size, 3, none⟩ (.slice la 1 lc)) (· = w4.heap.size) := (Keep.refl w5 (· = w4.heap.size)).setCell (fun _ => rfl) 3 _
  have R5' : RSx w5 B g Y.rest := by cases Y <;> exact R5
  have SU := S5.move (st' := Y.bind fun y => .ok (p.toNat + 1, y.2)) (KU.mono (fun _ e => .inl e)) (tm_rest R5') (tm_cnt (X := tmX f st p) S5 KU (fun c hc => by rw [← HYe.out, hc]; rfl))
  have SV := SU.keep KV (fun k hk => by omega) (by omega) (by omega) (by omega) (by omega)
  have XV := X5'.set 3 (.slice la 1 lc)
  have PV := P5'.keep KV (by omega)
  have QV := Q5'.keep KV (by omega)
  have v0 := XV.cell (j := 0) rfl
  have tc : (w5.setCell ⟨w4.heap.size, 3, none⟩ (.slice la 1 lc)).cell? ⟨1, 1, none⟩ = some (.int .i64 0) := SV.tabs.tm 1 (by omega)
  have hsev := sev_terms f 0 (by omega) hf hto (fun h => by omega) B g gb gp gf w.heap.size _ _ SV PV (by omega) (by omega)
  have zs6 : (w5.setCell ⟨w4.heap.size, 3, none⟩ (.slice la 1 lc)).heap.size = w5.heap.size := by simp [World.setCell]
  rw [zs6] at hsev
  change Calls Tryd.prog 54 #[.int .i64 0, _] _ _ at hsev
  clear b5
  go_wp2_with fail
  refine hsev.mono ?_
  rintro x w6 ⟨v, ps, cs, rfl, hls, hG, S6, O6, K6⟩
  obtain ⟨ts, a, c, b, hmap, rfl, ha1, ha2, ha3⟩ := hG.targs
  clear hG hsev
  obtain ⟨tl, htl⟩ : ∃ tl, ts.length = tl := ⟨_, rfl⟩
  have HTL : Hid _ := htl
  rw [htl]
  clear htl
  have X6 := XV.keep K6 (by omega)
  have Q6 := QV.keep K6 (by omega)
  have x0 := X6.cell (j := 0) rfl
  have x1 := X6.cell (j := 1) rfl
  have x2 := X6.cell (j := 2) rfl
  have x3 := X6.cell (j := 3) rfl
  have x4 := X6.cell (j := 4) rfl
  have xf := X6.frozen 4
  have K7 : Keep w6 (w6.setCell ⟨w4.heap.size, 4, none⟩ (.slice a tl c)) (· = w4.heap.size) := (Keep.refl w6 (· = w4.heap.size)).setCell (fun _ => rfl) 4 _
  have Q7 := Q6.keep K7 (by omega)
  have q0 := Q7.cell (j := 0) rfl
  have q1 := Q7.cell (j := 1) rfl
  have q2 := Q7.cell (j := 2) rfl
  have q3 := Q7.cell (j := 3) rfl
  have q4 := Q7.cell (j := 4) rfl
  have qf0 := Q7.frozen 0
  have qf1 := Q7.frozen 1
  have qf2 := Q7.frozen 2
  have qf3 := Q7.frozen 3
  have qf4 := Q7.frozen 4
  clear tc
  go_wp2_with fail
  obtain ⟨Q8, K8⟩ := st5G Q7 (.int .i64 1) (.int .i64 0) (.string { data := #[] }) (.slice la 1 lc) (.slice a tl c)
  have d0 := Q8.cell (j := 0) rfl
  have d1 := Q8.cell (j := 1) rfl
  have d2 := Q8.cell (j := 2) rfl
  have d3 := Q8.cell (j := 3) rfl
  have d4 := Q8.cell (j := 4) rfl
  have z5 := K5.size
  have z6 := K6.size
  have z7 := K7.size
  have z8 := K8.size
  have zV := KV.size
  have K68 : Keep w6 _ (fun k => k = w4.heap.size ∨ k = w.heap.size + 1) := (K7.mono (fun _ e => .inl e)).trans K8 (fun _ _ e => .inr e)
  refine bodyPost_ret (v := .agg #[.int .i64 1, .int .i64 0, .string { data := #[] }, .slice la 1 lc, .slice a tl c]) (by simp [results, Tryd.results51, go_sem, d0, d1, d2, d3, d4]) rfl ⟨.mk 1 0 { data := #[] } ls ps, .mk 1 0 { data := #[] } ls la lc a c b 0 ts, ?_, ?_, fun y hy => ?_, ?_, ?_⟩
  · rw [← HTL.out]; simp only [Tr.k, Tr.n, Tr.s, Tr.la, Tr.ls, Tr.lc, Tr.a, Tr.args, Tr.c, HLL.out]
  · have e1 : (st.bind (rTm f)).snd = ((Y.bind fun y => .ok (p.toNat + 1, y.2)).bind (rMany (rTm (f - 1)) 0)).snd := by rw [HY.out]; cases Y <;> rfl
    rw [e1]
    exact S6.keep K68 (fun k hk => by omega) (by omega) (by omega) (by omega) (by omega)
  · rw [HY.out] at hy
    obtain rfl : ps = [] := List.eq_nil_of_length_eq_zero hls
    cases Y with
    | bad c => cases hy
    | ok u =>
      simp only [Er.bind, Er.ok.injEq] at hy
      subst hy
      simp only
      rw [OL u rfl]
  · refine ⟨.mk 1 0 { data := #[] } ls la lc a c b 0 ts, ?_, ?_, ?_⟩
    · rw [Tr.pl_eq]; simp only [Tr.k, Tr.n, Tr.s, Tr.ls, Tr.args, hmap]
    · simp only [Tr.cells, Tr.k, Tr.n, Tr.s, Tr.la, Tr.ls, Tr.lc, Tr.a, Tr.args, Tr.c]
    · refine tr_made ⟨by omega, by omega⟩ ⟨by omega, by omega⟩ (hLN.carry (fun b hb => ((K68.block b (by omega) (by omega)).trans (K6.block b (by omega) (by omega))).trans (KV.block b hb.2 (by omega))) (fun b hb => ⟨by omega, by omega⟩)) ha1 ha2 ?_
      rcases ha3 with h0 | ⟨e1, e2, e3⟩
      · exact .inl h0
      · exact .inr ⟨e1, ⟨by omega, by omega⟩, e3.carry e2 (fun b hb => K68.block b hb.2 (by omega)) (fun b hb => ⟨by omega, by omega⟩)⟩
  · exact ((((((K1.mono (fun _ s => s.elim)).trans K24 (fun _ _ s => s)).trans K5 (fun _ _ s => s.elim)).trans KU (fun _ _ s => .inl s)).trans KV (fun i hi s => by omega)).trans K6 (fun _ _ s => s)).trans K68 (fun i hi s => by omega)
end Go.Proofs.YtkbpmpcbajnmlaaDoor
