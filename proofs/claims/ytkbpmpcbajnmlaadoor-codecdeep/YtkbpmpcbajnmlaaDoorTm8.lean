/- The walk of the program's reader of terms, its closure: what it tells is what the plain function tells. One of its ways. -/
import Derived.Test.YtkbpmpcbajnmlaaDoorTm3
import Derived.Deep.RegionHeld3
import Derived.Test.YtkbpmpcbajnmlaaDoorTm6
namespace Go.Proofs.YtkbpmpcbajnmlaaDoor
open Go.RowKit

set_option maxRecDepth 100000 in
set_option maxHeartbeats 4000000 in
theorem tm51_two (f : Nat) (hf : f ≤ 100) (hto : ∀ f', f = f' + 1 → TO f') (B g gb gp gf : Nat) (st : Er (Nat × Bs)) (w : World) (h : TS w B g gb gp gf st) (p : Int) (hp : Blk w gp 3 [.int .i64 p]) (hst : ∀ x, st = .ok x → p = (x.1 : Int) ∧ x.1 ≤ 2000) (h4 : (tmX f st p).told 0 = 2) :
    Calls Tryd.prog 51 #[.int .i64 (101 - (f : Int)), .pointer (some ⟨gb, 0, none⟩), .pointer (some ⟨gp, 0, none⟩), .pointer (some ⟨gf, 0, none⟩)] w (TOP w B g gb gp gf (st.bind (rTm f))) := by
  obtain ⟨l1, l2, l3, l4, l5⟩ := h.lts
  have htwo := h.two
  obtain ⟨w1, hw1, hb1, P1, Q1, hs1⟩ := two_newG w [.int .i64 (101 - (f : Int))] [.int .i64 0, .int .i64 0, .string { data := #[] }, .slice none 0 0, .slice none 0 0] 3 33
  have K1 : Keep w w1 (fun _ => False) := Keep.of_below hb1 (Nat.le_refl _)
  have h1 := h.keep K1 (fun _ s => s.elim) id id id id
  have hp1 := hp.keep K1 id
  have b0 := h1.box.cell (j := 0) rfl
  have pc := hp1.cell (j := 0) rfl
  have dc := P1.cell (j := 0) rfl
  have hB := begin_any B g st.snd (p == 2000) (decide (100 < 101 - (f : Int))) w1 h1.rd
  go_enter Tryd.func51, Tryd.ntmps51
  go_wp2_with fail
  refine hB.mono ?_
  rintro x w2 ⟨rfl, R2, K2⟩
  have h2p := hp1.keep K2 (fun e => h.n2 e.symm)
  have pc2 := h2p.cell (j := 0) rfl
  have pf2 := h2p.frozen 0
  have K3 : Keep w2 (w2.setCell ⟨gp, 0, none⟩ (.int .i64 (wrap64 (p + 1)))) (· = gp) := (Keep.refl w2 (· = gp)).setCell (fun _ => rfl) 0 _
  have h3p := h2p.set 0 (.int .i64 (wrap64 (p + 1)))
  have R3 := R2.keep K3 h.n2 (fun k hk => by rw [hk]; exact h.lowp)
  have b3 := ((h1.box.keep K2 (fun e => h.n1 e.symm)).keep K3 (fun e => h.n4 e.symm)).cell (j := 0) rfl
  have hKd := kind_any B g _ 0 6 (by omega) (by omega) _ R3
  have hk4 := kind_told (st.snd.fail (beg (p == 2000) (decide (100 < 101 - (f : Int))))) 0 6
  change (tmX f st p).told 0 ≤ 6 at hk4
  change Calls Tryd.prog 46 _ _ (fun x w' => x = .returned (.int .i64 (((tmX f st p).told 0 : Nat) : Int)) ∧ RSx w' B g (tmX f st p).rest ∧ _) at hKd
  clear hB
  go_wp2_with fail
  refine hKd.mono ?_
  rintro x w4 ⟨rfl, R4, K4⟩
  have K24 : Keep w1 w4 (fun k => k = g ∨ k = gp) := ((K2.mono (fun _ e => .inl e)).trans K3 (fun _ _ e => .inr e)).trans K4 (fun _ _ e => .inl e)
  have h4S : TS w4 B g gb gp gf (lvS (tmX f st p) p.toNat) := h1.move K24 (lvS_rest R4) (tmS_cnt hst (h3p.keep K4 (fun e => h.n2 e.symm)))
  have P4 := P1.keep K24 (by omega)
  have Q4 := Q1.keep K24 (by omega)
  have HX := tm_two2 (f := f) (fun x hx => (hst x hx).1) h4
  have z1 := K1.size
  have z4 := K24.size
  rw [h4]
  have K5 : Keep w4 (w4.alloc (.cells #[.int .i64 2, .int .i64 0, .string { data := #[] }, .slice none 0 0, .slice none 0 0] 33)) (fun _ => False) := (Keep.refl w4 _).alloc _
  have S5 := h4S.keep K5 (fun _ s => s.elim) id id id id
  have X5 := Blk.new w4 33 [.int .i64 2, .int .i64 0, .string { data := #[] }, .slice none 0 0, .slice none 0 0]
  have P5 := P4.keep K5 id
  have Q5 := Q4.keep K5 id
  have zs5 : (w4.alloc (.cells #[.int .i64 2, .int .i64 0, .string { data := #[] }, .slice none 0 0, .slice none 0 0] 33)).heap.size = w4.heap.size + 1 := by simp
  have b5 := S5.box.cell (j := 0) rfl
  have hU := name_any B g (tmX f st p).rest _ (R4.keep K5 id (fun _ s => s.elim))
  obtain ⟨Yn, hYn⟩ : ∃ Yn, (tmX f st p).rest.bind rName = Yn := ⟨_, rfl⟩
  rw [hYn] at hU HX
  obtain ⟨Yu, hYu⟩ : ∃ Yu, Yn.rest.bind (rUpTo 4 7) = Yu := ⟨_, rfl⟩
  rw [hYu] at HX
  have hN3 : Yu.told 0 ≤ 4 := by rw [← hYu]; exact upTo_told _ _ _
  obtain ⟨nn, hnn⟩ : ∃ nn, Yu.told 0 = nn := ⟨_, rfl⟩
  rw [hnn] at HX hN3
  obtain ⟨Y, hY⟩ : ∃ Y, Yu.rest.bind (rMany rLevel nn) = Y := ⟨_, rfl⟩
  rw [hY] at HX
  have hsL := fun w' ht hr => sev_levels nn (by omega) B g Yu.rest w' ht htwo hr
  have hsU := fun w' hr => upTo_any B g Yn.rest 4 7 (by omega) (by omega) w' hr
  rw [hYu, hnn] at hsU
  rw [hY] at hsL
  have hbn : ∀ c, tmX f st p = .bad c → Yn = .bad c := fun c hc => by
    rw [hc] at hYn; subst hYn; rfl
  have hby : ∀ c, Yn = .bad c → Y = .bad c := fun c hc => by
    subst hc; subst hYu; subst hY; rfl
  obtain ⟨ss, hss⟩ : ∃ ss : ByteArray, (⟨(Yn.told []).toArray⟩ : ByteArray) = ss := ⟨_, rfl⟩
  rw [hss] at hU HX
  have HY : Hid _ := HX
  have HBN : Hid _ := hbn
  have HBY : Hid _ := hby
  have HSU : Hid _ := hsU
  have HSL : Hid _ := hsL
  clear HX hY hYu hYn hnn hss hbn hby hsU hsL h4 R4 hKd hp1 h2p h3p pc pc2 pf2 b0 b3 dc R2 R3 hw1 P1 Q1
  go_wp2_with fail
  refine hU.mono ?_
  rintro x w5 ⟨rfl, R5, KN⟩
  clear hU
  have zN := KN.size
  have X5' := X5.keep KN (by omega)
  have Q5' := Q5.keep KN (by omega)
  have P5' := P5.keep KN (by omega)
  have SN := S5.box.keep KN (fun e => h.n1 e.symm)
  have TN := S5.tabs.keep KN (fun k hk => by omega)
  have y2 := X5'.cell (j := 2) rfl
  have yf := X5'.frozen 2
  have KV : Keep w5 (w5.setCell ⟨w4.heap.size, 2, none⟩ (.string ss)) (· = w4.heap.size) := (Keep.refl w5 (· = w4.heap.size)).setCell (fun _ => rfl) 2 _
  have zV := KV.size
  have XV := X5'.set 2 (.string ss)
  have PV := P5'.keep KV (by omega)
  have QV := Q5'.keep KV (by omega)
  have BV := SN.keep KV (by omega)
  have TV := TN.keep KV (fun k hk => by omega)
  have RV := R5.keep KV (by omega) (fun k hk => by omega)
  obtain ⟨wv, hwv⟩ : ∃ wv, w5.setCell ⟨w4.heap.size, 2, none⟩ (.string ss) = wv := ⟨_, rfl⟩
  rw [hwv] at KV XV PV QV BV TV RV zV
  have bv := BV.cell (j := 0) rfl
  have gbv := BV.lt
  clear b5
  go_wp2_with fail
  go_region_held3 (fun w' => w'.cell? ⟨gb, 0, none⟩ = some (.pointer (some ⟨g, 0, none⟩))) (go_keep)
    (first
      | (go_at_call 47; refine (HSU.out _ (by exact RSx.carry RV (fun _ _ => rfl) rfl)).mono ?_; rintro e wu ⟨rfl, RU, KU0⟩; have KU : Keep wv wu (· = g) := ⟨KU0.os, KU0.tape, KU0.output, KU0.size, KU0.block⟩; have gu := (KU.kcell gb 0 gbv (fun e => h.n1 e.symm)).trans bv)
      | (go_at_call 48; refine (HSL.out _ (TV.keep KU (fun k hk => by omega)) (by exact RU)).mono ?_; rintro e wl ⟨v, ls, lcs, rfl, hll, hLG, RL, OL, KL⟩; have gl := (KL.kcell gb 0 (by have := KU.size; omega) (fun e => h.n1 e.symm)).trans gu; obtain ⟨la, lc, rfl, hLN⟩ := hLG.node; have XL := (XV.keep KU (by omega)).keep KL (by omega); have xl := XL.cell (j := 3) rfl; have xlf := XL.frozen 3; have hne : w4.heap.size ≠ gb := (by omega)))
  all_goals
    clear hLG
    have HLL : Hid _ := hll
    clear hll
    have zU := KU.size
    have zL := KL.size
    have KUL : Keep wv wl (· = g) := KU.trans KL (fun _ _ e => e)
    have KW : Keep wl (wl.setCell ⟨w4.heap.size, 3, none⟩ (.slice la nn lc)) (· = w4.heap.size) := (Keep.refl wl (· = w4.heap.size)).setCell (fun _ => rfl) 3 _
    have zW := KW.size
    have RL' : RSx wl B g Y.rest := by cases Y <;> exact RL
    have SN1 := S5.move (st' := Yn.bind fun y => .ok (p.toNat + 1, y.2)) (KN.mono (fun _ e => .inl e)) (tm_rest R5) (tm_cnt (X := tmX f st p) S5 KN (fun c hc => HBN.out c hc))
    have SV1 := SN1.keep KV (fun k hk => by omega) (by omega) (by omega) (by omega) (by omega)
    have SL := SV1.move (st' := Y.bind fun y => .ok (p.toNat + 1, y.2)) (KUL.mono (fun _ e => .inl e)) (tm_rest RL') (tm_cnt (X := Yn) SV1 KUL (fun c hc => HBY.out c hc))
    have SW := SL.keep KW (fun k hk => by omega) (by omega) (by omega) (by omega) (by omega)
    have XW := XL.set 3 (.slice la nn lc)
    have PW := (PV.keep KUL (by omega)).keep KW (by omega)
    have QW := (QV.keep KUL (by omega)).keep KW (by omega)
    have v0 := XW.cell (j := 0) rfl
    have tc : (wl.setCell ⟨w4.heap.size, 3, none⟩ (.slice la nn lc)).cell? ⟨1, 2, none⟩ = some (.int .i64 0) := SW.tabs.tm 2 (by omega)
    have hsev := sev_terms f 0 (by omega) hf hto (fun h => by omega) B g gb gp gf w.heap.size _ _ SW PW (by omega) (by omega)
    have zs6 : (wl.setCell ⟨w4.heap.size, 3, none⟩ (.slice la nn lc)).heap.size = wl.heap.size := by simp [World.setCell]
    rw [zs6] at hsev
    change Calls Tryd.prog 54 #[.int .i64 0, _] _ _ at hsev
    clear xl xlf gl gu bv KU0 hwv y2 yf RL RU RV R5
    go_wp2_with fail
    refine hsev.mono ?_
    rintro x w6 ⟨v, ps, cs, rfl, hls, hG, S6, O6, K6⟩
    obtain ⟨ts, a, c, b, hmap, rfl, ha1, ha2, ha3⟩ := hG.targs
    clear hG hsev
    obtain ⟨tl, htl⟩ : ∃ tl, ts.length = tl := ⟨_, rfl⟩
    have HTL : Hid _ := htl
    rw [htl]
    clear htl
    have X6 := XW.keep K6 (by omega)
    have Q6 := QW.keep K6 (by omega)
    have x0 := X6.cell (j := 0) rfl
    have x1 := X6.cell (j := 1) rfl
    have x2 := X6.cell (j := 2) rfl
    have x3 := X6.cell (j := 3) rfl
    have x4 := X6.cell (j := 4) rfl
    have xf := X6.frozen 4
    have K7 : Keep w6 (w6.setCell ⟨w4.heap.size, 4, none⟩ (.slice a tl c)) (· = w4.heap.size) := (Keep.refl w6 (· = w4.heap.size)).setCell (fun _ => rfl) 4 _
    have Q7 := Q6.keep K7 (by omega)
    have q0 := Q7.cell (j := 0) rfl
    have q1 := Q7.cell (j := 1) rfl
    have q2 := Q7.cell (j := 2) rfl
    have q3 := Q7.cell (j := 3) rfl
    have q4 := Q7.cell (j := 4) rfl
    have qf0 := Q7.frozen 0
    have qf1 := Q7.frozen 1
    have qf2 := Q7.frozen 2
    have qf3 := Q7.frozen 3
    have qf4 := Q7.frozen 4
    clear tc
    go_wp2_with fail
    obtain ⟨Q8, K8⟩ := st5G Q7 (.int .i64 2) (.int .i64 0) (.string ss) (.slice la nn lc) (.slice a tl c)
    have d0 := Q8.cell (j := 0) rfl
    have d1 := Q8.cell (j := 1) rfl
    have d2 := Q8.cell (j := 2) rfl
    have d3 := Q8.cell (j := 3) rfl
    have d4 := Q8.cell (j := 4) rfl
    have z5 := K5.size
    have z6 := K6.size
    have z7 := K7.size
    have z8 := K8.size
    have K68 : Keep w6 _ (fun k => k = w4.heap.size ∨ k = w.heap.size + 1) := (K7.mono (fun _ e => .inl e)).trans K8 (fun _ _ e => .inr e)
    refine bodyPost_ret (v := .agg #[.int .i64 2, .int .i64 0, .string ss, .slice la nn lc, .slice a tl c]) (by simp [results, Tryd.results51, go_sem, d0, d1, d2, d3, d4]) rfl ⟨.mk 2 0 ss ls ps, .mk 2 0 ss ls la lc a c b 0 ts, ?_, ?_, fun y hy => ?_, ?_, ?_⟩
    · rw [← HTL.out]; simp only [Tr.k, Tr.n, Tr.s, Tr.la, Tr.ls, Tr.lc, Tr.a, Tr.args, Tr.c, HLL.out]
    · have e1 : (st.bind (rTm f)).snd = ((Y.bind fun y => .ok (p.toNat + 1, y.2)).bind (rMany (rTm (f - 1)) 0)).snd := by rw [HY.out]; cases Y <;> rfl
      rw [e1]
      exact S6.keep K68 (fun k hk => by omega) (by omega) (by omega) (by omega) (by omega)
    · rw [HY.out] at hy
      obtain rfl : ps = [] := List.eq_nil_of_length_eq_zero hls
      cases Y with
      | bad c => cases hy
      | ok u =>
        simp only [Er.bind, Er.ok.injEq] at hy
        subst hy
        simp only
        rw [OL u rfl]
    · refine ⟨.mk 2 0 ss ls la lc a c b 0 ts, ?_, ?_, ?_⟩
      · rw [Tr.pl_eq]; simp only [Tr.k, Tr.n, Tr.s, Tr.ls, Tr.args, hmap]
      · simp only [Tr.cells, Tr.k, Tr.n, Tr.s, Tr.la, Tr.ls, Tr.lc, Tr.a, Tr.args, Tr.c]
      · refine tr_made ⟨by omega, by omega⟩ ⟨by omega, by omega⟩ (hLN.carry (fun b hb => ((K68.block b (by omega) (by omega)).trans (K6.block b (by omega) (by omega))).trans (KW.block b hb.2 (by omega))) (fun b hb => ⟨by omega, by omega⟩)) ha1 ha2 ?_
        rcases ha3 with h0 | ⟨e1, e2, e3⟩
        · exact .inl h0
        · exact .inr ⟨e1, ⟨by omega, by omega⟩, e3.carry e2 (fun b hb => K68.block b hb.2 (by omega)) (fun b hb => ⟨by omega, by omega⟩)⟩
    · exact ((((((((K1.mono (fun _ s => s.elim)).trans K24 (fun _ _ s => s)).trans K5 (fun _ _ s => s.elim)).trans KN (fun _ _ s => .inl s)).trans KV (fun i hi s => by omega)).trans KUL (fun _ _ s => .inl s)).trans KW (fun i hi s => by omega)).trans K6 (fun _ _ s => s)).trans K68 (fun i hi s => by omega)
end Go.Proofs.YtkbpmpcbajnmlaaDoor

/- The walk of the program's reader of a term that stands by itself. No condition but that the bytes can be read, are no longer than 2^40, and that the tables are laid. -/
namespace Go.Proofs.YtkbpmpcbajnmlaaDoor
open Go.RowKit

theorem tm51_any (f : Nat) (hf : f ≤ 100) (hto : ∀ f', f = f' + 1 → TO f') : TO f := by
  intro B g gb gp gf st w h
  obtain ⟨p, _, _, hp, hst⟩ := h.cnt
  by_cases h0 : (tmX f st p).told 0 = 0
  · exact tm51_zero f hf hto B g gb gp gf st w h p hp hst h0
  · by_cases h1 : (tmX f st p).told 0 = 1
    · exact tm51_one f hf hto B g gb gp gf st w h p hp hst h1
    · by_cases h2 : (tmX f st p).told 0 = 2
      · exact tm51_two f hf hto B g gb gp gf st w h p hp hst h2
      · exact tm51_more f hf hto B g gb gp gf st w h p hp hst (by omega)

theorem to_all (f : Nat) (hf : f ≤ 100) : TO f := by
  induction f with
  | zero => exact tm51_any 0 hf (fun f' e => by omega)
  | succ f ih => exact tm51_any (f + 1) hf (fun f' e => by obtain rfl : f = f' := by omega
                                                           exact ih (by omega))

/-- What reading a level tells. -/
def TmP (w : World) (B g : Nat) (res : Er (Pm × Bs)) (x : Ending) (w' : World) : Prop :=
  ∃ (L : Pm) (T : Tr), x = .returned (.agg #[.int .i64 T.k, .int .i64 T.n, .string T.s, .slice T.la T.ls.length T.lc, .slice T.a T.args.length T.c]) ∧ RSx w' B g res.rest ∧ (∀ y, res = .ok y → L = y.1) ∧
    TIs w' (fun b => w.heap.size ≤ b ∧ b < w'.heap.size) L [.int .i64 T.k, .int .i64 T.n, .string T.s, .slice T.la T.ls.length T.lc, .slice T.a T.args.length T.c] ∧ Keep w w' (· = g)

theorem term_bind (st : Er Bs) : st.bind rTerm = ((st.bind fun bs => .ok (0, bs)).bind (rTm 100)).bind fun x => .ok (x.1, x.2.2) := by cases st <;> rfl

set_option maxRecDepth 100000 in
set_option maxHeartbeats 2000000 in
theorem term_any (B g : Nat) (st : Er Bs) (w : World) (ht : Tabs w) (h2 : 2 ≤ B) (h : RSx w B g st) : Calls Tryd.prog 32 #[.pointer (some ⟨g, 0, none⟩)] w (TmP w B g (st.bind rTerm)) := by
  have hrs : ∀ (w : World) (a : Addr) (f : Nat) (x y : Array Value), (store a (Value.func (Fn.func f) x y)).run Tryd.prog w = _ := fun w a f x y => run_store Tryd.prog w a (.func (.func f) x y) .plain rfl
  obtain ⟨hBg, hg⟩ := h.low
  obtain ⟨w1, hw1, hb1, P0, P1, P2, P3, hs1⟩ := four_newG w [.pointer (some ⟨g, 0, none⟩)] [.int .i64 0, .int .i64 0, .string { data := #[] }, .slice none 0 0, .slice none 0 0] [.int .i64 0] [.func (.func 51) #[] #[.pointer (some ⟨w.heap.size, 0, none⟩), .pointer (some ⟨w.heap.size + 1 + 1, 0, none⟩), .pointer (some ⟨w.heap.size + 1 + 1 + 1, 0, none⟩)]] 58 33 3 50
  have K1 : Keep w w1 (fun _ => False) := Keep.of_below hb1 (Nat.le_refl _)
  have S1 : TS w1 B g w.heap.size (w.heap.size + 1 + 1) (w.heap.size + 1 + 1 + 1) (st.bind fun bs => .ok (0, bs)) :=
    ⟨ht.keep K1 (fun _ s => s.elim), h2, P0, P3, by omega, by omega, by omega, by omega, by omega, by omega, by omega, by omega, ⟨0, by omega, by omega, P2, fun x hx => by cases st with | bad c => cases hx | ok bs => simp only [Er.bind, Er.ok.injEq] at hx; subst hx; exact ⟨rfl, by simp⟩⟩, by
      have := h.keep K1 id (fun _ s => s.elim)
      cases st <;> exact this⟩
  have hro := to_all 100 (by omega) B g _ _ _ _ w1 S1
  change Calls Tryd.prog 51 #[.int .i64 1, _, _, _] _ _ at hro
  have HW : Hid _ := hw1
  clear hw1
  go_enter Tryd.func32, Tryd.ntmps32
  go_wp2_with fail
  have hw1 := HW.out
  rw [hw1]
  refine hro.mono ?_
  rintro x w2 ⟨L, T, rfl, S2, O2, I2, K2⟩
  have Q2 := P1.keep K2 (by omega)
  have q0 := Q2.cell (j := 0) rfl
  have q1 := Q2.cell (j := 1) rfl
  have q2 := Q2.cell (j := 2) rfl
  have q3 := Q2.cell (j := 3) rfl
  have q4 := Q2.cell (j := 4) rfl
  have f0 := Q2.frozen 0
  have f1 := Q2.frozen 1
  have f2 := Q2.frozen 2
  have f3 := Q2.frozen 3
  have f4 := Q2.frozen 4
  clear hro hw1
  go_wp2_with fail
  obtain ⟨Q3, K3⟩ := st5G Q2 (.int .i64 T.k) (.int .i64 T.n) (.string T.s) (.slice T.la T.ls.length T.lc) (.slice T.a T.args.length T.c)
  have d0 := Q3.cell (j := 0) rfl
  have d1 := Q3.cell (j := 1) rfl
  have d2 := Q3.cell (j := 2) rfl
  have d3 := Q3.cell (j := 3) rfl
  have d4 := Q3.cell (j := 4) rfl
  have z1 := K1.size
  have z2 := K2.size
  have z3 := K3.size
  refine bodyPost_ret (v := .agg #[.int .i64 T.k, .int .i64 T.n, .string T.s, .slice T.la T.ls.length T.lc, .slice T.a T.args.length T.c]) (by simp [results, Tryd.results32, go_sem, d0, d1, d2, d3, d4]) rfl ⟨L, T, rfl, ?_, fun y hy => ?_, ?_, ?_⟩
  · have R2 := S2.rd.keep K3 (by omega) (fun k hk => by omega)
    rw [term_bind]
    cases hx : (st.bind fun bs => .ok (0, bs)).bind (rTm 100) with
    | bad c => rw [hx] at R2; exact R2
    | ok u => rw [hx] at R2; exact R2
  · rw [term_bind] at hy
    cases hx : (st.bind fun bs => .ok (0, bs)).bind (rTm 100) with
    | bad c => rw [hx] at hy; cases hy
    | ok u =>
      rw [hx] at hy
      simp only [Er.bind, Er.ok.injEq] at hy
      subst hy
      exact O2 u hx
  · exact TIs.car _ _ _ _ _ _ (fun b hb => K3.block b hb.2 (by omega)) (fun b hb => ⟨by omega, by omega⟩) I2
  · exact ((K1.mono (fun _ s => s.elim)).trans K2 (fun i hi s => by omega)).trans K3 (fun i hi s => by omega)
end Go.Proofs.YtkbpmpcbajnmlaaDoor
