/- The walks of the program's several of terms. No condition but that what is read keeps to its contract. -/
import Derived.Test.YtkbpmpcbajnmlaaDoorLev4
namespace Go.Proofs.YtkbpmpcbajnmlaaDoor
open Go.RowKit

mutual
/-- A term without where it lies. -/
def Tr.pl : Tr → Pm
  | .mk k n s ls _ _ _ _ _ _ args => .mk k n s ls (Tr.pls args)
def Tr.pls : List Tr → List Pm
  | [] => []
  | T :: r => T.pl :: Tr.pls r
end
theorem Tr.pls_eq (l : List Tr) : Tr.pls l = l.map Tr.pl := by
  induction l with
  | nil => simp only [Tr.pls, List.map_nil]
  | cons x r ih => simp only [Tr.pls, ih, List.map_cons]
theorem Tr.pl_eq (T : Tr) : T.pl = .mk T.k T.n T.s T.ls (T.args.map Tr.pl) := by
  cases T; simp only [Tr.pl, Tr.pls_eq, Tr.k, Tr.n, Tr.s, Tr.ls, Tr.args]

/-- A term as a struct. -/
def TIs (w : World) (S : Nat → Prop) (t : Pm) (c : List Value) : Prop := ∃ T : Tr, T.pl = t ∧ c = T.cells ∧ TIn w S T
theorem TIs.car : Car TIs := fun _ _ _ _ _ _ hb hT ⟨T, h1, h2, h3⟩ => ⟨T, h1, h2, TIn.carry hb hT T h3⟩

theorem Tr.cells_inj {T U : Tr} (h : T.cells = U.cells) : T.k = U.k ∧ T.n = U.n ∧ T.s = U.s ∧ T.la = U.la ∧ T.ls.length = U.ls.length ∧ T.lc = U.lc ∧ T.a = U.a ∧ T.args.length = U.args.length ∧ T.c = U.c := by
  simp only [Tr.cells, List.cons.injEq, Value.int.injEq, Value.string.injEq, Value.slice.injEq, true_and, and_true] at h
  obtain ⟨h1, h2, h3, ⟨h4, h5, h6⟩, h7, h8, h9⟩ := h
  exact ⟨h1, h2, h3, h4, h5, h6, h7, h8, h9⟩

/-- The row as the args of a term. -/
theorem GR.targs {w : World} {base : Nat} {e : TypeId} {v : Value} {ps : List Pm} {cs : List (List Value)} (h : GR 5 TIs w base e v ps cs) :
    ∃ (ts : List Tr) (a : Option Addr) (c b : Nat), ts.map Tr.pl = ps ∧ v = .slice a ts.length c ∧ ts.length ≤ c ∧ c ≤ maxLen ∧ (ts = [] ∨ (a = some ⟨b, 0, none⟩ ∧ (base ≤ b ∧ b < w.heap.size) ∧ TAll w (fun b => base ≤ b ∧ b < w.heap.size) b 0 ts)) := by
  have pick : ∀ i, i < ps.length → ∃ T : Tr, ps[i]? = some T.pl ∧ cs[i]? = some T.cells ∧ TIn w (fun b => base ≤ b ∧ b < w.heap.size ∧ v.ownBlock ≠ some b) T := fun i hi => by
    obtain ⟨d, hd⟩ : ∃ d, cs[i]? = some d := ⟨_, List.getElem?_eq_getElem (by rw [h.1]; exact hi)⟩
    obtain ⟨T, h1, h2, h3⟩ := h.2.2.2 i _ d (List.getElem?_eq_getElem hi) hd
    exact ⟨T, by rw [h1]; exact List.getElem?_eq_getElem hi, by rw [← h2]; exact hd, h3⟩
  obtain ⟨ts, hts⟩ : ∃ ts : List Tr, ts.length = ps.length ∧ ∀ (i : Nat) (T : Tr), ts[i]? = some T → ps[i]? = some T.pl ∧ cs[i]? = some T.cells ∧ TIn w (fun b => base ≤ b ∧ b < w.heap.size ∧ v.ownBlock ≠ some b) T := by
    generalize hn : ps.length = n at pick
    have : ∀ m, m ≤ n → ∃ ts : List Tr, ts.length = m ∧ ∀ (i : Nat) (T : Tr), ts[i]? = some T → ps[i]? = some T.pl ∧ cs[i]? = some T.cells ∧ TIn w (fun b => base ≤ b ∧ b < w.heap.size ∧ v.ownBlock ≠ some b) T := by
      intro m
      induction m with
      | zero => intro _; exact ⟨[], rfl, fun i T h => by simp at h⟩
      | succ m ih =>
        intro hm
        obtain ⟨ts, h1, h2⟩ := ih (by omega)
        obtain ⟨T, h3⟩ := pick m (by omega)
        refine ⟨ts ++ [T], by simp [h1], fun i U hi => ?_⟩
        by_cases hlt : i < m
        · rw [List.getElem?_append_left (by omega)] at hi; exact h2 i U hi
        · rw [List.getElem?_append_right (by omega)] at hi
          have hz : i - ts.length = 0 := by have := (List.getElem?_eq_some_iff.1 hi).1; simp at this; omega
          rw [hz] at hi; simp at hi; subst hi
          obtain rfl : i = m := by omega
          exact h3
    exact this n (Nat.le_refl _)
  obtain ⟨hl, hts⟩ := hts
  have hmap : ts.map Tr.pl = ps := by
    apply List.ext_getElem?
    intro i
    rw [List.getElem?_map]
    cases ht : ts[i]? with
    | none => rw [List.getElem?_eq_none (by have := List.getElem?_eq_none_iff.1 ht; omega)]; rfl
    | some T => rw [(hts i T ht).1]; rfl
  obtain ⟨a, c, rfl, e2, e3⟩ := h.slice
  by_cases h0 : ts = []
  · subst h0
    exact ⟨[], a, c, 0, hmap, by rw [← hl], by simp, e3, .inl rfl⟩
  · have hpos : 0 < ps.length := by rw [← hl]; exact List.length_pos_iff.2 h0
    obtain ⟨g, cap, e4, g1, g2, g3, g4⟩ := owns_shape h.2.2.1 hpos
    simp only [Value.slice.injEq, true_and] at e4
    obtain ⟨rfl, rfl⟩ := e4
    refine ⟨ts, _, c, g, hmap, by rw [hl], by omega, e3, .inr ⟨rfl, ⟨g1, g2⟩, TAll.of_get fun i T hi => ?_⟩⟩
    obtain ⟨_, hd, hin⟩ := hts i T hi
    have cc : ∀ {j u}, T.cells[j]? = some u → w.cell? ⟨g, i * 5 + j, none⟩ = some u := fun {j u} hj => by
      obtain ⟨g', e, _, _, h5⟩ := h.cell rfl hd hj
      obtain rfl : g = g' := by simpa using e
      exact h5
    rw [Nat.zero_add]
    exact ⟨⟨cc (j := 0) rfl, cc (j := 1) rfl, cc (j := 2) rfl, cc (j := 3) rfl, cc (j := 4) rfl⟩, hin.mono fun b hb => ⟨hb.1, hb.2.1⟩⟩

theorem info33s : ∃ i, Tryd.prog.info? 33 = some i ∧ i.zero = some (.agg #[.int .i64 0, .int .i64 0, .string { data := #[] }, .slice none 0 0, .slice none 0 0]) ∧ i.size = 5 ∧ i.bytes = 80 := by
  have h : (Tryd.prog.info? 33).map (fun i => (i.zero, i.size, i.bytes)) = some (some (.agg #[.int .i64 0, .int .i64 0, .string { data := #[] }, .slice none 0 0, .slice none 0 0]), 5, 80) := by kernel_rfl
  obtain ⟨i, hi, he⟩ := Option.map_eq_some_iff.1 h
  simp only [Prod.mk.injEq] at he
  exact ⟨i, hi, he⟩

theorem enter55s (args : Array Value) (w : World) : (callFunc 55 args).run Tryd.prog w = .ok (.enter 55 args) w := enter_of Tryd.func55 (by kernel_rfl) rfl args w

set_option maxRecDepth 100000 in
set_option maxHeartbeats 2000000 in
theorem sevT55 {σ : Type} (R : σ → World → Prop) (nx : σ → σ) (out : σ → Option Pm) (F : Nat → Prop) (p q : Value) (n : Nat) (hn : n ≤ 1000) (s0 : σ) (w : World)
    (hF : ∀ k, F k → k < w.heap.size)
    (hcar : ∀ (s : σ) (u u' : World), R s u → u.heap.size ≤ u'.heap.size → (∀ k, k < w.heap.size → u'.heap[k]? = u.heap[k]?) → R s u')
    (hstep : ∀ (s : σ) (u : World), 0 < n → R s u → w.heap.size ≤ u.heap.size → Calls Tryd.prog 55 #[p, q] u fun x u' => ∃ (L : Pm) (T : Tr), x = .returned (.agg #[.int .i64 T.k, .int .i64 T.n, .string T.s, .slice T.la T.ls.length T.lc, .slice T.a T.args.length T.c]) ∧ R (nx s) u' ∧ (∀ L0, out s = some L0 → L = L0) ∧ TIs u' (fun b => u.heap.size ≤ b ∧ b < u'.heap.size) L [.int .i64 T.k, .int .i64 T.n, .string T.s, .slice T.la T.ls.length T.lc, .slice T.a T.args.length T.c] ∧ Keep u u' F)
    (h0 : R s0 w) :
    Calls Tryd.prog 54 #[.int .i64 (n : Int), .func (.func 55) #[] #[p, q]] w fun x w' => ∃ v ls cs, x = .returned v ∧ ls.length = n ∧ GR 5 TIs w' w.heap.size 33 v ls cs ∧ R (it nx n s0) w' ∧ (∀ i, i < n → ∀ L0, out (it nx i s0) = some L0 → ls[i]? = some L0) ∧ Keep w w' F := by
  obtain ⟨i27, hi27, hz27, hs27, hb27⟩ := info33s
  have HS : Hid _ := hstep
  have HC : Hid _ := hcar
  clear hstep hcar
  go_enter Tryd.func54, Tryd.ntmps54
  go_wp2_with fail
  go_loopw [4, 6] (fun v i wr => ∃ (j : Nat) (ls : List Pm) (cs : List (List Value)), j ≤ n ∧ i = .int .i64 (j : Int) ∧ ls.length = j ∧ GR 5 TIs wr w.heap.size 33 v ls cs ∧ R (it nx j s0) wr ∧ (∀ i, i < j → ∀ L0, out (it nx i s0) = some L0 → ls[i]? = some L0) ∧ Keep w wr F) (fun _ i _ => n - (intOf i).toNat)
  case atStart => exact ⟨0, [], [], by omega, rfl, rfl, GR.nil _ _ _ _ _, h0, fun i hi => by omega, Keep.refl _ _⟩
  case round =>
    obtain ⟨j, ls, cs, hj, rfl, hlen, hG, hR, hout, hK⟩ := hrel
    have hwr := hK.size
    obtain ⟨ao, cap, hv, hle, hmx⟩ := hG.slice
    rw [hlen] at hv hle
    subst hv
    have HL : Hid (ls.length = j) := hlen
    by_cases hlt : j < n
    · have hd : decide ((j : Int) < (n : Int)) = true := decide_eq_true (by omega)
      have hcall := HS.out _ wr (by omega) hR hwr
      have hown := hG.2.2.1
      rw [hlen] at hown
      have HO : Hid _ := hown
      have HG : Hid _ := hG
      clear hown hG hR hlen
      go_wp2_with fail
      refine hcall.mono ?_
      rintro x w6 ⟨L, T, rfl, R6, O6, I6, K6⟩
      clear hcall
      obtain ⟨w7, hw7, hb7, X7, hs7⟩ := one_newG w6 [.int .i64 T.k, .int .i64 T.n, .string T.s, .slice T.la T.ls.length T.lc, .slice T.a T.args.length T.c] 33
      have s6 := K6.size
      have s7 := hb7.size
      have hk6 : ∀ b, w.heap.size ≤ b → b < wr.heap.size → w6.heap[b]? = wr.heap[b]? := fun b h1 h2 => K6.block b h2 (fun hf => by have := hF b hf; omega)
      have hown6 : w6.ownsRow w.heap.size 33 5 (.slice ao j cap) j cs.flatten := owns_block HO.out (fun g hg => hk6 g (owns_own HO.out hg).1 (owns_own HO.out hg).2)
      have HO7 : Hid _ := owns_below hown6 hb7
      clear hown6
      go_wp2_with (at_builtin; refine wpList_append_two (P := Tryd.prog) (by rfl) (.tmp 8) (.tmp 11) 31 (by rfl) w.heap.size 33 i27 _ 5 80 Tryd.underlying31 hi27 hz27 hs27 hb27 (by rfl) (by decide) (.slice ao j cap) j cs.flatten (by rfl) HO7.out ⟨w6.heap.size, 0, none⟩ 1 1 [.int .i64 T.k, .int .i64 T.n, .string T.s, .slice T.la T.ls.length T.lc, .slice T.a T.args.length T.c] (by rfl) (by rfl) (fun i u hu => by rw [Addr.add_lit, Nat.zero_add]; exact X7.cell hu) (by simp [Value.oneCell']) (by unfold maxLen; omega) (by omega) (by omega) (by decide) ?_; intro v' w8 ho8 hg8 hn8)
      have hG8 := GR.push (c := [.int .i64 T.k, .int .i64 T.n, .string T.s, .slice T.la T.ls.length T.lc, .slice T.a T.args.length T.c]) (x := L) TIs.car HG.out hwr s6 hk6 I6 rfl hb7 (by rw [HL.out]; exact ho8) hg8 hn8
      have hob : ∀ b, some b = (Value.slice ao j cap).ownBlock → w.heap.size ≤ b := fun b hb => (owns_own HO.out hb.symm).1
      have s8 := hg8.size
      have hk8 : ∀ k, k < w.heap.size → w8.heap[k]? = w6.heap[k]? := fun k hk => (hg8.block k (by omega) (fun e => by have := hob k e; omega)).trans (hb7.block k (by omega))
      have K8 : Keep w w8 F := ⟨hg8.os.trans (hb7.os.trans (K6.os.trans hK.os)), hg8.tape.trans (hb7.tape.trans (K6.tape.trans hK.tape)), hg8.output.trans (hb7.output.trans (K6.output.trans hK.output)), by omega, fun k hk hf => (hk8 k hk).trans ((K6.block k (by omega) hf).trans (hK.block k hk hf))⟩
      go_roundw
      case rel =>
        refine ⟨j + 1, ls ++ [L], cs ++ [[.int .i64 T.k, .int .i64 T.n, .string T.s, .slice T.la T.ls.length T.lc, .slice T.a T.args.length T.c]], by omega, by go_num, by simp [HL.out], hG8, HC.out _ _ _ R6 (by omega) hk8, fun i hi L0 hL0 => ?_, K8⟩
        by_cases h1 : i < j
        · rw [List.getElem?_append_left (by rw [HL.out]; exact h1)]; exact hout i h1 L0 hL0
        · obtain rfl : i = j := by omega
          rw [List.getElem?_append_right (by rw [HL.out]; omega), HL.out, Nat.sub_self, O6 L0 hL0]; rfl
      case measure => simp [intOf]; omega
    · obtain rfl : j = n := by omega
      go_wp2_with fail
      go_ret
      exact ⟨_, ls, cs, rfl, HL.out, hG, hR, hout, hK⟩
end Go.Proofs.YtkbpmpcbajnmlaaDoor

/- The closures' cells of the program's reader of terms; the closure that reads an arg; several of them. -/
namespace Go.Proofs.YtkbpmpcbajnmlaaDoor
open Go.RowKit

/-- The closures' cells, and where the reading of a level stands. -/
structure TS (w : World) (B g gb gp gf : Nat) (st : Er (Nat × Bs)) : Prop where
  tabs : Tabs w
  two : 2 ≤ B
  box : Blk w gb 58 [.pointer (some ⟨g, 0, none⟩)]
  fn : Blk w gf 50 [.func (.func 51) #[] #[.pointer (some ⟨gb, 0, none⟩), .pointer (some ⟨gp, 0, none⟩), .pointer (some ⟨gf, 0, none⟩)]]
  lowb : B ≤ gb
  lowp : B ≤ gp
  lowf : B ≤ gf
  n1 : g ≠ gb
  n2 : g ≠ gp
  n3 : g ≠ gf
  n4 : gp ≠ gb
  n5 : gp ≠ gf
  cnt : ∃ p : Int, -9223372036854775808 ≤ p ∧ p ≤ 9223372036854775807 ∧ Blk w gp 3 [.int .i64 p] ∧ ∀ x, st = .ok x → p = (x.1 : Int) ∧ x.1 ≤ 2000
  rd : RSx w B g st.snd

theorem TS.keep {w w' : World} {B g gb gp gf : Nat} {st : Er (Nat × Bs)} {S : Nat → Prop} (h : TS w B g gb gp gf st) (hk : Keep w w' S) (hS : ∀ k, S k → B ≤ k) (s1 : ¬ S g) (s2 : ¬ S gb) (s3 : ¬ S gp) (s4 : ¬ S gf) : TS w' B g gb gp gf st := by
  obtain ⟨p, p0, p1, hp, hst⟩ := h.cnt
  have := h.two
  exact ⟨h.tabs.keep hk (fun k s => by have := hS k s; omega), h.two, h.box.keep hk s2, h.fn.keep hk s4, h.lowb, h.lowp, h.lowf, h.n1, h.n2, h.n3, h.n4, h.n5, ⟨p, p0, p1, hp.keep hk s3, hst⟩, h.rd.keep hk s1 hS⟩

/-- .. with the reader elsewhere, and the count. -/
theorem TS.move {w w' : World} {B g gb gp gf : Nat} {st st' : Er (Nat × Bs)} (h : TS w B g gb gp gf st) (hk : Keep w w' (fun k => k = g ∨ k = gp)) (hr : RSx w' B g st'.snd) (hc : ∃ p : Int, -9223372036854775808 ≤ p ∧ p ≤ 9223372036854775807 ∧ Blk w' gp 3 [.int .i64 p] ∧ ∀ x, st' = .ok x → p = (x.1 : Int) ∧ x.1 ≤ 2000) : TS w' B g gb gp gf st' := by
  have h2 := h.two
  have hl := h.rd.low.1
  have hp := h.lowp
  exact ⟨h.tabs.keep hk (fun k s => by rcases s with rfl | rfl <;> omega), h.two, h.box.keep hk (by rintro (e | e); exact h.n1 e.symm; exact h.n4 e.symm), h.fn.keep hk (by rintro (e | e); exact h.n3 e.symm; exact h.n5 e.symm), h.lowb, h.lowp, h.lowf, h.n1, h.n2, h.n3, h.n4, h.n5, hc, hr⟩

/-- What readOn tells. -/
def TOP (w : World) (B g gb gp gf : Nat) (res : Er (Pm × Nat × Bs)) (x : Ending) (w' : World) : Prop :=
  ∃ (L : Pm) (T : Tr), x = .returned (.agg #[.int .i64 T.k, .int .i64 T.n, .string T.s, .slice T.la T.ls.length T.lc, .slice T.a T.args.length T.c]) ∧ TS w' B g gb gp gf res.snd ∧ (∀ y, res = .ok y → L = y.1) ∧
    TIs w' (fun b => w.heap.size ≤ b ∧ b < w'.heap.size) L [.int .i64 T.k, .int .i64 T.n, .string T.s, .slice T.la T.ls.length T.lc, .slice T.a T.args.length T.c] ∧ Keep w w' (fun k => k = g ∨ k = gp)

def TO (f : Nat) : Prop := ∀ (B g gb gp gf : Nat) (st : Er (Nat × Bs)) (w : World), TS w B g gb gp gf st →
  Calls Tryd.prog 51 #[.int .i64 (101 - (f : Int)), .pointer (some ⟨gb, 0, none⟩), .pointer (some ⟨gp, 0, none⟩), .pointer (some ⟨gf, 0, none⟩)] w (TOP w B g gb gp gf (st.bind (rTm f)))

set_option maxRecDepth 100000 in
set_option maxHeartbeats 2000000 in
/-- The closure that reads an arg. -/
theorem tm55 (f : Nat) (hf : f ≤ 99) (hro : TO f) (B g gb gp gf gd : Nat) (st : Er (Nat × Bs)) (w : World) (h : TS w B g gb gp gf st) (hd : Blk w gd 3 [.int .i64 (100 - (f : Int))]) :
    Calls Tryd.prog 55 #[.pointer (some ⟨gf, 0, none⟩), .pointer (some ⟨gd, 0, none⟩)] w (TOP w B g gb gp gf (st.bind (rTm f))) := by
  obtain ⟨w1, hw1, hb1, P1, hs1⟩ := one_newG w [.int .i64 0, .int .i64 0, .string { data := #[] }, .slice none 0 0, .slice none 0 0] 33
  have K1 : Keep w w1 (fun _ => False) := Keep.of_below hb1 (Nat.le_refl _)
  have h1 := h.keep K1 (fun _ s => s.elim) id id id id
  have c0 := h1.fn.cell (j := 0) rfl
  have c1 := (hd.keep K1 id).cell (j := 0) rfl
  have e1 : (100 : Int) - (f : Int) + 1 = 101 - (f : Int) := by omega
  have hcall := hro B g gb gp gf st w1 h1
  have hg := h.rd.low.2
  have hgp : gp < w.heap.size := by obtain ⟨_, _, _, hp, _⟩ := h.cnt; exact hp.lt
  rw [← e1] at hcall
  clear e1
  go_enter Tryd.func55, Tryd.ntmps55
  go_wp2_with fail
  refine hcall.mono ?_
  rintro x w2 ⟨L, T, rfl, S2, O2, I2, K2⟩
  have Q2 := P1.keep K2 (by omega)
  have q0 := Q2.cell (j := 0) rfl
  have q1 := Q2.cell (j := 1) rfl
  have q2 := Q2.cell (j := 2) rfl
  have q3 := Q2.cell (j := 3) rfl
  have q4 := Q2.cell (j := 4) rfl
  have f0 := Q2.frozen 0
  have f1 := Q2.frozen 1
  have f2 := Q2.frozen 2
  have f3 := Q2.frozen 3
  have f4 := Q2.frozen 4
  clear hcall
  go_wp2_with fail
  obtain ⟨Q3, K3⟩ := st5G Q2 (.int .i64 T.k) (.int .i64 T.n) (.string T.s) (.slice T.la T.ls.length T.lc) (.slice T.a T.args.length T.c)
  have d0 := Q3.cell (j := 0) rfl
  have d1 := Q3.cell (j := 1) rfl
  have d2 := Q3.cell (j := 2) rfl
  have d3 := Q3.cell (j := 3) rfl
  have d4 := Q3.cell (j := 4) rfl
  have z1 := K1.size
  have z2 := K2.size
  have z3 := K3.size
  have hgb : gb < w.heap.size := h.box.lt
  have hgf : gf < w.heap.size := h.fn.lt
  refine bodyPost_ret (v := .agg #[.int .i64 T.k, .int .i64 T.n, .string T.s, .slice T.la T.ls.length T.lc, .slice T.a T.args.length T.c]) (by simp [results, Tryd.results55, go_sem, d0, d1, d2, d3, d4]) rfl ⟨L, T, rfl, ?_, O2, ?_, ?_⟩
  · exact S2.keep K3 (fun k hk => by have := h.rd.low.1; omega) (by omega) (by omega) (by omega) (by omega)
  · exact TIs.car _ _ _ _ _ _ (fun b hb => K3.block b hb.2 (by omega)) (fun b hb => ⟨by omega, by omega⟩) I2
  · exact ((K1.mono (fun _ s => s.elim)).trans K2 (fun _ _ s => s)).trans K3 (fun i hi s => by omega)
theorem TS.lts {w : World} {B g gb gp gf : Nat} {st : Er (Nat × Bs)} (h : TS w B g gb gp gf st) : g < w.heap.size ∧ gb < w.heap.size ∧ gp < w.heap.size ∧ gf < w.heap.size ∧ B ≤ g := by
  obtain ⟨_, _, _, hp, _⟩ := h.cnt
  exact ⟨h.rd.low.2, h.box.lt, hp.lt, h.fn.lt, h.rd.low.1⟩

theorem TS.carry {w w' : World} {B g gb gp gf : Nat} {st : Er (Nat × Bs)} (h : TS w B g gb gp gf st) (N : Nat) (h1 : g < N) (h2 : gb < N) (h3 : gp < N) (h4 : gf < N) (hb : ∀ k, k < N → w'.heap[k]? = w.heap[k]?) : TS w' B g gb gp gf st := by
  obtain ⟨p, p0, p1, hp, hst⟩ := h.cnt
  have hB := h.rd.low.1
  have h2' := h.two
  exact ⟨h.tabs.carry (fun k hk => hb k (by omega)), h.two, h.box.carry (hb _ h2), h.fn.carry (hb _ h4), h.lowb, h.lowp, h.lowf, h.n1, h.n2, h.n3, h.n4, h.n5, ⟨p, p0, p1, hp.carry (hb _ h3), hst⟩, h.rd.carry (fun k hk => hb k (by omega)) (hb _ h1)⟩

/-- several of nothing, and of the args. -/
theorem sev_terms (f : Nat) (n : Nat) (hn : n ≤ 3) (hf : f ≤ 100) (hro : ∀ f', f = f' + 1 → TO f') (hpos : 0 < n → 0 < f) (B g gb gp gf gd : Nat) (st : Er (Nat × Bs)) (w : World) (h : TS w B g gb gp gf st) (hd : Blk w gd 3 [.int .i64 (101 - (f : Int))]) (hdg : gd ≠ g) (hdp : gd ≠ gp) :
    Calls Tryd.prog 54 #[.int .i64 (n : Int), .func (.func 55) #[] #[.pointer (some ⟨gf, 0, none⟩), .pointer (some ⟨gd, 0, none⟩)]] w fun x w' => ∃ v ls cs, x = .returned v ∧ ls.length = n ∧ GR 5 TIs w' w.heap.size 33 v ls cs ∧
      TS w' B g gb gp gf (st.bind (rMany (rTm (f - 1)) n)).snd ∧ (∀ y, st.bind (rMany (rTm (f - 1)) n) = .ok y → ls = y.1) ∧ Keep w w' (fun k => k = g ∨ k = gp) := by
  obtain ⟨l1, l2, l3, l4, l5⟩ := h.lts
  have ld := hd.lt
  have := sevT55 (fun (s : Er (Nat × Bs)) u => TS u B g gb gp gf s ∧ Blk u gd 3 [.int .i64 (101 - (f : Int))]) (fun s => (s.bind (rTm (f - 1))).snd) (outR (rTm (f - 1))) (fun k => k = g ∨ k = gp) (.pointer (some ⟨gf, 0, none⟩)) (.pointer (some ⟨gd, 0, none⟩)) n (by omega) st w
    (fun k hk => by rcases hk with rfl | rfl <;> assumption)
    (fun s u u' hR _ hb => ⟨hR.1.carry w.heap.size l1 l2 l3 l4 hb, hR.2.carry (hb _ ld)⟩)
    (fun s u h0 hR hu => by
      obtain ⟨f', rfl⟩ : ∃ f', f = f' + 1 := ⟨f - 1, by have := hpos h0; omega⟩
      have e1 : (101 : Int) - ((f' + 1 : Nat) : Int) = 100 - (f' : Int) := by omega
      have hd' := hR.2
      rw [e1] at hd'
      refine (tm55 f' (by omega) (hro f' rfl) B g gb gp gf gd s u hR.1 hd').mono ?_
      rintro x u' ⟨L, T, rfl, S2, O2, I2, K2⟩
      refine ⟨L, T, rfl, ⟨S2, ?_⟩, fun L0 hL0 => ?_, I2, K2⟩
      · exact hR.2.keep K2 (by rintro (e | e); exact hdg e; exact hdp e)
      · simp only [Nat.add_sub_cancel] at hL0
        unfold outR at hL0
        split at hL0
        · rename_i y hy; simp at hL0; rw [← hL0]; exact O2 y hy
        · cases hL0)
    ⟨h, hd⟩
  refine this.mono ?_
  rintro x w' ⟨v, ls, cs, rfl, hl, hG, ⟨hR, _⟩, hout, hK⟩
  rw [it_many] at hR
  exact ⟨v, ls, cs, rfl, hl, hG, hR, fun y hy => many_list _ n st ls hl hout y hy, hK⟩

end Go.Proofs.YtkbpmpcbajnmlaaDoor

/- Reading terms, step by step: plain facts. -/
namespace Go.Proofs.YtkbpmpcbajnmlaaDoor
open Go.RowKit

/-- Behind the Kind. -/
def tmX (f : Nat) (st : Er (Nat × Bs)) (p : Int) : Er (Nat × Bs) := (st.snd.fail (beg (p == 2000) (decide (100 < 101 - (f : Int))))).bind (rKind 0 6)

theorem tm_begin {f : Nat} {st : Er (Nat × Bs)} {p : Int} (hp : ∀ x, st = .ok x → p = (x.1 : Int)) :
    (∃ c, st = .bad c ∧ tmX f st p = .bad c) ∨ (∃ q bs c, st = .ok (q, bs) ∧ rTm f (q, bs) = .bad c ∧ tmX f st p = .bad c ∧ (q = 2000 ∨ f = 0)) ∨
    (∃ q bs f', st = .ok (q, bs) ∧ f = f' + 1 ∧ q ≠ 2000 ∧ tmX f st p = rKind 0 6 bs) := by
  cases st with
  | bad c => refine .inl ⟨c, rfl, ?_⟩; simp only [tmX, Er.snd, Er.fail]; split <;> rfl
  | ok x =>
    obtain ⟨q, bs⟩ := x
    have h1 := hp _ rfl
    simp only at h1
    by_cases h64 : q = 2000
    · refine .inr (.inl ⟨q, bs, 3, rfl, by cases f <;> simp [rTm, h64], ?_, .inl h64⟩)
      simp [tmX, Er.snd, Er.fail, beg, h1, h64, Er.bind]
    · cases f with
      | zero =>
        refine .inr (.inl ⟨q, bs, 6, rfl, by simp [rTm, h64], ?_, .inr rfl⟩)
        have e1 : ((q : Int) == 2000) = false := beq_eq_false_iff_ne.2 (by omega)
        simp [tmX, Er.snd, Er.fail, beg, h1, e1, Er.bind]
      | succ f' =>
        refine .inr (.inr ⟨q, bs, f', rfl, rfl, h64, ?_⟩)
        have e1 : ((q : Int) == 2000) = false := beq_eq_false_iff_ne.2 (by omega)
        have e2 : decide (100 < 101 - ((f' + 1 : Nat) : Int)) = false := decide_eq_false (by omega)
        simp only [tmX, Er.snd, Er.fail, beg, h1, e1, e2]
        rfl


theorem tm_zero {f : Nat} {st : Er (Nat × Bs)} {p : Int} (hp : ∀ x, st = .ok x → p = (x.1 : Int)) (h4 : (tmX f st p).told 0 = 0) :
    st.bind (rTm f) = ((tmX f st p).rest.bind rNum).bind fun y => .ok (.mk 0 y.1 ⟨#[]⟩ [] [], p.toNat + 1, y.2) := by
  rcases tm_begin hp (f := f) with ⟨c, rfl, hX⟩ | ⟨q, bs, c, rfl, hr, hX, _⟩ | ⟨q, bs, f', rfl, rfl, hq, hX⟩
  · rw [hX]; rfl
  · rw [hX]; exact hr
  · have h1 := hp _ rfl
    simp only at h1
    rw [hX] at h4 ⊢
    subst h1
    show rTm (f' + 1) (q, bs) = _
    rw [rTm, if_neg hq]
    cases hk : rKind 0 6 bs with
    | bad c => rfl
    | ok x =>
      obtain ⟨k, r⟩ := x
      rw [hk] at h4
      simp only [Er.told] at h4
      simp only [Er.bind, if_pos h4, Er.rest, Int.toNat_natCast]

theorem tm_one {f : Nat} {st : Er (Nat × Bs)} {p : Int} (hp : ∀ x, st = .ok x → p = (x.1 : Int)) (h4 : (tmX f st p).told 0 = 1) :
    st.bind (rTm f) = ((tmX f st p).rest.bind (rMany rLevel 1)).bind fun y => .ok (.mk 1 0 ⟨#[]⟩ y.1 [], p.toNat + 1, y.2) := by
  rcases tm_begin hp (f := f) with ⟨c, rfl, hX⟩ | ⟨q, bs, c, rfl, hr, hX, _⟩ | ⟨q, bs, f', rfl, rfl, hq, hX⟩
  · rw [hX]; rfl
  · rw [hX]; exact hr
  · have h1 := hp _ rfl
    simp only at h1
    rw [hX] at h4 ⊢
    subst h1
    show rTm (f' + 1) (q, bs) = _
    rw [rTm, if_neg hq]
    cases hk : rKind 0 6 bs with
    | bad c => rfl
    | ok x =>
      obtain ⟨k, r⟩ := x
      rw [hk] at h4
      simp only [Er.told] at h4
      subst h4
      simp only [Er.bind, Er.rest, Int.toNat_natCast, rMany, if_neg (show ¬ (1 = 0) by omega), if_pos]
      cases rLevel r <;> rfl

theorem tm_two {f : Nat} {st : Er (Nat × Bs)} {p : Int} (hp : ∀ x, st = .ok x → p = (x.1 : Int)) (h4 : (tmX f st p).told 0 = 2) :
    st.bind (rTm f) = ((tmX f st p).rest.bind rName).bind fun y => (rUpTo 4 7 y.2).bind fun z => (rMany rLevel z.1 z.2).bind fun u => .ok (.mk 2 0 ⟨y.1.toArray⟩ u.1 [], p.toNat + 1, u.2) := by
  rcases tm_begin hp (f := f) with ⟨c, rfl, hX⟩ | ⟨q, bs, c, rfl, hr, hX, _⟩ | ⟨q, bs, f', rfl, rfl, hq, hX⟩
  · rw [hX]; rfl
  · rw [hX]; exact hr
  · have h1 := hp _ rfl
    simp only at h1
    rw [hX] at h4 ⊢
    subst h1
    show rTm (f' + 1) (q, bs) = _
    rw [rTm, if_neg hq]
    cases hk : rKind 0 6 bs with
    | bad c => rfl
    | ok x =>
      obtain ⟨k, r⟩ := x
      rw [hk] at h4
      simp only [Er.told] at h4
      subst h4
      simp only [Er.bind, Er.rest, Int.toNat_natCast, if_neg (show ¬ (2 = 0) by omega), if_neg (show ¬ (2 = 1) by omega), if_pos]

theorem tm_more {f : Nat} {st : Er (Nat × Bs)} {p : Int} (hp : ∀ x, st = .ok x → p = (x.1 : Int)) (h4 : 3 ≤ (tmX f st p).told 0) :
    st.bind (rTm f) = ((lvS (tmX f st p) p.toNat).bind (rMany (rTm (f - 1)) (argT ((tmX f st p).told 0)))).bind fun y => .ok (.mk (((tmX f st p).told 0 : Nat) : Int) 0 ⟨#[]⟩ [] y.1, y.2) := by
  rcases tm_begin hp (f := f) with ⟨c, rfl, hX⟩ | ⟨q, bs, c, rfl, hr, hX, _⟩ | ⟨q, bs, f', rfl, rfl, hq, hX⟩
  · rw [hX]; rfl
  · rw [hX]; exact hr
  · have h1 := hp _ rfl
    simp only at h1
    rw [hX] at h4 ⊢
    subst h1
    show rTm (f' + 1) (q, bs) = _
    rw [rTm, if_neg hq]
    cases hk : rKind 0 6 bs with
    | bad c => rfl
    | ok x =>
      obtain ⟨k, r⟩ := x
      rw [hk] at h4
      simp only [Er.told] at h4
      simp only [Er.bind, lvS, Er.told, if_neg (show ¬ (k = 0) by omega), if_neg (show ¬ (k = 1) by omega), if_neg (show ¬ (k = 2) by omega), Int.toNat_natCast, Nat.add_sub_cancel]

theorem tmS_cnt {w : World} {gp f : Nat} {st : Er (Nat × Bs)} {p : Int} (hst : ∀ x, st = .ok x → p = (x.1 : Int) ∧ x.1 ≤ 2000) (hp : Blk w gp 3 [.int .i64 (wrap64 (p + 1))]) :
    ∃ p' : Int, -9223372036854775808 ≤ p' ∧ p' ≤ 9223372036854775807 ∧ Blk w gp 3 [.int .i64 p'] ∧ ∀ x, lvS (tmX f st p) p.toNat = .ok x → p' = (x.1 : Int) ∧ x.1 ≤ 2000 := by
  refine ⟨_, by unfold wrap64; omega, by unfold wrap64; omega, hp, fun x hx => ?_⟩
  rcases tm_begin (f := f) (fun x hx => (hst x hx).1) with ⟨c, _, hX⟩ | ⟨q, bs, c, _, _, hX, _⟩ | ⟨q, bs, f', hs, _, hq, hX⟩
  · rw [hX] at hx; cases hx
  · rw [hX] at hx; cases hx
  · obtain ⟨h1, h2⟩ := hst _ hs
    simp only at h1 h2
    rw [hX] at hx
    cases hk : rKind 0 6 bs with
    | bad c => rw [hk] at hx; cases hx
    | ok y =>
      rw [hk] at hx
      simp only [lvS, Er.bind, Er.ok.injEq] at hx
      subst hx
      simp only
      rw [h1, wrap64_smallG _ (by omega) (by omega)]
      omega

end Go.Proofs.YtkbpmpcbajnmlaaDoor

/- several of levels by the reader; what the walks of the reader of terms share. -/
namespace Go.Proofs.YtkbpmpcbajnmlaaDoor
open Go.RowKit

/-- several of levels. -/
theorem sev_levels (n : Nat) (hn : n ≤ 1000) (B g : Nat) (st : Er Bs) (w : World) (ht : Tabs w) (h2 : 2 ≤ B) (h : RSx w B g st) :
    Calls Tryd.prog 48 #[.int .i64 (n : Int), .func (.func 29) #[.pointer (some ⟨g, 0, none⟩)] #[]] w fun x w' => ∃ v ls cs, x = .returned v ∧ ls.length = n ∧ GR 3 LIs w' w.heap.size 27 v ls cs ∧
      RSx w' B g (st.bind (rMany rLevel n)).snd ∧ (∀ y, st.bind (rMany rLevel n) = .ok y → ls = y.1) ∧ Keep w w' (· = g) := by
  obtain ⟨hBg, hg⟩ := h.low
  have := sevL29 (fun (s : Er Bs) u => RSx u B g s ∧ Tabs u) (fun s => (s.bind rLevel).snd) (outR rLevel) (· = g) (.pointer (some ⟨g, 0, none⟩)) n hn st w
    (fun k hk => by omega)
    (fun s u u' hR _ hb => ⟨hR.1.carry (fun k hk => hb k (by omega)) (hb _ hg), hR.2.carry (fun k hk => hb k (by omega))⟩)
    (fun s u _ hR hu => by
      refine (level_any B g s u hR.2 h2 hR.1).mono ?_
      rintro x u' ⟨L, k, m, ao, l, cap, rfl, S2, O2, I2, K2⟩
      refine ⟨L, k, m, ao, l, cap, rfl, ⟨?_, hR.2.keep K2 (fun k hk => by omega)⟩, fun L0 hL0 => ?_, I2, K2⟩
      · cases hx : s.bind rLevel with
        | bad c => rw [hx] at S2; exact S2
        | ok y => rw [hx] at S2; exact S2
      · unfold outR at hL0
        split at hL0
        · rename_i y hy; simp at hL0; rw [← hL0]; exact O2 y hy
        · cases hL0)
    ⟨h, ht⟩
  refine this.mono ?_
  rintro x w' ⟨v, ls, cs, rfl, hl, hG, ⟨hR, _⟩, hout, hK⟩
  rw [it_many] at hR
  exact ⟨v, ls, cs, rfl, hl, hG, hR, fun y hy => many_list _ n st ls hl hout y hy, hK⟩

/-- The count, where more was read. -/
theorem tm_cnt {α β : Type} {w w' : World} {B g gb gp gf q : Nat} {X : Er (β × Bs)} {Y : Er (α × Bs)} (h : TS w B g gb gp gf (X.bind fun x => .ok (q + 1, x.2))) (hk : Keep w w' (· = g)) (hY : ∀ c, X = .bad c → Y = .bad c) :
    ∃ p' : Int, -9223372036854775808 ≤ p' ∧ p' ≤ 9223372036854775807 ∧ Blk w' gp 3 [.int .i64 p'] ∧ ∀ x, (Y.bind fun y => .ok (q + 1, y.2)) = .ok x → p' = (x.1 : Int) ∧ x.1 ≤ 2000 := by
  obtain ⟨p', h0, h1, h2, h3⟩ := h.cnt
  refine ⟨p', h0, h1, h2.keep hk (fun e => h.n2 e.symm), fun x hx => ?_⟩
  cases X with
  | bad c => rw [hY c rfl] at hx; cases hx
  | ok z =>
    have := h3 _ rfl
    cases Y with
    | bad c => cases hx
    | ok y =>
      simp only [Er.bind, Er.ok.injEq] at hx
      subst hx
      exact this

theorem tm_rest {α : Type} {w : World} {B g q : Nat} {Y : Er (α × Bs)} (h : RSx w B g Y.rest) : RSx w B g (Y.bind fun y => .ok (q, y.2)).snd := by cases Y <;> exact h

/-- A term, put together. -/
theorem tr_made {w : World} {S : Nat → Prop} {k n : Int} {s : ByteArray} {ls : List Lv} {la : Option Addr} {lc : Nat} {a : Option Addr} {c b : Nat} {ts : List Tr} (hk : -9223372036854775808 ≤ k ∧ k ≤ 9223372036854775807) (hn : -9223372036854775808 ≤ n ∧ n ≤ 9223372036854775807)
    (hl : Node w S 0 0 ls la lc) (h1 : ts.length ≤ c) (h2 : c ≤ maxLen) (h3 : ts = [] ∨ (a = some ⟨b, 0, none⟩ ∧ S b ∧ TAll w S b 0 ts)) : TIn w S (.mk k n s ls la lc a c b 0 ts) :=
  tin_iff.2 ⟨hk.1, hk.2, hn.1, hn.2, hl, h1, h2, h3⟩

theorem TAll.carry {w w' : World} {S T : Nat → Prop} {b off : Nat} {ts : List Tr} (h : TAll w S b off ts) (hS : S b) (hb : ∀ b, S b → w'.heap[b]? = w.heap[b]?) (hT : ∀ b, S b → T b) : TAll w' T b off ts :=
  TAll.of_get fun i L hi => ⟨(h.get i L hi).1.carry (hb b hS), TIn.carry hb hT L (h.get i L hi).2⟩

theorem node_none (w : World) (S : Nat → Prop) : Node w S 0 0 [] none 0 := ⟨by decide, by decide, by decide, by decide, by simp, by decide, .inl rfl⟩

theorem upTo_told (x : Er Bs) (m c : Nat) : (x.bind (rUpTo m c)).told 0 ≤ m := by
  have : x.bind (rUpTo m c) = chk (fun v => decide (v ≤ m)) c (x.bind rNum) := bind_chk x _ _ _
  rw [this, chk_told]
  split
  · rename_i h; simpa using h
  · omega

theorem tm_two2 {f : Nat} {st : Er (Nat × Bs)} {p : Int} (hp : ∀ x, st = .ok x → p = (x.1 : Int)) (h4 : (tmX f st p).told 0 = 2) :
    st.bind (rTm f) = ((((tmX f st p).rest.bind rName).rest.bind (rUpTo 4 7)).rest.bind (rMany rLevel ((((tmX f st p).rest.bind rName).rest.bind (rUpTo 4 7)).told 0))).bind fun u => .ok (.mk 2 0 ⟨(((tmX f st p).rest.bind rName).told []).toArray⟩ u.1 [], p.toNat + 1, u.2) := by
  rw [tm_two hp h4]
  cases (tmX f st p).rest.bind rName with
  | bad c => rfl
  | ok y =>
    show (rUpTo 4 7 y.2).bind _ = _
    simp only [Er.rest, Er.told, Er.bind]
    cases rUpTo 4 7 y.2 with
    | bad c => rfl
    | ok z => rfl
end Go.Proofs.YtkbpmpcbajnmlaaDoor
