/- The walk of the program's several of constructors. -/
import Derived.Test.YtkbpmpcbajnmlaaDoorWr2
namespace Go.Proofs.YtkbpmpcbajnmlaaDoor
open Go.RowKit

theorem info69s : ∃ i, Tryd.prog.info? 69 = some i ∧ i.zero = some (.agg #[.string { data := #[] }, .int .i64 0, .int .i64 0, .string { data := #[] }, .slice none 0 0, .slice none 0 0]) ∧ i.size = 6 ∧ i.bytes = 96 := by
  have h : (Tryd.prog.info? 69).map (fun i => (i.zero, i.size, i.bytes)) = some (some (.agg #[.string { data := #[] }, .int .i64 0, .int .i64 0, .string { data := #[] }, .slice none 0 0, .slice none 0 0]), 6, 96) := by kernel_rfl
  obtain ⟨i, hi, he⟩ := Option.map_eq_some_iff.1 h
  simp only [Prod.mk.injEq] at he
  exact ⟨i, hi, he⟩

theorem enter59s (args : Array Value) (w : World) : (callFunc 59 args).run Tryd.prog w = .ok (.enter 59 args) w := enter_of Tryd.func59 (by kernel_rfl) rfl args w

set_option maxRecDepth 100000 in
set_option maxHeartbeats 2000000 in
theorem sevC59 {σ : Type} (R : σ → World → Prop) (nx : σ → σ) (out : σ → Option (Bs × Pm)) (F : Nat → Prop) (p : Value) (n : Nat) (hn : n ≤ 1000) (s0 : σ) (w : World)
    (hF : ∀ k, F k → k < w.heap.size)
    (hcar : ∀ (s : σ) (u u' : World), R s u → u.heap.size ≤ u'.heap.size → (∀ k, k < w.heap.size → u'.heap[k]? = u.heap[k]?) → R s u')
    (hstep : ∀ (s : σ) (u : World), 0 < n → R s u → w.heap.size ≤ u.heap.size → Calls Tryd.prog 59 #[p] u fun x u' => ∃ (L : (Bs × Pm)) (ss : ByteArray) (T : Tr), x = .returned (.agg #[.string ss, .int .i64 T.k, .int .i64 T.n, .string T.s, .slice T.la T.ls.length T.lc, .slice T.a T.args.length T.c]) ∧ R (nx s) u' ∧ (∀ L0, out s = some L0 → L = L0) ∧ CIs u' (fun b => u.heap.size ≤ b ∧ b < u'.heap.size) L [.string ss, .int .i64 T.k, .int .i64 T.n, .string T.s, .slice T.la T.ls.length T.lc, .slice T.a T.args.length T.c] ∧ Keep u u' F)
    (h0 : R s0 w) :
    Calls Tryd.prog 58 #[.int .i64 (n : Int), .func (.func 59) #[p] #[]] w fun x w' => ∃ v ls cs, x = .returned v ∧ ls.length = n ∧ GR 6 CIs w' w.heap.size 69 v ls cs ∧ R (it nx n s0) w' ∧ (∀ i, i < n → ∀ L0, out (it nx i s0) = some L0 → ls[i]? = some L0) ∧ Keep w w' F := by
  obtain ⟨i27, hi27, hz27, hs27, hb27⟩ := info69s
  have HS : Hid _ := hstep
  have HC : Hid _ := hcar
  clear hstep hcar
  go_enter Tryd.func58, Tryd.ntmps58
  go_wp2_with fail
  go_loopw [4, 6] (fun v i wr => ∃ (j : Nat) (ls : List (Bs × Pm)) (cs : List (List Value)), j ≤ n ∧ i = .int .i64 (j : Int) ∧ ls.length = j ∧ GR 6 CIs wr w.heap.size 69 v ls cs ∧ R (it nx j s0) wr ∧ (∀ i, i < j → ∀ L0, out (it nx i s0) = some L0 → ls[i]? = some L0) ∧ Keep w wr F) (fun _ i _ => n - (intOf i).toNat)
  case atStart => exact ⟨0, [], [], by omega, rfl, rfl, GR.nil _ _ _ _ _, h0, fun i hi => by omega, Keep.refl _ _⟩
  case round =>
    obtain ⟨j, ls, cs, hj, rfl, hlen, hG, hR, hout, hK⟩ := hrel
    have hwr := hK.size
    obtain ⟨ao, cap, hv, hle, hmx⟩ := hG.slice
    rw [hlen] at hv hle
    subst hv
    have HL : Hid (ls.length = j) := hlen
    by_cases hlt : j < n
    · have hd : decide ((j : Int) < (n : Int)) = true := decide_eq_true (by omega)
      have hcall := HS.out _ wr (by omega) hR hwr
      have hown := hG.2.2.1
      rw [hlen] at hown
      have HO : Hid _ := hown
      have HG : Hid _ := hG
      clear hown hG hR hlen
      go_wp2_with fail
      refine hcall.mono ?_
      rintro x w6 ⟨L, ss, T, rfl, R6, O6, I6, K6⟩
      clear hcall
      obtain ⟨w7, hw7, hb7, X7, hs7⟩ := one_newG w6 [.string ss, .int .i64 T.k, .int .i64 T.n, .string T.s, .slice T.la T.ls.length T.lc, .slice T.a T.args.length T.c] 69
      have s6 := K6.size
      have s7 := hb7.size
      have hk6 : ∀ b, w.heap.size ≤ b → b < wr.heap.size → w6.heap[b]? = wr.heap[b]? := fun b h1 h2 => K6.block b h2 (fun hf => by have := hF b hf; omega)
      have hown6 : w6.ownsRow w.heap.size 69 6 (.slice ao j cap) j cs.flatten := owns_block HO.out (fun g hg => hk6 g (owns_own HO.out hg).1 (owns_own HO.out hg).2)
      have HO7 : Hid _ := owns_below hown6 hb7
      clear hown6
      go_wp2_with (at_builtin; refine wpList_append_two (P := Tryd.prog) (by rfl) (.tmp 8) (.tmp 11) 36 (by rfl) w.heap.size 69 i27 _ 6 96 Tryd.underlying36 hi27 hz27 hs27 hb27 (by rfl) (by decide) (.slice ao j cap) j cs.flatten (by rfl) HO7.out ⟨w6.heap.size, 0, none⟩ 1 1 [.string ss, .int .i64 T.k, .int .i64 T.n, .string T.s, .slice T.la T.ls.length T.lc, .slice T.a T.args.length T.c] (by rfl) (by rfl) (fun i u hu => by rw [Addr.add_lit, Nat.zero_add]; exact X7.cell hu) (by simp [Value.oneCell']) (by unfold maxLen; omega) (by omega) (by omega) (by decide) ?_; intro v' w8 ho8 hg8 hn8)
      have hG8 := GR.push (c := [.string ss, .int .i64 T.k, .int .i64 T.n, .string T.s, .slice T.la T.ls.length T.lc, .slice T.a T.args.length T.c]) (x := L) CIs.car HG.out hwr s6 hk6 I6 rfl hb7 (by rw [HL.out]; exact ho8) hg8 hn8
      have hob : ∀ b, some b = (Value.slice ao j cap).ownBlock → w.heap.size ≤ b := fun b hb => (owns_own HO.out hb.symm).1
      have s8 := hg8.size
      have hk8 : ∀ k, k < w.heap.size → w8.heap[k]? = w6.heap[k]? := fun k hk => (hg8.block k (by omega) (fun e => by have := hob k e; omega)).trans (hb7.block k (by omega))
      have K8 : Keep w w8 F := ⟨hg8.os.trans (hb7.os.trans (K6.os.trans hK.os)), hg8.tape.trans (hb7.tape.trans (K6.tape.trans hK.tape)), hg8.output.trans (hb7.output.trans (K6.output.trans hK.output)), by omega, fun k hk hf => (hk8 k hk).trans ((K6.block k (by omega) hf).trans (hK.block k hk hf))⟩
      go_roundw
      case rel =>
        refine ⟨j + 1, ls ++ [L], cs ++ [[.string ss, .int .i64 T.k, .int .i64 T.n, .string T.s, .slice T.la T.ls.length T.lc, .slice T.a T.args.length T.c]], by omega, by go_num, by simp [HL.out], hG8, HC.out _ _ _ R6 (by omega) hk8, fun i hi L0 hL0 => ?_, K8⟩
        by_cases h1 : i < j
        · rw [List.getElem?_append_left (by rw [HL.out]; exact h1)]; exact hout i h1 L0 hL0
        · obtain rfl : i = j := by omega
          rw [List.getElem?_append_right (by rw [HL.out]; omega), HL.out, Nat.sub_self, O6 L0 hL0]; rfl
      case measure => simp [intOf]; omega
    · obtain rfl : j = n := by omega
      go_wp2_with fail
      go_ret
      exact ⟨_, ls, cs, rfl, HL.out, hG, hR, hout, hK⟩

/-- several of constructors. -/
theorem sev_ctors (n : Nat) (hn : n ≤ 1000) (B g : Nat) (st : Er Bs) (w : World) (ht : Tabs w) (h2 : 2 ≤ B) (h : RSx w B g st) :
    Calls Tryd.prog 58 #[.int .i64 (n : Int), .func (.func 59) #[.pointer (some ⟨g, 0, none⟩)] #[]] w fun x w' => ∃ v ls cs, x = .returned v ∧ ls.length = n ∧ GR 6 CIs w' w.heap.size 69 v ls cs ∧
      RSx w' B g (st.bind (rMany rCtor n)).snd ∧ (∀ y, st.bind (rMany rCtor n) = .ok y → ls = y.1) ∧ Keep w w' (· = g) := by
  obtain ⟨hBg, hg⟩ := h.low
  have := sevC59 (fun (s : Er Bs) u => RSx u B g s ∧ Tabs u) (fun s => (s.bind rCtor).snd) (outR rCtor) (· = g) (.pointer (some ⟨g, 0, none⟩)) n hn st w
    (fun k hk => by omega)
    (fun s u u' hR _ hb => ⟨hR.1.carry (fun k hk => hb k (by omega)) (hb _ hg), hR.2.carry (fun k hk => hb k (by omega))⟩)
    (fun s u _ hR hu => by
      refine (ctor_any B g s u hR.2 h2 hR.1).mono ?_
      rintro x u' ⟨L, ss, T, rfl, S2, O2, I2, K2⟩
      refine ⟨L, ss, T, rfl, ⟨?_, hR.2.keep K2 (fun k hk => by omega)⟩, fun L0 hL0 => ?_, I2, K2⟩
      · cases hx : s.bind rCtor with
        | bad c => rw [hx] at S2; exact S2
        | ok y => rw [hx] at S2; exact S2
      · unfold outR at hL0
        split at hL0
        · rename_i y hy; simp at hL0; rw [← hL0]; exact O2 y hy
        · cases hL0)
    ⟨h, ht⟩
  refine this.mono ?_
  rintro x w' ⟨v, ls, cs, rfl, hl, hG, ⟨hR, _⟩, hout, hK⟩
  rw [it_many] at hR
  exact ⟨v, ls, cs, rfl, hl, hG, hR, fun y hy => many_list _ n st ls hl hout y hy, hK⟩

set_option maxRecDepth 100000 in
theorem vals_any (k : Nat) (w : World) : Calls Tryd.prog 57 #[.int .i64 (k : Int)] w fun x w' => x = .returned (.int .i64 ((vals k : Nat) : Int)) ∧ w = w' := by
  by_cases h : k = 2
  · subst h
    go_enter Tryd.func57, Tryd.ntmps57
    go_wp2_with fail
    go_ret
    exact ⟨rfl, rfl⟩
  · have hd : ((k : Int) == 2) = false := beq_eq_false_iff_ne.2 (by omega)
    have hv : vals k = 0 := by simp [vals, h]
    have HV : Hid _ := hv
    clear hv
    go_enter Tryd.func57, Tryd.ntmps57
    go_wp2_with fail
    go_ret
    exact ⟨by rw [HV.out]; rfl, rfl⟩
end Go.Proofs.YtkbpmpcbajnmlaaDoor

/- The walk of the program's reader of a declaration. No condition but that the bytes can be read, are no longer than 2^40, and that the tables are laid. -/
namespace Go.Proofs.YtkbpmpcbajnmlaaDoor
open Go.RowKit

/-- Constructors in a row. -/
def CRw (w : World) (S : Nat → Prop) (b off : Nat) (cs : List (Bs × Pm)) : Prop := ∀ (i : Nat) (x : Bs × Pm), cs[i]? = some x → ∃ U : Tr, U.pl = x.2 ∧ w.cell? ⟨b, off + i * 6, none⟩ = some (.string ⟨x.1.toArray⟩) ∧ TCells w b (off + i * 6 + 1) U ∧ TIn w S U
theorem CRw.carry {w w' : World} {S T : Nat → Prop} {b off : Nat} {cs : List (Bs × Pm)} (h : CRw w S b off cs) (hS : S b) (hb : ∀ b, S b → w'.heap[b]? = w.heap[b]?) (hT : ∀ b, S b → T b) : CRw w' T b off cs := fun i x hi => by
  obtain ⟨U, h1, h2, h3, h4⟩ := h i x hi
  exact ⟨U, h1, (World.cell?_of_block (w := w) (hb b hS)).trans h2, h3.carry (hb b hS), TIn.carry hb hT U h4⟩

/-- A list of constructors. -/
def CLs (w : World) (S : Nat → Prop) (cs : List (Bs × Pm)) (ca : Option Addr) (cc : Nat) : Prop := cs.length ≤ cc ∧ cc ≤ maxLen ∧ (cs = [] ∨ ∃ b off, ca = some ⟨b, off, none⟩ ∧ S b ∧ CRw w S b off cs)
theorem CLs.carry {w w' : World} {S T : Nat → Prop} {cs : List (Bs × Pm)} {ca : Option Addr} {cc : Nat} (h : CLs w S cs ca cc) (hb : ∀ b, S b → w'.heap[b]? = w.heap[b]?) (hT : ∀ b, S b → T b) : CLs w' T cs ca cc :=
  ⟨h.1, h.2.1, h.2.2.imp id fun ⟨b, off, h1, h2, h3⟩ => ⟨b, off, h1, hT b h2, h3.carry h2 hb hT⟩⟩

theorem GR.clist {w : World} {base : Nat} {e : TypeId} {v : Value} {xs : List (Bs × Pm)} {cs : List (List Value)} (h : GR 6 CIs w base e v xs cs) : ∃ a c, v = .slice a xs.length c ∧ CLs w (fun b => base ≤ b ∧ b < w.heap.size) xs a c := by
  obtain ⟨a, c, rfl, e2, e3⟩ := h.slice
  refine ⟨a, c, rfl, e2, e3, ?_⟩
  by_cases h0 : xs = []
  · exact .inl h0
  · obtain ⟨g, cap, e4, g1, g2, g3, g4⟩ := owns_shape h.2.2.1 (List.length_pos_iff.2 h0)
    simp only [Value.slice.injEq, true_and] at e4
    obtain ⟨rfl, rfl⟩ := e4
    refine .inr ⟨g, 0, rfl, ⟨g1, g2⟩, fun i x hi => ?_⟩
    have hlt := (List.getElem?_eq_some_iff.1 hi).1
    obtain ⟨d, hd⟩ : ∃ d, cs[i]? = some d := ⟨_, List.getElem?_eq_getElem (by rw [h.1]; exact hlt)⟩
    obtain ⟨U, h1, rfl, h3⟩ := h.2.2.2 i x d hi hd
    have cc : ∀ {j u}, (Value.string ⟨x.1.toArray⟩ :: U.cells)[j]? = some u → w.cell? ⟨g, i * 6 + j, none⟩ = some u := fun {j u} hj => by
      obtain ⟨g', e, _, _, h5⟩ := h.cell rfl hd hj
      obtain rfl : g = g' := by simpa using e
      exact h5
    rw [Nat.zero_add]
    exact ⟨U, h1, cc (j := 0) rfl, ⟨cc (j := 1) rfl, cc (j := 2) rfl, cc (j := 3) rfl, cc (j := 4) rfl, cc (j := 5) rfl⟩, h3.mono fun b hb => ⟨hb.1, hb.2.1⟩⟩

/-- A declaration's cells. -/
def dcells (k p c : Int) (n f : ByteArray) (U V : Tr) (ca : Option Addr) (cl cc : Nat) : List Value := [.int .i64 k, .int .i64 p, .int .i64 c, .string n, .string f, .int .i64 U.k, .int .i64 U.n, .string U.s, .slice U.la U.ls.length U.lc, .slice U.a U.args.length U.c, .int .i64 V.k, .int .i64 V.n, .string V.s, .slice V.la V.ls.length V.lc, .slice V.a V.args.length V.c, .slice ca cl cc]

/-- A declaration, by its parts. -/
structure DIs (w : World) (S : Nat → Prop) (d : Dc) (k p c : Int) (n f : ByteArray) (U V : Tr) (ca : Option Addr) (cl cc : Nat) : Prop where
  ek : k = d.k
  ep : p = d.p
  ec : c = d.c
  en : n = ⟨d.n.toArray⟩
  ef : f = ⟨d.f.toArray⟩
  et : U.pl = d.t
  ev : V.pl = d.v
  el : cl = d.cs.length
  it : TIn w S U
  iv : TIn w S V
  ic : CLs w S d.cs ca cc
  bk : d.k ≤ 5
  bp : d.p ≤ 1073741824
  bc : d.c ≤ 1073741824

theorem DIs.carry {w w' : World} {S T : Nat → Prop} {d : Dc} {k p c : Int} {n f : ByteArray} {U V : Tr} {ca : Option Addr} {cl cc : Nat} (h : DIs w S d k p c n f U V ca cl cc) (hb : ∀ b, S b → w'.heap[b]? = w.heap[b]?) (hT : ∀ b, S b → T b) : DIs w' T d k p c n f U V ca cl cc :=
  ⟨h.ek, h.ep, h.ec, h.en, h.ef, h.et, h.ev, h.el, TIn.carry hb hT _ h.it, TIn.carry hb hT _ h.iv, h.ic.carry hb hT, h.bk, h.bp, h.bc⟩

/-- What reading a declaration tells. -/
def DcP (w : World) (B g : Nat) (res : Er (Dc × Bs)) (x : Ending) (w' : World) : Prop :=
  ∃ (d : Dc) (k p c : Int) (n f : ByteArray) (U V : Tr) (ca : Option Addr) (cl cc : Nat), x = .returned (.agg #[.int .i64 k, .int .i64 p, .int .i64 c, .string n, .string f, .int .i64 U.k, .int .i64 U.n, .string U.s, .slice U.la U.ls.length U.lc, .slice U.a U.args.length U.c, .int .i64 V.k, .int .i64 V.n, .string V.s, .slice V.la V.ls.length V.lc, .slice V.a V.args.length V.c, .slice ca cl cc]) ∧ RSx w' B g res.rest ∧ (∀ y, res = .ok y → d = y.1) ∧
    DIs w' (fun b => w.heap.size ≤ b ∧ b < w'.heap.size) d k p c n f U V ca cl cc ∧ Keep w w' (· = g)

/-- The reading, part by part. -/
theorem decl_bind (st : Er Bs) (X1 : Er (Nat × Bs)) (h1 : st.bind (rKind 1 5) = X1) (X2 : Er (Nat × Bs)) (h2 : X1.rest.bind rNum = X2) (X3 : Er (Nat × Bs)) (h3 : X2.rest.bind rNum = X3) (X4 : Er (Bs × Bs)) (h4 : X3.rest.bind rName = X4) (X5 : Er (Bs × Bs)) (h5 : X4.rest.bind rName = X5) (X6 : Er (Pm × Bs)) (h6 : X5.rest.bind rTerm = X6)
    (X8 : Er (Pm × Bs)) (h8 : X6.rest.bind (rVal (X1.told 0)) = X8) (X9 : Er (Nat × Bs)) (h9 : X8.rest.bind (rUpTo 5 3) = X9) (X10 : Er (List (Bs × Pm) × Bs)) (h10 : X9.rest.bind (rMany rCtor (X9.told 0)) = X10) :
    st.bind rDecl = X10.bind fun cs => .ok (⟨X1.told 0, X2.told 0, X3.told 0, X4.told [], X5.told [], X6.told noTm, X8.told noTm, cs.1⟩, cs.2) := by
  subst h10 h9 h8 h6 h5 h4 h3 h2 h1
  cases st with
  | bad c => rfl
  | ok bs =>
    show rDecl bs = _
    unfold rDecl
    simp only [Er.bind]
    cases rKind 1 5 bs with
    | bad c => rfl
    | ok a =>
      dsimp only [Er.rest, Er.told]
      cases rNum a.2 with
      | bad c => rfl
      | ok b =>
        dsimp only [Er.rest, Er.told]
        cases rNum b.2 with
        | bad c => rfl
        | ok c =>
          dsimp only [Er.rest, Er.told]
          cases rName c.2 with
          | bad c => rfl
          | ok d =>
            dsimp only [Er.rest, Er.told]
            cases rName d.2 with
            | bad c => rfl
            | ok e =>
              dsimp only [Er.rest, Er.told]
              cases rTerm e.2 with
              | bad c => rfl
              | ok t =>
                dsimp only [Er.rest, Er.told]
                cases rVal a.1 t.2 with
                | bad c => rfl
                | ok v =>
                  dsimp only [Er.rest, Er.told]
                  cases rUpTo 5 3 v.2 with
                  | bad c => rfl
                  | ok m => rfl

theorem bind_ok {α β : Type} {X : Er (α × Bs)} {f : Bs → Er β} {y : β} (h : X.rest.bind f = .ok y) : ∃ r, X = .ok r := by
  cases X with
  | bad c => cases h
  | ok r => exact ⟨r, rfl⟩

/-- A cell of the declaration that is made is written. -/
theorem setw {u : World} {d : Nat} {l : List Value} {B g : Nat} {X : Er Bs} (P : Blk u d 38 l) (off : Nat) (val : Value) (R : RSx u B g X) (Tb : Tabs u) (hd : d ≠ g) (hB : B ≤ d) (h2 : 2 ≤ d) :
    ∃ v, u.setCell ⟨d, off, none⟩ val = v ∧ Blk v d 38 (l.set off val) ∧ Keep u v (· = d) ∧ RSx v B g X ∧ Tabs v ∧ v.heap.size = u.heap.size := by
  have K : Keep u (u.setCell ⟨d, off, none⟩ val) (· = d) := (Keep.refl u (· = d)).setCell (fun _ => rfl) off _
  exact ⟨_, rfl, P.set off val, K, R.keep K (fun e => hd e.symm) (fun k hk => by omega), Tb.keep K (fun k hk => by omega), by simp [World.setCell]⟩
theorem setw5 {u : World} {d : Nat} {l : List Value} {B g : Nat} {X : Er Bs} (P : Blk u d 38 l) (o : Nat) (a0 a1 a2 a3 a4 : Value) (R : RSx u B g X) (Tb : Tabs u) (hd : d ≠ g) (hB : B ≤ d) (h2 : 2 ≤ d) :
    ∃ v, ((((u.setCell ⟨d, o, none⟩ a0).setCell ⟨d, o + 1, none⟩ a1).setCell ⟨d, o + 2, none⟩ a2).setCell ⟨d, o + 3, none⟩ a3).setCell ⟨d, o + 4, none⟩ a4 = v ∧ Blk v d 38 (ovr l o [a0, a1, a2, a3, a4]) ∧ Keep u v (· = d) ∧ RSx v B g X ∧ Tabs v ∧ v.heap.size = u.heap.size := by
  have K : Keep u (puts u d o [a0, a1, a2, a3, a4]) (· = d) := puts_keep _ _ (Keep.refl _ _)
  exact ⟨puts u d o [a0, a1, a2, a3, a4], rfl, puts_blk P o _, K, R.keep K (fun e => hd e.symm) (fun k hk => by omega), Tb.keep K (fun k hk => by omega), by simp [puts, World.setCell]⟩
end Go.Proofs.YtkbpmpcbajnmlaaDoor
