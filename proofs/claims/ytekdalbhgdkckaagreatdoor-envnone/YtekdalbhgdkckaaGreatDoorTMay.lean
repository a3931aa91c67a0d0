/- The walk of term's May. No condition but that the term lies in memory, that it has fewer than 2^20 parts, and that the tables hold what the program's text lays. -/
import Derived.Test.YtekdalbhgdkckaaGreatDoorDepth
import Derived.Test.YtekdalbhgdkckaaGreatDoorChk2
namespace Go.Proofs.YtekdalbhgdkckaaGreatDoor
open Go.RowKit Go.Shelf

attribute [local go_sem] Oper.semAt_some

/-- What is known of each part of a term. -/
structure AtP (w : World) (B rb M : Nat) (p : Pt) : Prop where
  cells : TCells w p.b p.off p.t
  tin : TIn w (· < B) p.t
  at' : p.b < B ∨ p.b = rb
  m : p.m ≤ M

theorem AtP.carry {w w' : World} {B rb M : Nat} {p : Pt} (h : AtP w B rb M p) (hb : ∀ k, k < B ∨ k = rb → w'.heap[k]? = w.heap[k]?) : AtP w' B rb M p :=
  ⟨h.cells.carry (hb _ h.at'), TIn.carry (fun b hlt => hb b (.inl hlt)) (fun _ h => h) _ h.tin, h.at', h.m⟩

theorem seqs_at (w : World) (B rb M : Nat) (k : Int) (b off d m : Nat) (l : List Tr) : (∀ T ∈ l, ∀ b off d m, TCells w b off T → TIn w (· < B) T → (b < B ∨ b = rb) → m + T.size ≤ M → ∀ p ∈ T.seq b off d m, AtP w B rb M p) →
    ∀ i, (∀ j L, l[j]? = some L → TCells w b (off + (i + j) * 5) L ∧ TIn w (· < B) L) → b < B → m + 1 + Tr.sizes l ≤ M → ∀ p ∈ Tr.seqs k b off d m i l, AtP w B rb M p := by
  induction l with
  | nil => intro _ i _ _ _ p hp; simp [Tr.seqs] at hp
  | cons x r ih =>
    intro h i hl hb hM p hp
    rw [Tr.seqs] at hp
    simp only [Tr.sizes] at hM
    have hbd := bnd_le k i
    rcases List.mem_append.1 hp with hp | hp
    · have h0 := hl 0 x (by simp)
      exact h x (by simp) b (off + i * 5) d (m + bnd k i) (by simpa using h0.1) h0.2 (.inl hb) (by omega) p hp
    · refine ih (fun T hT => h T (by simp [hT])) (i + 1) (fun j L hj => ?_) hb (by omega) p hp
      have := hl (j + 1) L (by simpa using hj)
      rw [show i + (j + 1) = i + 1 + j by omega] at this
      exact this

theorem seq_at (w : World) (B rb M : Nat) (T : Tr) : ∀ b off d m, TCells w b off T → TIn w (· < B) T → (b < B ∨ b = rb) → m + T.size ≤ M → ∀ p ∈ T.seq b off d m, AtP w B rb M p := by
  refine Tr.ind (P := fun T => ∀ b off d m, TCells w b off T → TIn w (· < B) T → (b < B ∨ b = rb) → m + T.size ≤ M → ∀ p ∈ T.seq b off d m, AtP w B rb M p) ?_ T
  intro k n s ls la lc a c b' off' args ih b off d m hc hin hb hM p hp
  rw [Tr.seq] at hp
  simp only [Tr.size] at hM
  rcases List.mem_cons.1 hp with rfl | hp
  · exact ⟨hc, hin, hb, by simp only; omega⟩
  · by_cases h0 : args = []
    · subst h0; simp [Tr.seqs] at hp
    · have hS : b' < B := by
        rcases (tin_iff.1 hin).all with h | h
        · exact absurd h h0
        · exact h.2.1
      refine seqs_at w B rb M k b' off' (d + 1) m args ih 0 (fun j L hj => ?_) hS (by omega) p hp
      have := hin.get (i := j) (L := L) hj
      rw [Nat.zero_add]
      exact ⟨this.2.2.1, this.2.2.2⟩

theorem root_at (w : World) (B g : Nat) (T : Tr) (hc : TCells w g 0 T) (hin : TIn w (· < B) T) : ∀ p ∈ (Pt.mk g 0 T 1 0).seq, AtP w B g T.size p := seq_at w B g T.size T g 0 1 0 hc hin (.inr rfl) (by omega)

/-- Are all parts whole? -/
def allW (l : List Pt) : Bool := l.all fun p => p.t.wholeB

/-- The first thing that is wrong. -/
def firstE (bd q : Int) : List Pt → Int
  | [] => 0
  | p :: r => if p.chkE bd q ≠ 0 then p.chkE bd q else firstE bd q r

theorem firstE_append {bd q : Int} (a b : List Pt) (h : firstE bd q a = 0) : firstE bd q (a ++ b) = firstE bd q b := by
  induction a with
  | nil => rfl
  | cons x r ih =>
    simp only [firstE] at h
    simp only [List.cons_append, firstE]
    by_cases hx : x.chkE bd q = 0
    · rw [if_neg (by simpa using hx)] at h ⊢
      exact ih h
    · rw [if_pos (by simpa using hx)] at h; exact absurd h hx

theorem firstE_stop {bd q : Int} (a b : List Pt) (h : firstE bd q a ≠ 0) : firstE bd q (a ++ b) = firstE bd q a := by
  induction a with
  | nil => exact absurd rfl h
  | cons x r ih =>
    simp only [firstE] at h
    simp only [List.cons_append, firstE]
    by_cases hx : x.chkE bd q = 0
    · rw [if_neg (by simpa using hx)] at h
      rw [if_neg (by simpa using hx), if_neg (by simpa using hx)]
      exact ih h
    · rw [if_pos (by simpa using hx), if_pos (by simpa using hx)]

/-- What May tells, of a term whose box is block g. -/
def mayE (g : Nat) (T : Tr) (bd q : Int) : Int :=
  if allW (Pt.mk g 0 T 1 0).seq = false then 5 else if 2000 < T.size then 3 else if 100 < T.depth then 6 else firstE (max bd 0) q (Pt.mk g 0 T 1 0).seq

theorem wide_fnr (l k : Nat) : (Fence.wide.inRound l).fn k := trivial

theorem three_new (w : World) (l0 l1 l2 : List Value) (t0 t1 t2 : TypeId) : ∃ w1, ((w.alloc (.cells l0.toArray t0)).alloc (.cells l1.toArray t1)).alloc (.cells l2.toArray t2) = w1 ∧ Below w.heap.size w w1 ∧
    Blk w1 w.heap.size t0 l0 ∧ Blk w1 (w.heap.size + 1) t1 l1 ∧ Blk w1 (w.heap.size + 1 + 1) t2 l2 ∧ w1.heap.size = w.heap.size + 3 := by
  obtain ⟨a, ha, hb, p0, p1, hs⟩ := two_new w l0 l1 t0 t1
  obtain ⟨a', ha', hb', p2, hs'⟩ := one_new a l2 t2
  subst ha
  rw [hs] at p2
  refine ⟨a', ha', hb.trans (hb'.mono (by omega)), p0.below hb' p0.lt, p1.below hb' p1.lt, p2, ?_⟩
  rw [← ha']; simp

/-- What stays between the rounds. -/
structure MI (w W : World) (T : Tr) (e : Int) : Prop where
  bel : Below w.heap.size w W
  box : Blk W w.heap.size 29 [.int .i64 T.k, .int .i64 T.n, .string T.s, .slice T.la T.ls.length T.lc, .slice T.a T.args.length T.c]
  res : Blk W (w.heap.size + 1) 36 [.int .i64 e]
  size : w.heap.size + 3 ≤ W.heap.size

theorem MI.keep {w A B : World} {T : Tr} {e : Int} (h : MI w A T e) {S : Nat → Prop} (hk : Keep A B S) (hS : ∀ k, S k → w.heap.size + 2 ≤ k) : MI w B T e :=
  ⟨bel_keep h.bel hk (by have := h.size; omega) (fun k hk' => by have := hS k hk'; omega), h.box.keep hk (fun s => by have := hS _ s; omega), h.res.keep hk (fun s => by have := hS _ s; omega), Nat.le_trans h.size hk.size⟩

theorem MI.put {w W : World} {T : Tr} {e : Int} (h : MI w W T e) {D : Nat} (hD : w.heap.size + 2 ≤ D) (o : Obj) : MI w (W.putObj D o) T e := h.keep (Keep.put1 W D o) (fun k h => by omega)

theorem MI.store {w W : World} {T : Tr} {e : Int} (h : MI w W T e) (e' : Int) : MI w (W.setCell ⟨w.heap.size + 1, 0, none⟩ (.int .i64 e')) T e' := by
  have hk : Keep W (W.setCell ⟨w.heap.size + 1, 0, none⟩ (.int .i64 e')) (fun k => k = w.heap.size + 1) := (Keep.refl W (fun k => k = w.heap.size + 1)).setCell (fun _ => rfl) _ _
  have := h.size
  exact ⟨bel_keep h.bel hk (by omega) (fun k e => by omega), h.box.keep hk (by omega), h.res.set 0 _, Nat.le_trans h.size hk.size⟩

theorem heap_other (W : World) (b : Nat) (v : Value) {D : Nat} {o : Obj} (h : W.heap[D]? = some o) (hne : D ≠ b) : (W.setCell ⟨b, 0, none⟩ v).heap[D]? = some o := (Below.heap_setCell _ _ _ _ hne).trans h

set_option maxRecDepth 100000 in
set_option maxHeartbeats 4000000 in
theorem tmay_any (T : Tr) (bd q : Int) (w : World) (B : Nat) (hT : Tabs w) (h3 : 5 ≤ B) (hB : B ≤ w.heap.size) (hin : TIn w (· < B) T) (hsz : T.size < 1048576) :
    Calls Tryz.prog 68 #[T.val, .int .i64 bd, .int .i64 q] w fun e w' => e = .returned (.int .i64 (mayE w.heap.size T bd q)) ∧ Below w.heap.size w w' := by
  refine (callsIn_wide (n := 9)).1 ?_
  refine callsIn_of_wp_marks Tryz.func68 rfl trivial ?_ rfl
  unfold Tr.val
  simp only [Tryz.ntmps68, List.size_toArray, List.length_cons, List.length_nil, Nat.reduceAdd, Nat.reduceSub, Array.replicate_succ, Array.replicate_zero, List.push_toArray, List.append_toArray, List.nil_append, List.cons_append]
  obtain ⟨r, HRES⟩ : ∃ r, Hid (mayE w.heap.size T bd q = r) := ⟨_, rfl⟩
  rw [HRES.out]
  gi_wp2_with fail
  with_reducible refine And.intro (wide_fn 87) ?_
  refine (callsIn_wide.2 (parts_fn w.heap.size 0 _)).mono ?_
  rintro e w' ⟨rfl, rfl⟩
  dsimp only
  obtain ⟨w4, hw4, hb4, P0, P1, P2, hs4⟩ := three_new w [.int .i64 T.k, .int .i64 T.n, .string T.s, .slice T.la T.ls.length T.lc, .slice T.a T.args.length T.c] [.int .i64 0] [.pointer (some ⟨w.heap.size, 0, none⟩)] 29 36 131
  rw [hw4]
  simp only [World.size_alloc]
  clear hw4
  gi_wp2_with fail
  have hseq := parts1_seq B (w.heap.size + 1 + 1) ⟨w.heap.size, 0, T, 1, 0⟩ w4 rfl rfl (hT.on hb4) h3 (by omega) (by omega) (tcells_box P0) (hin.below hb4 hB) (P2.cell (j := 0) rfl) hsz
  have HSZ : Hid (T.size < 1048576) := hsz
  have H0 : MI w w4 T 0 := ⟨hb4, P0, P1, by omega⟩
  clear hsz P0 P1 P2 hb4
  refine wpIn_rngb (by rfl) enters60 hseq (fun k h => by simp only at h; omega) (fun _ => rfl)
    (fun pre X W => MI w W T 0 ∧ allW pre = true)
    (fun c pre W => c = .ret ∧ MI w W T 5 ∧ allW pre = false) ?hI ?hIx ?h0 ?hround ?hdone ?hstop
  case hI =>
    rintro pre X X' A B' ⟨h1, h2⟩ hX hk _ _
    exact ⟨h1.keep hk (fun k h => by rcases h with h | h; (have := hX k h; omega); omega), h2⟩
  case hIx =>
    rintro c pre A B' ⟨h0, h1, h2⟩ hk
    exact ⟨h0, h1.keep hk (fun k h => by omega), h2⟩
  case h0 => exact ⟨H0, rfl⟩
  case hround =>
    intro l pre x rest X W K hxs hX hsz2 hI0 hK
    obtain ⟨hI1, hI2⟩ := hI0
    have hat := root_at W B w.heap.size T (tcells_box hI1.box) (hin.below hI1.bel hB) x (by rw [hxs]; simp)
    have HX : Hid (allW pre = true) := hI2
    clear hxs hI2
    obtain ⟨xb, xoff, xt, xd, xm⟩ := x
    dsimp only [Pt.val]
    gi_wp2_with fail
    obtain ⟨Wa, hwa, hba, Pa, hsa⟩ := one_new W [.pointer (some ⟨xb, xoff, none⟩), .int .i64 (xd : Int), .int .i64 (xm : Int)] 178
    rw [hwa]
    refine hK _ _ (Keep.of_below hba (Nat.le_refl _)) ?_
    clear hK hwa
    rintro W2 hk2 ⟨h1, h2⟩
    have hkk : Keep W W2 (fun k => k = w4.heap.size + 1) := (Keep.of_below hba (Nat.le_refl _)).trans hk2 (fun _ _ h => h)
    have Pb := Pa.keep hk2 (by omega)
    have hh := h1.size
    have cp0 := Pb.cell (j := 0) rfl
    have cp := Pb.cell (j := 1) rfl
    have cp2 := Pb.cell (j := 2) rfl
    have cr := h1.res.cell (j := 0) rfl
    have fr := h1.res.frozen 0
    have hat2 : AtP W2 B w.heap.size T.size ⟨xb, xoff, xt, xd, xm⟩ := hat.carry (fun k hk => hkk.block k (by omega) (by omega))
    have hcall := isWhole_any ⟨xb, xoff, xt, xd, xm⟩ W2 (· < B) (hT.on h1.bel) hat2.cells hat2.tin
    simp only [Pt.val] at hcall
    cases hw : xt.wholeB with
    | true =>
      rw [hw] at hcall
      gi_wp2_with fail
      with_reducible refine And.intro (wide_fn 88) ?_
      refine (CallsIn.inRound l (callsIn_wide.2 hcall)).mono ?_
      rintro e W3 ⟨rfl, hb3⟩
      dsimp only
      gi_wp2_with fail
      have hk3 : Keep W2 W3 (fun _ => False) := Keep.of_below hb3 (Nat.le_refl _)
      exact ⟨hk3.mono (fun _ h => h.elim), h1.keep hk3 (fun _ h => h.elim), by unfold allW; rw [List.all_append]; have := HX.out; unfold allW at this; rw [this]; simp [hw]⟩
    | false =>
      rw [hw] at hcall
      gi_wp2_with fail
      with_reducible refine And.intro (wide_fn 88) ?_
      refine (CallsIn.inRound l (callsIn_wide.2 hcall)).mono ?_
      rintro e W3 ⟨rfl, hb3⟩
      have hk3 : Keep W2 W3 (fun _ => False) := Keep.of_below hb3 (Nat.le_refl _)
      have h1' := h1.keep hk3 (fun _ h => h.elim)
      have cr3 := h1'.res.cell (j := 0) rfl
      have fr3 := h1'.res.frozen 0
      have hh3 := h1'.size
      dsimp only
      gi_wp2_with fail
      have hk4 : Keep W3 (W3.setCell ⟨w.heap.size + 1, 0, none⟩ (.int .i64 5)) (fun k => k = w.heap.size + 1) := (Keep.refl W3 (fun k => k = w.heap.size + 1)).setCell (fun _ => rfl) _ _
      exact ⟨(hk3.mono (fun _ h => h.elim)).trans (hk4.mono (fun k e => by omega)) (fun _ _ h => h), rfl, ⟨bel_keep h1'.bel hk4 (by omega) (fun k e => by omega), h1'.box.keep hk4 (by omega), h1'.res.set 0 _, Nat.le_trans hh3 hk4.size⟩, by unfold allW; rw [List.all_append]; simp [hw]⟩
  case hdone =>
    rintro X W hX hs ⟨h1, h2⟩ hD
    have HW : Hid (allW (Pt.mk w.heap.size 0 T 1 0).seq = true) := h2
    clear h2
    have hsz := HSZ.out
    have b0 := h1.box.cell (j := 0) rfl
    have b1 := h1.box.cell (j := 1) rfl
    have b2 := h1.box.cell (j := 2) rfl
    have b3 := h1.box.cell (j := 3) rfl
    have b4 := h1.box.cell (j := 4) rfl
    have hh := h1.size
    have hcall := size_any T 2000 W B (hT.on h1.bel) h3 (by omega) (hin.below h1.bel hB) hsz
    simp only [Tr.val] at hcall
    clear hsz
    by_cases h2k : T.size ≤ 2000
    · rw [show min (T.size : Int) (max 2000 0 + 1) = (T.size : Int) by omega] at hcall
      have hd2 : decide ((2000 : Int) < (T.size : Int)) = false := by simp; omega
      gi_wp2_with fail
      with_reducible refine And.intro (wide_fn 89) ?_
      refine (callsIn_wide.2 hcall).mono ?_
      rintro e W3 ⟨rfl, hb3⟩
      dsimp only
      have hk3 : Keep W W3 (fun _ => False) := Keep.of_below hb3 (Nat.le_refl _)
      have h1' := h1.keep hk3 (fun _ h => h.elim)
      have d0 := h1'.box.cell (j := 0) rfl
      have d1 := h1'.box.cell (j := 1) rfl
      have d2 := h1'.box.cell (j := 2) rfl
      have d3 := h1'.box.cell (j := 3) rfl
      have d4 := h1'.box.cell (j := 4) rfl
      have cr3 := h1'.res.cell (j := 0) rfl
      have fr3 := h1'.res.frozen 0
      have hh3 := h1'.size
      rw [hs4] at hD
      have hD3 : W3.heap[w.heap.size + 3]? = some (.deferred (some [])) := (hb3.block _ (by omega)).trans hD
      have hdep := depth_any T 100 W3 B (hT.on h1'.bel) h3 (by omega) (hin.below h1'.bel hB) HSZ.out
      simp only [Tr.val] at hdep
      clear h1 hD b0 b1 b2 b3 b4 hcall
      by_cases h100 : T.depth ≤ 100
      · rw [show min (T.depth : Int) (max 100 0 + 1) = (T.depth : Int) by omega] at hdep
        have hd3 : decide ((100 : Int) < (T.depth : Int)) = false := by simp; omega
        gi_wp2_with fail
        with_reducible refine And.intro (wide_fn 90) ?_
        refine (callsIn_wide.2 hdep).mono ?_
        rintro e W4 ⟨rfl, hb4⟩
        have h4 := h1'.keep (Keep.of_below (S := fun _ => False) hb4 (Nat.le_refl _)) (fun _ h => h.elim)
        have hh4 := h4.size
        have hD4 : W4.heap[w.heap.size + 3]? = some (.deferred (some [])) := (hb4.block _ (Array.getElem?_eq_some_iff.1 hD3).1).trans hD3
        dsimp only
        clear h1' hD3 hdep d0 d1 d2 d3 d4 cr3 fr3 hh3
        obtain ⟨bq, HB, hcase⟩ : ∃ bq, Hid (max bd 0 = bq) ∧ ((0 ≤ bd ∧ bq = bd) ∨ (bd < 0 ∧ bq = 0)) := by
          by_cases h : 0 ≤ bd
          · exact ⟨bd, by show _ = _; omega, .inl ⟨h, rfl⟩⟩
          · exact ⟨0, by show _ = _; omega, .inr ⟨by omega, rfl⟩⟩
        rcases hcase with ⟨hm, rfl⟩ | ⟨hm, hq0⟩
        · gi_wp2_with fail
          with_reducible refine And.intro (wide_fn 87) ?_
          refine (callsIn_wide.2 (parts_fn w.heap.size 0 _)).mono ?_
          rintro e w' ⟨rfl, rfl⟩
          dsimp only
          obtain ⟨w6, hw6, hb6, S6, G6, hs6⟩ := two_new W4 [.int .i64 bq, .int .i64 q] [.pointer (some ⟨w.heap.size, 0, none⟩)] 181 131
          rw [hw6]
          simp only [World.size_alloc]
          clear hw6
          gi_wp2_with fail
          have h6 := h4.keep (Keep.of_below (S := fun _ => False) hb6 (Nat.le_refl _)) (fun _ h => h.elim)
          have hD6 : w6.heap[w.heap.size + 3]? = some (.deferred (some [])) := (hb6.block _ (Array.getElem?_eq_some_iff.1 hD4).1).trans hD4
          have hd4' := (Array.getElem?_eq_some_iff.1 hD4).1
          have hseq2 := parts1_seq B (W4.heap.size + 1) ⟨w.heap.size, 0, T, 1, 0⟩ w6 rfl rfl (hT.on h6.bel) h3 (by omega) (by omega) (tcells_box h6.box) (hin.below h6.bel hB) (G6.cell (j := 0) rfl) HSZ.out
          refine wpIn_rngb (by rfl) enters60 hseq2 (fun k h => by simp only at h; omega) (fun _ => rfl)
            (fun pre X W => MI w W T 0 ∧ Blk W W4.heap.size 181 [.int .i64 bq, .int .i64 q] ∧ firstE bq q pre = 0 ∧ W.heap[w.heap.size + 3]? = some (.deferred (some [])) ∧ W4.heap.size + 2 ≤ W.heap.size)
            (fun c pre W => c = .ret ∧ ∃ e, MI w W T e ∧ firstE bq q pre = e ∧ e ≠ 0 ∧ W.heap[w.heap.size + 3]? = some (.deferred (some [])) ∧ W4.heap.size + 2 ≤ W.heap.size) ?gI ?gIx ?g0 ?ground ?gdone ?gstop
          case gI =>
            rintro pre X X' A B' ⟨h1, h2, h5, h7, h8⟩ hX hk _ _
            have nx : ∀ k, X k ∨ k = w6.heap.size ∨ k = w6.heap.size + 1 → W4.heap.size + 2 ≤ k := fun k h => by rcases h with h | h; (have := hX k h; omega); omega
            exact ⟨h1.keep hk (fun k h => by have := nx k h; omega), h2.keep hk (fun h => by have := nx _ h; omega), h5, (hk.block _ (by omega) (fun h => by have := nx _ h; omega)).trans h7, Nat.le_trans h8 hk.size⟩
          case gIx =>
            rintro c pre A B' ⟨h0, e, h1, h5, h5', h7, h8⟩ hk
            exact ⟨h0, e, h1.keep hk (fun k h => by omega), h5, h5', (hk.block _ (by omega) (fun h => by omega)).trans h7, Nat.le_trans h8 hk.size⟩
          case g0 => exact ⟨h6, S6, rfl, hD6, by omega⟩
          case ground =>
            intro l pre x rest X W K hxs hX hsz2 hI0 hK
            obtain ⟨hI1, hI2, hI3, hI4, hI5⟩ := hI0
            have hmem : x ∈ (Pt.mk w.heap.size 0 T 1 0).seq := by rw [hxs]; simp
            have hat := root_at W B w.heap.size T (tcells_box hI1.box) (hin.below hI1.bel hB) x hmem
            have hform : 0 ≤ x.t.k ∧ x.t.k < 7 := by
              have h := HW.out
              unfold allW at h
              rw [List.all_eq_true] at h
              have := h x hmem
              unfold Tr.wholeB at this
              simp only [Bool.and_eq_true] at this
              exact Tr.formB_in this.1
            have HX : Hid (firstE bq q pre = 0) := hI3
            clear hxs hI3 hmem
            obtain ⟨xb, xoff, xt, xd, xm⟩ := x
            dsimp only [Pt.val]
            gi_wp2_with fail
            obtain ⟨Wa, hwa, hba, Pa, hsa⟩ := one_new W [.pointer (some ⟨xb, xoff, none⟩), .int .i64 (xd : Int), .int .i64 (xm : Int)] 178
            rw [hwa]
            refine hK _ _ (Keep.of_below hba (Nat.le_refl _)) ?_
            clear hK hwa
            rintro W2 hk2 ⟨h1, h2, h5, h7, h8⟩
            clear h5
            have hkk : Keep W W2 (fun k => k = w6.heap.size + 1) := (Keep.of_below hba (Nat.le_refl _)).trans hk2 (fun _ _ h => h)
            have Pb := Pa.keep hk2 (by omega)
            have hh := h1.size
            have cp0 := Pb.cell (j := 0) rfl
            have cp := Pb.cell (j := 1) rfl
            have cp2 := Pb.cell (j := 2) rfl
            have cs0 := h2.cell (j := 0) rfl
            have cs1 := h2.cell (j := 1) rfl
            have hat2 : AtP W2 B w.heap.size T.size ⟨xb, xoff, xt, xd, xm⟩ := hat.carry (fun k hk => hkk.block k (by omega) (by omega))
            have hcall := check_any bq q ⟨xb, xoff, xt, xd, xm⟩ W2 B h3 (by omega) (hT.on h1.bel) hat2.cells hat2.tin (by have := hat2.m; have := HSZ.out; simp only at *; omega) hform
            simp only [Pt.val] at hcall
            have HC : Hid (firstE bq q (pre ++ [⟨xb, xoff, xt, xd, xm⟩]) = (Pt.mk xb xoff xt xd xm).chkE bq q) := by
              show _ = _
              rw [firstE_append _ _ HX.out]
              simp only [firstE]
              split
              · rfl
              · rename_i h; simp at h; exact h.symm
            generalize (Pt.mk xb xoff xt xd xm).chkE bq q = er at *
            clear hat hat2 hform
            by_cases he : er = 0
            · subst he
              gi_wp2_with fail
              with_reducible refine And.intro (wide_fn 91) ?_
              refine (CallsIn.inRound l (callsIn_wide.2 hcall)).mono ?_
              rintro e W3 ⟨rfl, hb3⟩
              dsimp only
              gi_wp2_with fail
              have hk3 : Keep W2 W3 (fun _ => False) := Keep.of_below hb3 (Nat.le_refl _)
              exact ⟨hk3.mono (fun _ h => h.elim), h1.keep hk3 (fun _ h => h.elim), h2.keep hk3 (fun h => h), HC.out, (hk3.block _ (by omega) (fun h => h)).trans h7, Nat.le_trans h8 hk3.size⟩
            · have hne : (er != 0) = true := by simpa using he
              gi_wp2_with fail
              with_reducible refine And.intro (wide_fn 91) ?_
              refine (CallsIn.inRound l (callsIn_wide.2 hcall)).mono ?_
              rintro e W3 ⟨rfl, hb3⟩
              have hk3 : Keep W2 W3 (fun _ => False) := Keep.of_below hb3 (Nat.le_refl _)
              have h1' := h1.keep hk3 (fun _ h => h.elim)
              have cr3 := h1'.res.cell (j := 0) rfl
              have fr3 := h1'.res.frozen 0
              have hh3 := h1'.size
              dsimp only
              gi_wp2_with fail
              have hk4 : Keep W3 (W3.setCell ⟨w.heap.size + 1, 0, none⟩ (.int .i64 er)) (fun k => k = w.heap.size + 1) := (Keep.refl W3 (fun k => k = w.heap.size + 1)).setCell (fun _ => rfl) _ _
              exact ⟨(hk3.mono (fun _ h => h.elim)).trans (hk4.mono (fun k e => by omega)) (fun _ _ h => h), rfl, er, h1'.store er, HC.out, he, heap_other _ _ _ ((hk3.block _ (by omega) (fun h => h)).trans h7) (by omega), Nat.le_trans h8 (Nat.le_trans hk3.size hk4.size)⟩
          case gdone =>
            rintro X W hX hs ⟨h1, h2, h5, h7, h8⟩ hD
            have HF : Hid (firstE bq q (Pt.mk w.heap.size 0 T 1 0).seq = 0) := h5
            clear h5
            rw [hs6] at hD
            have cr := h1.res.cell (j := 0) rfl
            have fr := h1.res.frozen 0
            gi_wp2_with fail
            refine ⟨by simp, .inl ⟨_, _, rfl, run_takeDeferred (heap_other _ _ _ hD (by omega)), ?_⟩⟩
            refine ⟨by simp, .inl ⟨_, _, rfl, run_takeDeferred ((World.putObj_heap_other (by omega)).trans (heap_other _ _ _ h7 (by omega))), ?_⟩⟩
            have hm := ((h1.store 0).put (D := W4.heap.size + 2) (by omega) (.deferred none)).put (D := w.heap.size + 3) (by omega) (.deferred none)
            have cf := hm.res.cell (j := 0) rfl
            exact ⟨.int .i64 0, by simp [results, Tryz.results68, go_sem, cf], ret_int (by have h := HRES.out; unfold mayE at h; rw [if_neg (by rw [HW.out]; simp), if_neg (by omega), if_neg (by omega), HB.out, HF.out] at h; exact h), hm.bel⟩
          case gstop =>
            rintro c pre W hs hpre ⟨rfl, e, h1, h5, h5', h7, h8⟩ hD
            have HF : Hid (firstE bq q (Pt.mk w.heap.size 0 T 1 0).seq = e) := by
              obtain ⟨rr, hr⟩ := hpre
              show _ = _
              rw [← hr, ← h5, firstE_stop pre rr (by rw [h5]; exact h5')]
            clear h5 hpre
            rw [hs6] at hD
            gi_wp2_with fail
            refine ⟨by simp, .inl ⟨_, _, rfl, run_takeDeferred hD, ?_⟩⟩
            refine ⟨by simp, .inl ⟨_, _, rfl, run_takeDeferred ((World.putObj_heap_other (by omega)).trans h7), ?_⟩⟩
            have hm := (h1.put (D := W4.heap.size + 2) (by omega) (.deferred none)).put (D := w.heap.size + 3) (by omega) (.deferred none)
            have cf := hm.res.cell (j := 0) rfl
            exact ⟨.int .i64 e, by simp [results, Tryz.results68, go_sem, cf], ret_int (by have h := HRES.out; unfold mayE at h; rw [if_neg (by rw [HW.out]; simp), if_neg (by omega), if_neg (by omega), HB.out, HF.out] at h; exact h), hm.bel⟩
        · have HZ : Hid (bq = 0) := hq0
          clear hq0
          gi_wp2_with fail
          with_reducible refine And.intro (wide_fn 87) ?_
          refine (callsIn_wide.2 (parts_fn w.heap.size 0 _)).mono ?_
          rintro e w' ⟨rfl, rfl⟩
          dsimp only
          obtain ⟨w6, hw6, hb6, S6, G6, hs6⟩ := two_new W4 [.int .i64 0, .int .i64 q] [.pointer (some ⟨w.heap.size, 0, none⟩)] 181 131
          have hq1 := HZ.out
          rw [show [Value.int .i64 0, Value.int .i64 q] = [Value.int .i64 bq, Value.int .i64 q] by rw [hq1]] at S6
          clear hq1
          rw [hw6]
          simp only [World.size_alloc]
          clear hw6
          gi_wp2_with fail
          have h6 := h4.keep (Keep.of_below (S := fun _ => False) hb6 (Nat.le_refl _)) (fun _ h => h.elim)
          have hD6 : w6.heap[w.heap.size + 3]? = some (.deferred (some [])) := (hb6.block _ (Array.getElem?_eq_some_iff.1 hD4).1).trans hD4
          have hd4' := (Array.getElem?_eq_some_iff.1 hD4).1
          have hseq2 := parts1_seq B (W4.heap.size + 1) ⟨w.heap.size, 0, T, 1, 0⟩ w6 rfl rfl (hT.on h6.bel) h3 (by omega) (by omega) (tcells_box h6.box) (hin.below h6.bel hB) (G6.cell (j := 0) rfl) HSZ.out
          refine wpIn_rngb (by rfl) enters60 hseq2 (fun k h => by simp only at h; omega) (fun _ => rfl)
            (fun pre X W => MI w W T 0 ∧ Blk W W4.heap.size 181 [.int .i64 bq, .int .i64 q] ∧ firstE bq q pre = 0 ∧ W.heap[w.heap.size + 3]? = some (.deferred (some [])) ∧ W4.heap.size + 2 ≤ W.heap.size)
            (fun c pre W => c = .ret ∧ ∃ e, MI w W T e ∧ firstE bq q pre = e ∧ e ≠ 0 ∧ W.heap[w.heap.size + 3]? = some (.deferred (some [])) ∧ W4.heap.size + 2 ≤ W.heap.size) ?gI ?gIx ?g0 ?ground ?gdone ?gstop
          case gI =>
            rintro pre X X' A B' ⟨h1, h2, h5, h7, h8⟩ hX hk _ _
            have nx : ∀ k, X k ∨ k = w6.heap.size ∨ k = w6.heap.size + 1 → W4.heap.size + 2 ≤ k := fun k h => by rcases h with h | h; (have := hX k h; omega); omega
            exact ⟨h1.keep hk (fun k h => by have := nx k h; omega), h2.keep hk (fun h => by have := nx _ h; omega), h5, (hk.block _ (by omega) (fun h => by have := nx _ h; omega)).trans h7, Nat.le_trans h8 hk.size⟩
          case gIx =>
            rintro c pre A B' ⟨h0, e, h1, h5, h5', h7, h8⟩ hk
            exact ⟨h0, e, h1.keep hk (fun k h => by omega), h5, h5', (hk.block _ (by omega) (fun h => by omega)).trans h7, Nat.le_trans h8 hk.size⟩
          case g0 => exact ⟨h6, S6, rfl, hD6, by omega⟩
          case ground =>
            intro l pre x rest X W K hxs hX hsz2 hI0 hK
            obtain ⟨hI1, hI2, hI3, hI4, hI5⟩ := hI0
            have hmem : x ∈ (Pt.mk w.heap.size 0 T 1 0).seq := by rw [hxs]; simp
            have hat := root_at W B w.heap.size T (tcells_box hI1.box) (hin.below hI1.bel hB) x hmem
            have hform : 0 ≤ x.t.k ∧ x.t.k < 7 := by
              have h := HW.out
              unfold allW at h
              rw [List.all_eq_true] at h
              have := h x hmem
              unfold Tr.wholeB at this
              simp only [Bool.and_eq_true] at this
              exact Tr.formB_in this.1
            have HX : Hid (firstE bq q pre = 0) := hI3
            clear hxs hI3 hmem
            obtain ⟨xb, xoff, xt, xd, xm⟩ := x
            dsimp only [Pt.val]
            gi_wp2_with fail
            obtain ⟨Wa, hwa, hba, Pa, hsa⟩ := one_new W [.pointer (some ⟨xb, xoff, none⟩), .int .i64 (xd : Int), .int .i64 (xm : Int)] 178
            rw [hwa]
            refine hK _ _ (Keep.of_below hba (Nat.le_refl _)) ?_
            clear hK hwa
            rintro W2 hk2 ⟨h1, h2, h5, h7, h8⟩
            clear h5
            have hkk : Keep W W2 (fun k => k = w6.heap.size + 1) := (Keep.of_below hba (Nat.le_refl _)).trans hk2 (fun _ _ h => h)
            have Pb := Pa.keep hk2 (by omega)
            have hh := h1.size
            have cp0 := Pb.cell (j := 0) rfl
            have cp := Pb.cell (j := 1) rfl
            have cp2 := Pb.cell (j := 2) rfl
            have cs0 := h2.cell (j := 0) rfl
            have cs1 := h2.cell (j := 1) rfl
            have hat2 : AtP W2 B w.heap.size T.size ⟨xb, xoff, xt, xd, xm⟩ := hat.carry (fun k hk => hkk.block k (by omega) (by omega))
            have hcall := check_any bq q ⟨xb, xoff, xt, xd, xm⟩ W2 B h3 (by omega) (hT.on h1.bel) hat2.cells hat2.tin (by have := hat2.m; have := HSZ.out; simp only at *; omega) hform
            simp only [Pt.val] at hcall
            have HC : Hid (firstE bq q (pre ++ [⟨xb, xoff, xt, xd, xm⟩]) = (Pt.mk xb xoff xt xd xm).chkE bq q) := by
              show _ = _
              rw [firstE_append _ _ HX.out]
              simp only [firstE]
              split
              · rfl
              · rename_i h; simp at h; exact h.symm
            generalize (Pt.mk xb xoff xt xd xm).chkE bq q = er at *
            clear hat hat2 hform
            by_cases he : er = 0
            · subst he
              gi_wp2_with fail
              with_reducible refine And.intro (wide_fn 91) ?_
              refine (CallsIn.inRound l (callsIn_wide.2 hcall)).mono ?_
              rintro e W3 ⟨rfl, hb3⟩
              dsimp only
              gi_wp2_with fail
              have hk3 : Keep W2 W3 (fun _ => False) := Keep.of_below hb3 (Nat.le_refl _)
              exact ⟨hk3.mono (fun _ h => h.elim), h1.keep hk3 (fun _ h => h.elim), h2.keep hk3 (fun h => h), HC.out, (hk3.block _ (by omega) (fun h => h)).trans h7, Nat.le_trans h8 hk3.size⟩
            · have hne : (er != 0) = true := by simpa using he
              gi_wp2_with fail
              with_reducible refine And.intro (wide_fn 91) ?_
              refine (CallsIn.inRound l (callsIn_wide.2 hcall)).mono ?_
              rintro e W3 ⟨rfl, hb3⟩
              have hk3 : Keep W2 W3 (fun _ => False) := Keep.of_below hb3 (Nat.le_refl _)
              have h1' := h1.keep hk3 (fun _ h => h.elim)
              have cr3 := h1'.res.cell (j := 0) rfl
              have fr3 := h1'.res.frozen 0
              have hh3 := h1'.size
              dsimp only
              gi_wp2_with fail
              have hk4 : Keep W3 (W3.setCell ⟨w.heap.size + 1, 0, none⟩ (.int .i64 er)) (fun k => k = w.heap.size + 1) := (Keep.refl W3 (fun k => k = w.heap.size + 1)).setCell (fun _ => rfl) _ _
              exact ⟨(hk3.mono (fun _ h => h.elim)).trans (hk4.mono (fun k e => by omega)) (fun _ _ h => h), rfl, er, h1'.store er, HC.out, he, heap_other _ _ _ ((hk3.block _ (by omega) (fun h => h)).trans h7) (by omega), Nat.le_trans h8 (Nat.le_trans hk3.size hk4.size)⟩
          case gdone =>
            rintro X W hX hs ⟨h1, h2, h5, h7, h8⟩ hD
            have HF : Hid (firstE bq q (Pt.mk w.heap.size 0 T 1 0).seq = 0) := h5
            clear h5
            rw [hs6] at hD
            have cr := h1.res.cell (j := 0) rfl
            have fr := h1.res.frozen 0
            gi_wp2_with fail
            refine ⟨by simp, .inl ⟨_, _, rfl, run_takeDeferred (heap_other _ _ _ hD (by omega)), ?_⟩⟩
            refine ⟨by simp, .inl ⟨_, _, rfl, run_takeDeferred ((World.putObj_heap_other (by omega)).trans (heap_other _ _ _ h7 (by omega))), ?_⟩⟩
            have hm := ((h1.store 0).put (D := W4.heap.size + 2) (by omega) (.deferred none)).put (D := w.heap.size + 3) (by omega) (.deferred none)
            have cf := hm.res.cell (j := 0) rfl
            exact ⟨.int .i64 0, by simp [results, Tryz.results68, go_sem, cf], ret_int (by have h := HRES.out; unfold mayE at h; rw [if_neg (by rw [HW.out]; simp), if_neg (by omega), if_neg (by omega), HB.out, HF.out] at h; exact h), hm.bel⟩
          case gstop =>
            rintro c pre W hs hpre ⟨rfl, e, h1, h5, h5', h7, h8⟩ hD
            have HF : Hid (firstE bq q (Pt.mk w.heap.size 0 T 1 0).seq = e) := by
              obtain ⟨rr, hr⟩ := hpre
              show _ = _
              rw [← hr, ← h5, firstE_stop pre rr (by rw [h5]; exact h5')]
            clear h5 hpre
            rw [hs6] at hD
            gi_wp2_with fail
            refine ⟨by simp, .inl ⟨_, _, rfl, run_takeDeferred hD, ?_⟩⟩
            refine ⟨by simp, .inl ⟨_, _, rfl, run_takeDeferred ((World.putObj_heap_other (by omega)).trans h7), ?_⟩⟩
            have hm := (h1.put (D := W4.heap.size + 2) (by omega) (.deferred none)).put (D := w.heap.size + 3) (by omega) (.deferred none)
            have cf := hm.res.cell (j := 0) rfl
            exact ⟨.int .i64 e, by simp [results, Tryz.results68, go_sem, cf], ret_int (by have h := HRES.out; unfold mayE at h; rw [if_neg (by rw [HW.out]; simp), if_neg (by omega), if_neg (by omega), HB.out, HF.out] at h; exact h), hm.bel⟩
      · rw [show min (T.depth : Int) (max 100 0 + 1) = 101 by omega] at hdep
        gi_wp2_with fail
        with_reducible refine And.intro (wide_fn 90) ?_
        refine (callsIn_wide.2 hdep).mono ?_
        rintro e W4 ⟨rfl, hb4⟩
        have h4 := h1'.keep (Keep.of_below (S := fun _ => False) hb4 (Nat.le_refl _)) (fun _ h => h.elim)
        have cr4 := h4.res.cell (j := 0) rfl
        have fr4 := h4.res.frozen 0
        have hh4 := h4.size
        have hD4 : W4.heap[w.heap.size + 3]? = some (.deferred (some [])) := (hb4.block _ (Array.getElem?_eq_some_iff.1 hD3).1).trans hD3
        dsimp only
        gi_wp2_with fail
        refine ⟨by simp, .inl ⟨_, _, rfl, run_takeDeferred (heap_other _ _ _ hD4 (by omega)), ?_⟩⟩
        have hm := (h4.store 6).put (D := w.heap.size + 3) (by omega) (.deferred none)
        have cf := hm.res.cell (j := 0) rfl
        exact ⟨.int .i64 6, by simp [results, Tryz.results68, go_sem, cf], ret_int (by have h := HRES.out; unfold mayE at h; rw [if_neg (by rw [HW.out]; simp), if_neg (by omega), if_pos (by omega)] at h; exact h), hm.bel⟩
    · rw [show min (T.size : Int) (max 2000 0 + 1) = 2001 by omega] at hcall
      gi_wp2_with fail
      with_reducible refine And.intro (wide_fn 89) ?_
      refine (callsIn_wide.2 hcall).mono ?_
      rintro e W3 ⟨rfl, hb3⟩
      have hk3 : Keep W W3 (fun _ => False) := Keep.of_below hb3 (Nat.le_refl _)
      have h1' := h1.keep hk3 (fun _ h => h.elim)
      have cr3 := h1'.res.cell (j := 0) rfl
      have fr3 := h1'.res.frozen 0
      have hh3 := h1'.size
      rw [hs4] at hD
      have hD3 : W3.heap[w.heap.size + 3]? = some (.deferred (some [])) := (hb3.block _ (by omega)).trans hD
      dsimp only
      gi_wp2_with fail
      refine ⟨by simp, .inl ⟨_, _, rfl, run_takeDeferred (heap_other _ _ _ hD3 (by omega)), ?_⟩⟩
      have hm := (h1'.store 3).put (D := w.heap.size + 3) (by omega) (.deferred none)
      have cf := hm.res.cell (j := 0) rfl
      exact ⟨.int .i64 3, by simp [results, Tryz.results68, go_sem, cf], ret_int (by have h := HRES.out; unfold mayE at h; rw [if_neg (by rw [HW.out]; simp), if_pos (by omega)] at h; exact h), hm.bel⟩
  case hstop =>
    rintro c pre W hs hpre ⟨rfl, h1, h2⟩ hD
    rw [hs4] at hD
    have HW : Hid (allW (Pt.mk w.heap.size 0 T 1 0).seq = false) := by
      obtain ⟨rr, hr⟩ := hpre
      show allW _ = false
      rw [← hr]; unfold allW at h2 ⊢; rw [List.all_append, h2]; rfl
    clear h2 hpre
    gi_wp2_with fail
    refine ⟨by simp, .inl ⟨_, _, rfl, run_takeDeferred hD, ?_⟩⟩
    have hm := (h1).put (D := w.heap.size + 3) (by omega) (.deferred none)
    have cf := hm.res.cell (j := 0) rfl
    exact ⟨.int .i64 5, by simp [results, Tryz.results68, go_sem, cf], ret_int (by have h := HRES.out; unfold mayE at h; rw [if_pos HW.out] at h; exact h), hm.bel⟩

end Go.Proofs.YtekdalbhgdkckaaGreatDoor
