/- The parts of a term as an iterator hands them out, told with where its own blocks lie. No condition but that the term lies in memory and has fewer than 2^20 parts, and that the tables hold what the program's text lays. -/
import Derived.Test.YtbmijpjmdpdfkaaDoorParts
import Derived.Test.YtbmijpjmdpdfkaaDoorRng
namespace Go.Proofs.YtbmijpjmdpdfkaaDoor
open Go.RowKit Go.Shelf

/-- The contract of an iterator that keeps lists of its own: its new blocks lie in memory. -/
def SeqY {α : Type} (P : Program) (g : Nat) (lb : Array Value) (encs : α → Array Value) (xs : List α) (L : Nat → Prop) (w : World) : Prop :=
  ∀ (n l : Nat) (J : List α → (Nat → Prop) → World → Prop) (Jx : List α → World → Prop) (W : World), Keep w W (fun k => ¬ L k) →
    (∀ pre X X' A B, J pre X A → Keep A B X → (∀ k, X k → X' k) → (∀ k, X' k → X k ∨ (A.heap.size ≤ k ∧ k < B.heap.size)) → J pre X' B) →
    (∀ pre A B, Jx pre A → Keep A B (fun _ => False) → Jx pre B) →
    (∀ pre x rest X W1, xs = pre ++ x :: rest → J pre X W1 → YieldAt Fence.wide (n - 1) P l (encs x) W1 fun e W' =>
      (e = .returned (.bool true) ∧ J (pre ++ [x]) X W' ∧ Keep W1 W' (fun k => ¬ X k ∧ ¬ L k)) ∨ (e = .returned (.bool false) ∧ Jx (pre ++ [x]) W')) →
    J [] (fun _ => False) W →
    CallsIn Fence.wide n P g (#[.func (.yield l) #[] #[]] ++ lb) W fun e W' => (∃ v, e = .returned v) ∧ ((∃ X, J xs X W') ∨ (∃ pre, pre <+: xs ∧ Jx pre W'))

theorem wpIn_rngy {α : Type} {P : Program} {n : Nat} {g : Operand} {ps : Array Tmp} {assign body : Code} {Q : Exit → Act → World → Prop} {a : Act} {w : World}
    {gf : Nat} {lb : Array Value} (hg : a.eval g = .func (.func gf) #[] lb) (eg : ∀ args w, (callFunc gf args).run P w = .ok (.enter gf args) w)
    {encs : α → Array Value} {xs : List α} {L : Nat → Prop} (hseq : SeqY P gf lb encs xs L w) (hL : ∀ k, L k → k < w.heap.size) (hps : ∀ x, (encs x).size = ps.size)
    (I : List α → (Nat → Prop) → World → Prop) (Ix : Code → List α → World → Prop)
    (hI : ∀ pre X X' A B, I pre X A → (∀ k, X k → w.heap.size + 2 ≤ k) → Keep A B (fun k => X k ∨ k = w.heap.size ∨ k = w.heap.size + 1) → (∀ k, X k → X' k) → (∀ k, X' k → X k ∨ (A.heap.size ≤ k ∧ k < B.heap.size)) → I pre X' B)
    (hIx : ∀ c pre A B, Ix c pre A → Keep A B (fun k => k = w.heap.size ∨ k = w.heap.size + 1) → Ix c pre B)
    (h0 : I [] (fun _ => False) w)
    (hround : ∀ (l : Nat) (pre : List α) (x : α) (rest : List α) (X : Nat → Prop) (W : World) (K : Act → World → Prop), xs = pre ++ x :: rest → (∀ k, X k → w.heap.size + 2 ≤ k) → w.heap.size + 2 ≤ W.heap.size → I pre X W →
      (∀ a' W', Keep W W' (fun _ => False) → (∀ W2, Keep W' W2 (fun k => k = w.heap.size + 1) → I pre X W2 → body.wpIn (Fence.wide.inRound l) (n - 1 - 1) P (postX w.heap.size L I Ix (pre ++ [x]) X W2) a' W2) → K a' W') →
      assign.wpIn (Fence.wide.inRound l) (n - 1 - 1) P (Exit.then K (fun _ _ _ => False)) { tmps := (ps.zip (encs x)).foldl (fun t (p, v) => t.setIfInBounds p v) a.tmps, defers := [] } W)
    (hdone : ∀ (X : Nat → Prop) (W : World), (∀ k, X k → w.heap.size + 2 ≤ k) → w.heap.size + 2 ≤ W.heap.size → I xs X W → W.heap[w.heap.size]? = some (.deferred (some [])) → Q .normal { a with defers := { target := .collected w.heap.size, args := #[] } :: a.defers } W)
    (hstop : ∀ (c : Code) (pre : List α) (W : World), w.heap.size + 2 ≤ W.heap.size → pre <+: xs → Ix c pre W → W.heap[w.heap.size]? = some (.deferred (some [])) → c.wpIn Fence.wide n P Q { a with defers := { target := .collected w.heap.size, args := #[] } :: a.defers } W) :
    (Code.rangeFunc g ps assign body).wpIn Fence.wide n P Q a w := by
  refine wpIn_rangeFunc ?_
  intro fn hfn
  rw [show Fence.wide.round = none from rfl]
  obtain ⟨rec, hrec⟩ : ∃ rec : LoopState → Option Code → Loop, rec = fun st pe => { state := st, pending := pe, fn, tmps := a.tmps, params := ps, assign, body, defers := w.heap.size } := ⟨_, rfl⟩
  obtain ⟨W1, hW1⟩ : ∃ W1, (w.alloc (.deferred (some []))).alloc (.loop (rec .ready none)) = W1 := ⟨_, rfl⟩
  have hL1 : W1.heap[w.heap.size + 1]? = some (.loop (rec .ready none)) := by
    rw [← hW1]; have := World.alloc_heap_new (w.alloc (.deferred (some []))) (.loop (rec .ready none)); rwa [World.size_alloc] at this
  have hK1 : W1.heap[w.heap.size]? = some (.deferred (some [])) := by
    rw [← hW1]; exact (Below.heap_alloc _ _ _ (by simp)).trans (World.alloc_heap_new w _)
  have hs1 : W1.heap.size = w.heap.size + 2 := by rw [← hW1]; simp
  have hk0 : Keep w W1 (fun _ => False) := by rw [← hW1]; exact ((Keep.refl _ _).alloc _).alloc _
  have hI1 : I [] (fun _ => False) W1 := hI _ _ _ _ _ h0 (fun _ h => h.elim) (hk0.mono (fun _ h => h.elim)) (fun _ h => h) (fun _ h => h.elim)
  refine ⟨w.heap.size + 1, [{ target := .collected w.heap.size, args := #[] }], W1, { target := .fn (.func gf) lb, args := #[.func (.yield (w.heap.size + 1)) #[] #[]] }, W1, gf,
    #[.func (.yield (w.heap.size + 1)) #[] #[]] ++ lb, W1, ?_, ?_, ?_, ?_, (fun h => by simp [Fence.wide] at h), ?_⟩
  · rw [← hW1, hrec]; exact run_enterLoop_outer _ _ _ _ _
  · simp only [resolve, hg]
    simp [go_sem]
  · intro f' _; exact trivial
  · simp [invoke, go_sem, eg]
  · refine (hseq (n - 1) (w.heap.size + 1)
      (fun pre X W => I pre X W ∧ (∀ k, X k → w.heap.size + 2 ≤ k) ∧ w.heap.size + 2 ≤ W.heap.size ∧ W.heap[w.heap.size + 1]? = some (.loop (rec .ready none)) ∧ W.heap[w.heap.size]? = some (.deferred (some [])))
      (fun pre W => ∃ c, Ix c pre W ∧ w.heap.size + 2 ≤ W.heap.size ∧ W.heap[w.heap.size + 1]? = some (.loop (rec .done (some c))) ∧ W.heap[w.heap.size]? = some (.deferred (some [])))
      W1 (hk0.mono (fun _ h => h.elim)) ?_ ?_ ?_ ⟨hI1, fun _ h => h.elim, by omega, hL1, hK1⟩).mono ?_
    · rintro pre X X' A B ⟨hi, hX, hsz, hl, hk⟩ hK hs hn
      have hX' : ∀ k, X' k → w.heap.size + 2 ≤ k := fun k h => (hn k h).elim (hX k) (fun h => by omega)
      exact ⟨hI _ _ _ _ _ hi hX (hK.mono (fun _ h => .inl h)) hs hn, hX', Nat.le_trans hsz hK.size, (hK.block _ (by omega) (fun h => by have := hX _ h; omega)).trans hl, (hK.block _ (by omega) (fun h => by have := hX _ h; omega)).trans hk⟩
    · rintro pre A B ⟨c, hi, hsz, hl, hk⟩ hK
      exact ⟨c, hIx c _ _ _ hi (hK.mono (fun _ h => h.elim)), Nat.le_trans hsz hK.size, (hK.block _ (by omega) (fun h => h)).trans hl, (hK.block _ (by omega) (fun h => h)).trans hk⟩
    · rintro pre x rest X W hxs ⟨hi, hX, hsz, hl, hk⟩
      have hlt : w.heap.size + 1 < W.heap.size := by omega
      have hy := run_yield (P := P) (args := encs x) hl (by rw [hrec]; exact hps x)
      rw [hrec] at hy
      refine ⟨fn, _, assign, body, hy, roundIn_of_wpIn hfn (hround _ pre x rest X W _ hxs hX hsz hi (fun a' Wa hka hbody => ?_))⟩
      have hla : Wa.heap[w.heap.size + 1]? = some (.loop (rec .ready none)) := (hka.block _ hlt (fun h => h)).trans hl
      have hka0 : Wa.heap[w.heap.size]? = some (.deferred (some [])) := (hka.block _ (by omega) (fun h => h)).trans hk
      have hsza := hka.size
      refine ⟨_, run_beginRound hla (by rw [hrec]), ?_⟩
      obtain ⟨W2, hW2⟩ : ∃ W2, Wa.putObj (w.heap.size + 1) (.loop { rec .ready none with state := .busy }) = W2 := ⟨_, rfl⟩
      have kA : Keep Wa W2 (fun k => k = w.heap.size + 1) := by rw [← hW2]; exact Keep.put1 _ _ _
      have kW : Keep W W2 (fun k => k = w.heap.size + 1) := (hka.mono (fun _ h => h.elim)).trans kA (fun _ _ h => h)
      have hl2 : W2.heap[w.heap.size + 1]? = some (.loop { rec .ready none with state := .busy }) := by rw [← hW2]; exact World.putObj_heap_same (by omega)
      have hk2 : W2.heap[w.heap.size]? = some (.deferred (some [])) := by rw [← hW2]; exact (World.putObj_heap_other (by omega)).trans hka0
      have hs2 : W.heap.size ≤ W2.heap.size := kW.size
      rw [hW2]
      refine wpIn_mono (hbody W2 kA (hI _ _ _ _ _ hi hX (kW.mono (fun _ h => .inr (.inr h))) (fun _ h => h) (fun _ h => .inl h))) ?_
      have fin : ∀ (jump : Option Code) (W3 : World), Keep W2 W3 (fun k => k ≠ w.heap.size ∧ k ≠ w.heap.size + 1) →
          ∃ W4, (Instr.endRound (w.heap.size + 1) jump).run P W3 = .ok (.bool jump.isNone) W4 ∧ Keep W3 W4 (fun k => k = w.heap.size + 1) ∧
          W4.heap[w.heap.size + 1]? = some (.loop (rec (if jump.isNone then .ready else .done) jump)) ∧ W4.heap[w.heap.size]? = some (.deferred (some [])) ∧ w.heap.size + 2 ≤ W4.heap.size := fun jump W3 hk3 => by
        have hl3 : W3.heap[w.heap.size + 1]? = some (.loop { rec .ready none with state := .busy }) := (hk3.block _ (by omega) (fun h => h.2 rfl)).trans hl2
        have hk4 : W3.heap[w.heap.size]? = some (.deferred (some [])) := (hk3.block _ (by omega) (fun h => h.1 rfl)).trans hk2
        have hsz3 := hk3.size
        have hr := run_endRound (P := P) jump hl3
        rw [hrec] at hr ⊢
        exact ⟨_, hr, Keep.put1 _ _ _, World.putObj_heap_same (by omega), (World.putObj_heap_other (by omega)).trans hk4, by simp; omega⟩
      rintro e a3 W3 hp
      cases e with
      | normal =>
        obtain ⟨hk3, hi3⟩ := hp
        obtain ⟨W4, hr, hk4, hl4, hd4, hs4⟩ := fin none W3 (hk3.mono (fun _ h => h.2.2))
        refine ⟨_, _, hr, .inl ⟨rfl, ⟨hI _ _ _ _ _ hi3 hX (hk4.mono (fun _ h => .inr (.inr h))) (fun _ h => h) (fun _ h => .inl h), hX, hs4, hl4, hd4⟩, ?_⟩⟩
        have kp : ∀ k, k = w.heap.size + 1 → ¬ X k ∧ ¬ L k := fun k e => ⟨fun h => by have := hX k h; omega, fun h => by have := hL k h; omega⟩
        exact ((kW.mono kp).trans (hk3.mono (fun _ h => ⟨h.1, h.2.1⟩)) (fun _ _ h => h)).trans (hk4.mono kp) (fun _ _ h => h)
      | ret =>
        obtain ⟨hk3, hi3⟩ := hp
        obtain ⟨W4, hr, hk4, hl4, hd4, hs4⟩ := fin (some .ret) W3 hk3
        exact ⟨_, _, hr, .inr ⟨rfl, .ret, hIx _ _ _ _ hi3 (hk4.mono (fun _ h => .inr h)), hs4, hl4, hd4⟩⟩
      | exit id =>
        obtain ⟨hk3, hi3⟩ := hp
        obtain ⟨W4, hr, hk4, hl4, hd4, hs4⟩ := fin (some (.exit id)) W3 hk3
        exact ⟨_, _, hr, .inr ⟨rfl, .exit id, hIx _ _ _ _ hi3 (hk4.mono (fun _ h => .inr h)), hs4, hl4, hd4⟩⟩
      | goto t =>
        obtain ⟨hk3, hi3⟩ := hp
        obtain ⟨W4, hr, hk4, hl4, hd4, hs4⟩ := fin (some (.goto t)) W3 hk3
        exact ⟨_, _, hr, .inr ⟨rfl, .goto t, hIx _ _ _ _ hi3 (hk4.mono (fun _ h => .inr h)), hs4, hl4, hd4⟩⟩
      | panic ch => exact hp.elim
      | outgrown => exact hp.elim
    · rintro e W2 ⟨⟨v, rfl⟩, (⟨X, hi, hX, hsz, hl, hk⟩ | ⟨pre, hpre, c, hi, hsz, hl, hk⟩)⟩
      · have kP : Keep W2 (W2.putObj (w.heap.size + 1) (.loop { rec .ready none with state := .exhausted })) (fun k => k = w.heap.size + 1) := Keep.put1 _ _ _
        exact ⟨none, _, by have := run_endLoop (P := P) hl (by rw [hrec]; simp); rw [hrec] at this; exact this, by
          have := hdone X _ hX (by simp; omega) (hI _ _ _ _ _ hi hX (kP.mono (fun _ h => .inr (.inr h))) (fun _ h => h) (fun _ h => .inl h)) ((World.putObj_heap_other (by omega)).trans hk)
          rw [hrec] at this; exact this⟩
      · have kP : Keep W2 (W2.putObj (w.heap.size + 1) (.loop { rec .done (some c) with state := .exhausted })) (fun k => k = w.heap.size + 1) := Keep.put1 _ _ _
        exact ⟨some c, _, by have := run_endLoop (P := P) hl (by rw [hrec]; simp); rw [hrec] at this; exact this, by
          have := hstop c pre _ (by simp; omega) hpre (hIx _ _ _ _ hi (kP.mono (fun _ h => .inr h))) ((World.putObj_heap_other (by omega)).trans hk)
          rw [hrec] at this; exact this⟩
set_option maxRecDepth 100000 in
set_option maxHeartbeats 2000000 in
theorem parts1_seqy (B g0 : Nat) (root : Pt) (w : World) (hd : root.d = 1) (hm : root.m = 0) (hT : Tabs w) (h3 : 3 ≤ B) (hB : B ≤ w.heap.size) (hg0 : g0 < w.heap.size) (hc : TCells w root.b root.off root.t) (hin : TIn w (· < B) root.t)
    (hcap : w.cell? ⟨g0, 0, none⟩ = some (.pointer (some ⟨root.b, root.off, none⟩))) (hsz : root.t.size < 1048576) :
    SeqY Tryd.prog 60 #[.pointer (some ⟨g0, 0, none⟩)] (fun p : Pt => #[p.val]) root.seq (fun k => k < B ∨ k = root.b ∨ k = g0) w := by
  intro n l J Jx W hW hJ hJx hY h0
  have hlb := hc.lt
  have T1 := hT.keepS hW (fun k hk => by omega)
  have hc1 := hc.carry (hW.block _ hlb (fun h => h (.inr (.inl rfl))))
  have hin1 : TIn W (· < B) root.t := TIn.carry (fun b hb => hW.block b (by omega) (fun h => h (.inl hb))) (fun _ h => h) _ hin
  have hcap1 := (World.cell?_of_block (w := w) (hW.block g0 hg0 (fun h => h (.inr (.inr rfl))))).trans hcap
  have hs1 := hW.size
  refine callsIn_of_wp Tryd.func60 rfl trivial ?_ rfl
  simp only [Tryd.ntmps60, List.size_toArray, List.length_cons, List.length_nil, Nat.reduceAdd, Nat.reduceSub, Array.replicate_succ, Array.replicate_zero, List.push_toArray, List.append_toArray, List.nil_append, List.cons_append]
  gi_wp2
  gi_loopw [8] (fun i wr => ∃ pre f st v X, i = .int .i64 ((pre.length : Nat) : Int) ∧ It W.heap.size B root.b g0 W.heap.size root J wr pre f st v X) (fun i _ => root.t.size + 1 - (intOf i).toNat)
  case atStart =>
    have hbel := below_alloc W (.cells #[.pointer (some ⟨root.b, root.off, none⟩), .slice none 0 0] 86)
    have hk : Keep W (W.alloc (.cells #[.pointer (some ⟨root.b, root.off, none⟩), .slice none 0 0] 86)) (fun _ => False) := (Keep.refl _ _).alloc _
    exact ⟨[], some ⟨root.b, root.off, none⟩, [], .slice none 0 0, (fun k => k = W.heap.size), rfl, ⟨⟨Blk.new _ _ _, rfl, .inl ⟨rfl, rfl⟩⟩, .inl ⟨rfl, rfl, rfl, rfl⟩, (fun x hx => by cases hx), Nat.le_refl _, (fun k e => Nat.le_of_eq e.symm), rfl, (fun k e => by cases e),
      hJ _ _ _ _ _ h0 hk (fun _ h => h.elim) (fun k e => .inr ⟨Nat.le_of_eq e.symm, by rw [e]; simp⟩), by simp, T1.on hbel, ⟨hc1.carry (hbel.block _ (by omega)), hin1.below hbel (by omega)⟩, (World.cell?_of_block (w := W) (a := ⟨g0, 0, none⟩) (hbel.block g0 (by omega))).trans hcap1⟩⟩
  case round =>
    obtain ⟨pre, f, st, v, X, rfl, hI⟩ := hrel
    have hlen : (root.seq).length = root.t.size := Tr.seq_len _ _ _ _ _
    have hsize := hI.size
    rcases hI.next hd hm (by omega) (Nat.le_refl _) (by omega) hsz with ⟨hpre, rfl, rfl⟩ | ⟨x, st', hseq, hcall, hst', hops'⟩
    · have hpl : pre.length < 1048576 := by rw [hpre, hlen]; exact hsz
      have hdl : decide ((pre.length : Int) < 1048576) = true := by simp; omega
      have HH : Hid (pre.length < 1048576 ∧ root.t.size < 1048576 ∧ root.seq.length = root.t.size) := ⟨hpl, hsz, hlen⟩
      clear hpl hsz hlen
      have HP : Hid (pre = root.seq) := hpre
      clear hpre
      have hn := next_none W.heap.size W.heap.size wr v hI.ws
      gi_wp2_with fail
      with_reducible refine And.intro (wide_fn 57) (And.intro wide_depth ?_)
      refine (callsIn_wide.2 hn).mono ?_
      rintro e w1 ⟨rfl, hb1⟩
      have hk1 : Keep wr w1 (fun _ => False) := Keep.of_below hb1 (Nat.le_refl _)
      dsimp only
      iterate 38 gi_step
      with_reducible refine And.intro (fun f _ => wide_fn f) ?_
      gi_wp2_with fail
      refine bodyPost_ret (results_none rfl _ _ _) rfl ⟨⟨_, rfl⟩, .inl ⟨X, ?_⟩⟩
      rw [← HP.out]
      exact hJ _ _ _ _ _ hI.j ((hk1.alloc _).mono (fun _ h => h.elim)) (fun _ h => h) (fun _ h => .inl h)
    · have hpl : pre.length < 1048576 := by rw [hseq] at hlen; simp at hlen; omega
      have hdl : decide ((pre.length : Int) < 1048576) = true := by simp; omega
      have HH : Hid (pre.length < 1048576 ∧ root.t.size < 1048576 ∧ root.seq.length = root.t.size) := ⟨hpl, hsz, hlen⟩
      clear hpl hsz hlen
      have HL : Hid (pre.length + 1 ≤ root.t.size ∧ pre.length ≤ 4611686018427387904) := by
        show _ ∧ _
        have h1 := HH.out
        have h2 := h1.2.2
        rw [hseq] at h2
        simp only [List.length_append, List.length_cons] at h2
        exact ⟨by omega, by omega⟩
      have HQ : Hid (root.seq = pre ++ x :: Stk.rem st') := hseq
      clear hseq
      gi_wp2_with fail
      with_reducible refine And.intro (wide_fn 57) (And.intro wide_depth ?_)
      refine (callsIn_wide.2 hcall).mono ?_
      rintro e w1 ⟨rfl, hx1⟩
      obtain ⟨xb, xoff, xt, xd, xm⟩ := x
      obtain ⟨v', hws', hv'⟩ := hx1.ws
      have hk1 := hx1.keep
      have hz1 := hk1.size
      obtain ⟨X', hX'⟩ : ∃ X' : Nat → Prop, X' = fun k => X k ∨ v'.ownBlock = some k := ⟨_, rfl⟩
      obtain ⟨w2, hw2, hb2, P2, hs2⟩ := one_new w1 [.pointer (some ⟨xb, xoff, none⟩), .int .i64 (xd : Int), .int .i64 (xm : Int)] 50
      have p0 := P2.cell (j := 0) rfl
      have p1 := P2.cell (j := 1) rfl
      have p2 := P2.cell (j := 2) rfl
      have hk2 : Keep wr w2 (fun k => k = W.heap.size ∨ v.ownBlock = some k) := hk1.low hb2 (by omega)
      have hX1 : ∀ k, X k → X' k := fun k h => by rw [hX']; exact .inl h
      have hX2 : ∀ k, X' k → X k ∨ (wr.heap.size ≤ k ∧ k < w2.heap.size) := fun k h => by
        rw [hX'] at h
        rcases h with h | h
        · exact .inl h
        · rcases hv' k h with h1 | h1
          · exact .inl (hI.xv k h1)
          · exact .inr ⟨h1, by have := (owns_own hws'.row h).2; omega⟩
      have hj2 : J pre X' w2 := hJ _ _ _ _ _ hI.j (hk2.mono (fun k h => h.elim (fun e => e ▸ hI.xg) (hI.xv k))) hX1 hX2
      obtain ⟨fn, tmps, assign, body, hy, hR⟩ := hY pre _ _ X' w2 HQ.out hj2
      dsimp only [Pt.val] at hy ⊢
      iterate 38 gi_step
      with_reducible refine And.intro wide_depth ?_
      refine hR.mono ?_
      rintro e W3 (⟨rfl, hJ3, hk3⟩ | ⟨rfl, hJx3⟩)
      · dsimp only
        gi_wp2_with fail
        go_roundw
        case rel =>
          have hpl := HH.out.1
          have hwr : wrap64 ((pre.length : Int) + 1) = (pre.length : Int) + 1 := wrap64_small _ (by omega) (by omega)
          have hz3 := hk3.size
          have hlow : ∀ k, X' k → W.heap.size ≤ k := fun k h => (hX2 k h).elim (hI.low k) (fun h => by omega)
          have xx : ∀ k, X' k → k < w2.heap.size → W3.heap[k]? = w2.heap[k]? := fun k h hl => hk3.block k hl (fun h' => h'.1 h)
          have ll : ∀ k, k < B ∨ k = root.b ∨ k = g0 → W3.heap[k]? = wr.heap[k]? := fun k h => by
            have hlt : k < W.heap.size := by omega
            refine (hk3.block k (by omega) (fun h' => h'.2 h)).trans (hk2.block k (by omega) (fun h' => ?_))
            rcases h' with h' | h'
            · omega
            · have := hI.low k (hI.xv k h'); omega
          have lr : ∀ k, k < B ∨ k = root.b → W3.heap[k]? = wr.heap[k]? := fun k h => ll k (h.elim .inl (fun h => .inr (.inl h)))
          have hb12 := hws'.blk.below hb2 hws'.blk.lt
          have hx' : X' W.heap.size := hX1 _ hI.xg
          have hxv : ∀ k, v'.ownBlock = some k → X' k := fun k h => by rw [hX']; exact .inr h
          refine ⟨pre ++ [⟨xb, xoff, xt, xd, xm⟩], none, st', v', X', by simp [hwr], ⟨⟨hb12.carry (xx _ hx' hb12.lt), ?_⟩, .inr ⟨rfl, by rw [HQ.out]; simp⟩, ?_, by simpa using hst', hlow, hx', hxv, hJ3, by omega, ?_, ⟨hI.rt.1.carry (lr _ (.inr rfl)), TIn.carry (fun b hb => lr b (.inl hb)) (fun _ h => h) _ hI.rt.2⟩, ?_⟩⟩
          · exact owns_block hws'.row (fun k e => by have := owns_own hws'.row e; exact (xx k (hxv k e) (by omega)).trans (hb2.block k this.2))
          · intro y hy
            have := hops' y hy
            simp only [List.length_append, List.length_cons, List.length_nil, Nat.zero_add]
            exact this.carry lr
          · exact hI.tabs.carry (fun k hk => ll k (.inl (by omega)))
          · exact (World.cell?_of_block (w := wr) (a := ⟨g0, 0, none⟩) (ll g0 (.inr (.inr rfl)))).trans hI.cap
        case measure => exact meas_go _ _ HL.out.1 HL.out.2
      · dsimp only
        gi_wp2_with fail
        exact bodyPost_ret (results_none rfl _ _ _) rfl ⟨⟨_, rfl⟩, .inr ⟨_, ⟨Stk.rem st', by rw [HQ.out]; simp⟩, hJx3⟩⟩
end Go.Proofs.YtbmijpjmdpdfkaaDoor
