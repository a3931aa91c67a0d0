/- A range over a function whose iterator keeps lists of its own, in memory that grows. Of no program; no condition. -/
import Derived.Test.YtemgmphddmlmlaaMem
import Derived.RangeFuncNested
import Derived.RangeFuncBound
namespace Go.Proofs.Ytemgmphddmlmlaa
open Go.RowKit

theorem Keep.putObj {a w : World} {S : Nat → Prop} (h : Keep a w S) {g : Nat} (hS : g < a.heap.size → S g) (o : Obj) : Keep a (w.putObj g o) S :=
  ⟨h.os, h.tape, h.output, by simp; exact h.size, fun i hi hn => by
    rw [World.putObj_heap_other (fun e => hn (by subst e; exact hS hi))]; exact h.block i hi hn⟩

theorem Keep.put1 (w : World) (g : Nat) (o : Obj) : Keep w (w.putObj g o) (fun k => k = g) := (Keep.refl w (fun k => k = g)).putObj (g := g) (fun _ => rfl) o

/-- What an iterator tells: just xs, in order. Its own blocks are X: they grow; it reads those of L, too; all else it leaves. The rounds leave those of X and of L. -/
def SeqX {α : Type} (P : Program) (g : Nat) (lb : Array Value) (encs : α → Array Value) (xs : List α) (L : Nat → Prop) (w : World) : Prop :=
  ∀ (n l : Nat) (J : List α → (Nat → Prop) → World → Prop) (Jx : List α → World → Prop) (W : World), Keep w W (fun k => ¬ L k) →
    (∀ pre X X' A B, J pre X A → Keep A B X → (∀ k, X k → X' k) → (∀ k, X' k → X k ∨ A.heap.size ≤ k) → J pre X' B) →
    (∀ pre A B, Jx pre A → Keep A B (fun _ => False) → Jx pre B) →
    (∀ pre x rest X W1, xs = pre ++ x :: rest → J pre X W1 → YieldAt Fence.wide (n - 1) P l (encs x) W1 fun e W' =>
      (e = .returned (.bool true) ∧ J (pre ++ [x]) X W' ∧ Keep W1 W' (fun k => ¬ X k ∧ ¬ L k)) ∨ (e = .returned (.bool false) ∧ Jx (pre ++ [x]) W')) →
    J [] (fun _ => False) W →
    CallsIn Fence.wide n P g (#[.func (.yield l) #[] #[]] ++ lb) W fun e W' => (∃ v, e = .returned v) ∧ ((∃ X, J xs X W') ∨ (∃ pre, pre <+: xs ∧ Jx pre W'))

/-- How the body of a round may be left. -/
def postX {α : Type} (N : Nat) (L : Nat → Prop) (I : List α → (Nat → Prop) → World → Prop) (Ix : Code → List α → World → Prop) (xs : List α) (X : Nat → Prop) (W : World) : Exit → Act → World → Prop
  | .normal, _, W' => Keep W W' (fun k => ¬ X k ∧ ¬ L k ∧ k ≠ N ∧ k ≠ N + 1) ∧ I xs X W'
  | .ret, _, W' => Keep W W' (fun k => k ≠ N ∧ k ≠ N + 1) ∧ Ix .ret xs W'
  | .exit id, _, W' => Keep W W' (fun k => k ≠ N ∧ k ≠ N + 1) ∧ Ix (.exit id) xs W'
  | .goto t, _, W' => Keep W W' (fun k => k ≠ N ∧ k ≠ N + 1) ∧ Ix (.goto t) xs W'
  | .panic _, _, _ => False
  | .outgrown, _, _ => False

/-- The statement 'for .. := range g { .. }'. -/
theorem wpIn_range {α : Type} {P : Program} {n : Nat} {g : Operand} {ps : Array Tmp} {assign body : Code} {Q : Exit → Act → World → Prop} {a : Act} {w : World}
    {gf : Nat} {lb : Array Value} (hg : a.eval g = .func (.func gf) #[] lb) (eg : ∀ args w, (callFunc gf args).run P w = .ok (.enter gf args) w)
    {encs : α → Array Value} {xs : List α} {L : Nat → Prop} (hseq : SeqX P gf lb encs xs L w) (hL : ∀ k, L k → k < w.heap.size) (hps : ∀ x, (encs x).size = ps.size)
    (I : List α → (Nat → Prop) → World → Prop) (Ix : Code → List α → World → Prop)
    (hI : ∀ pre X X' A B, I pre X A → (∀ k, X k → w.heap.size + 2 ≤ k) → Keep A B (fun k => X k ∨ k = w.heap.size ∨ k = w.heap.size + 1) → (∀ k, X k → X' k) → (∀ k, X' k → X k ∨ A.heap.size ≤ k) → I pre X' B)
    (hIx : ∀ c pre A B, Ix c pre A → Keep A B (fun k => k = w.heap.size ∨ k = w.heap.size + 1) → Ix c pre B)
    (h0 : I [] (fun _ => False) w) (a₁ : α → Act)
    (hassign : ∀ (l : Nat) (x : α) (W : World) (K : Act → World → Prop), K (a₁ x) W →
      assign.wpIn (Fence.wide.inRound l) (n - 1 - 1) P (Exit.then K (fun _ _ _ => False)) { tmps := (ps.zip (encs x)).foldl (fun t (p, v) => t.setIfInBounds p v) a.tmps, defers := [] } W)
    (hbody : ∀ (l : Nat) (pre : List α) (x : α) (rest : List α) (X : Nat → Prop) (W : World), xs = pre ++ x :: rest → (∀ k, X k → w.heap.size + 2 ≤ k) → w.heap.size + 2 ≤ W.heap.size → I pre X W →
      body.wpIn (Fence.wide.inRound l) (n - 1 - 1) P (postX w.heap.size L I Ix (pre ++ [x]) X W) (a₁ x) W)
    (hdone : ∀ (X : Nat → Prop) (W : World), (∀ k, X k → w.heap.size + 2 ≤ k) → w.heap.size + 2 ≤ W.heap.size → I xs X W → W.heap[w.heap.size]? = some (.deferred (some [])) → Q .normal { a with defers := { target := .collected w.heap.size, args := #[] } :: a.defers } W)
    (hstop : ∀ (c : Code) (pre : List α) (W : World), w.heap.size + 2 ≤ W.heap.size → pre <+: xs → Ix c pre W → W.heap[w.heap.size]? = some (.deferred (some [])) → c.wpIn Fence.wide n P Q { a with defers := { target := .collected w.heap.size, args := #[] } :: a.defers } W) :
    (Code.rangeFunc g ps assign body).wpIn Fence.wide n P Q a w := by
  refine wpIn_rangeFunc ?_
  intro fn hfn
  rw [show Fence.wide.round = none from rfl]
  obtain ⟨rec, hrec⟩ : ∃ rec : LoopState → Option Code → Loop, rec = fun st pe => { state := st, pending := pe, fn, tmps := a.tmps, params := ps, assign, body, defers := w.heap.size } := ⟨_, rfl⟩
  obtain ⟨W1, hW1⟩ : ∃ W1, (w.alloc (.deferred (some []))).alloc (.loop (rec .ready none)) = W1 := ⟨_, rfl⟩
  have hL1 : W1.heap[w.heap.size + 1]? = some (.loop (rec .ready none)) := by
    rw [← hW1]; have := World.alloc_heap_new (w.alloc (.deferred (some []))) (.loop (rec .ready none)); rwa [World.size_alloc] at this
  have hK1 : W1.heap[w.heap.size]? = some (.deferred (some [])) := by
    rw [← hW1]; exact (Below.heap_alloc _ _ _ (by simp)).trans (World.alloc_heap_new w _)
  have hs1 : W1.heap.size = w.heap.size + 2 := by rw [← hW1]; simp
  have hk0 : Keep w W1 (fun _ => False) := by rw [← hW1]; exact ((Keep.refl _ _).alloc _).alloc _
  have hI1 : I [] (fun _ => False) W1 := hI _ _ _ _ _ h0 (fun _ h => h.elim) (hk0.mono (fun _ h => h.elim)) (fun _ h => h) (fun _ h => h.elim)
  refine ⟨w.heap.size + 1, [{ target := .collected w.heap.size, args := #[] }], W1, { target := .fn (.func gf) lb, args := #[.func (.yield (w.heap.size + 1)) #[] #[]] }, W1, gf,
    #[.func (.yield (w.heap.size + 1)) #[] #[]] ++ lb, W1, ?_, ?_, ?_, ?_, (fun h => by simp [Fence.wide] at h), ?_⟩
  · rw [← hW1, hrec]; exact run_enterLoop_outer _ _ _ _ _
  · simp only [resolve, hg]
    simp [go_sem]
  · intro f' _; exact trivial
  · simp [invoke, go_sem, eg]
  · refine (hseq (n - 1) (w.heap.size + 1)
      (fun pre X W => I pre X W ∧ (∀ k, X k → w.heap.size + 2 ≤ k) ∧ w.heap.size + 2 ≤ W.heap.size ∧ W.heap[w.heap.size + 1]? = some (.loop (rec .ready none)) ∧ W.heap[w.heap.size]? = some (.deferred (some [])))
      (fun pre W => ∃ c, Ix c pre W ∧ w.heap.size + 2 ≤ W.heap.size ∧ W.heap[w.heap.size + 1]? = some (.loop (rec .done (some c))) ∧ W.heap[w.heap.size]? = some (.deferred (some [])))
      W1 (hk0.mono (fun _ h => h.elim)) ?_ ?_ ?_ ⟨hI1, fun _ h => h.elim, by omega, hL1, hK1⟩).mono ?_
    · rintro pre X X' A B ⟨hi, hX, hsz, hl, hk⟩ hK hs hn
      have hX' : ∀ k, X' k → w.heap.size + 2 ≤ k := fun k h => (hn k h).elim (hX k) (fun h => by omega)
      exact ⟨hI _ _ _ _ _ hi hX (hK.mono (fun _ h => .inl h)) hs hn, hX', Nat.le_trans hsz hK.size, (hK.block _ (by omega) (fun h => by have := hX _ h; omega)).trans hl, (hK.block _ (by omega) (fun h => by have := hX _ h; omega)).trans hk⟩
    · rintro pre A B ⟨c, hi, hsz, hl, hk⟩ hK
      exact ⟨c, hIx c _ _ _ hi (hK.mono (fun _ h => h.elim)), Nat.le_trans hsz hK.size, (hK.block _ (by omega) (fun h => h)).trans hl, (hK.block _ (by omega) (fun h => h)).trans hk⟩
    · rintro pre x rest X W hxs ⟨hi, hX, hsz, hl, hk⟩
      have hlt : w.heap.size + 1 < W.heap.size := by omega
      have hy := run_yield (P := P) (args := encs x) hl (by rw [hrec]; exact hps x)
      rw [hrec] at hy
      refine ⟨fn, _, assign, body, hy, roundIn_of_wpIn hfn (hassign _ x W _ ⟨_, run_beginRound hl (by rw [hrec]), ?_⟩)⟩
      obtain ⟨W2, hW2⟩ : ∃ W2, W.putObj (w.heap.size + 1) (.loop { rec .ready none with state := .busy }) = W2 := ⟨_, rfl⟩
      have kW : Keep W W2 (fun k => k = w.heap.size + 1) := by rw [← hW2]; exact Keep.put1 _ _ _
      have hl2 : W2.heap[w.heap.size + 1]? = some (.loop { rec .ready none with state := .busy }) := by rw [← hW2]; exact World.putObj_heap_same hlt
      have hk2 : W2.heap[w.heap.size]? = some (.deferred (some [])) := by rw [← hW2]; exact (World.putObj_heap_other (by omega)).trans hk
      have hs2 : W2.heap.size = W.heap.size := by rw [← hW2]; simp
      rw [hW2]
      refine wpIn_mono (hbody _ pre x rest X W2 hxs hX (by omega) (hI _ _ _ _ _ hi hX (kW.mono (fun _ h => .inr (.inr h))) (fun _ h => h) (fun _ h => .inl h))) ?_
      have fin : ∀ (jump : Option Code) (W3 : World), Keep W2 W3 (fun k => k ≠ w.heap.size ∧ k ≠ w.heap.size + 1) →
          ∃ W4, (Instr.endRound (w.heap.size + 1) jump).run P W3 = .ok (.bool jump.isNone) W4 ∧ Keep W3 W4 (fun k => k = w.heap.size + 1) ∧
          W4.heap[w.heap.size + 1]? = some (.loop (rec (if jump.isNone then .ready else .done) jump)) ∧ W4.heap[w.heap.size]? = some (.deferred (some [])) ∧ w.heap.size + 2 ≤ W4.heap.size := fun jump W3 hk3 => by
        have hl3 : W3.heap[w.heap.size + 1]? = some (.loop { rec .ready none with state := .busy }) := (hk3.block _ (by omega) (fun h => h.2 rfl)).trans hl2
        have hk4 : W3.heap[w.heap.size]? = some (.deferred (some [])) := (hk3.block _ (by omega) (fun h => h.1 rfl)).trans hk2
        have hsz3 := hk3.size
        have hr := run_endRound (P := P) jump hl3
        rw [hrec] at hr ⊢
        exact ⟨_, hr, Keep.put1 _ _ _, World.putObj_heap_same (by omega), (World.putObj_heap_other (by omega)).trans hk4, by simp; omega⟩
      rintro e a3 W3 hp
      cases e with
      | normal =>
        obtain ⟨hk3, hi3⟩ := hp
        obtain ⟨W4, hr, hk4, hl4, hd4, hs4⟩ := fin none W3 (hk3.mono (fun _ h => h.2.2))
        refine ⟨_, _, hr, .inl ⟨rfl, ⟨hI _ _ _ _ _ hi3 hX (hk4.mono (fun _ h => .inr (.inr h))) (fun _ h => h) (fun _ h => .inl h), hX, hs4, hl4, hd4⟩, ?_⟩⟩
        have kp : ∀ k, k = w.heap.size + 1 → ¬ X k ∧ ¬ L k := fun k e => ⟨fun h => by have := hX k h; omega, fun h => by have := hL k h; omega⟩
        exact ((kW.mono kp).trans (hk3.mono (fun _ h => ⟨h.1, h.2.1⟩)) (fun _ _ h => h)).trans (hk4.mono kp) (fun _ _ h => h)
      | ret =>
        obtain ⟨hk3, hi3⟩ := hp
        obtain ⟨W4, hr, hk4, hl4, hd4, hs4⟩ := fin (some .ret) W3 hk3
        exact ⟨_, _, hr, .inr ⟨rfl, .ret, hIx _ _ _ _ hi3 (hk4.mono (fun _ h => .inr h)), hs4, hl4, hd4⟩⟩
      | exit id =>
        obtain ⟨hk3, hi3⟩ := hp
        obtain ⟨W4, hr, hk4, hl4, hd4, hs4⟩ := fin (some (.exit id)) W3 hk3
        exact ⟨_, _, hr, .inr ⟨rfl, .exit id, hIx _ _ _ _ hi3 (hk4.mono (fun _ h => .inr h)), hs4, hl4, hd4⟩⟩
      | goto t =>
        obtain ⟨hk3, hi3⟩ := hp
        obtain ⟨W4, hr, hk4, hl4, hd4, hs4⟩ := fin (some (.goto t)) W3 hk3
        exact ⟨_, _, hr, .inr ⟨rfl, .goto t, hIx _ _ _ _ hi3 (hk4.mono (fun _ h => .inr h)), hs4, hl4, hd4⟩⟩
      | panic ch => exact hp.elim
      | outgrown => exact hp.elim
    · rintro e W2 ⟨⟨v, rfl⟩, (⟨X, hi, hX, hsz, hl, hk⟩ | ⟨pre, hpre, c, hi, hsz, hl, hk⟩)⟩
      · have kP : Keep W2 (W2.putObj (w.heap.size + 1) (.loop { rec .ready none with state := .exhausted })) (fun k => k = w.heap.size + 1) := Keep.put1 _ _ _
        exact ⟨none, _, by have := run_endLoop (P := P) hl (by rw [hrec]; simp); rw [hrec] at this; exact this, by
          have := hdone X _ hX (by simp; omega) (hI _ _ _ _ _ hi hX (kP.mono (fun _ h => .inr (.inr h))) (fun _ h => h) (fun _ h => .inl h)) ((World.putObj_heap_other (by omega)).trans hk)
          rw [hrec] at this; exact this⟩
      · have kP : Keep W2 (W2.putObj (w.heap.size + 1) (.loop { rec .done (some c) with state := .exhausted })) (fun k => k = w.heap.size + 1) := Keep.put1 _ _ _
        exact ⟨some c, _, by have := run_endLoop (P := P) hl (by rw [hrec]; simp); rw [hrec] at this; exact this, by
          have := hstop c pre _ (by simp; omega) hpre (hIx _ _ _ _ hi (kP.mono (fun _ h => .inr h))) ((World.putObj_heap_other (by omega)).trans hk)
          rw [hrec] at this; exact this⟩

end Go.Proofs.Ytemgmphddmlmlaa
