/- The statement 'for .. := range ..' over an iterator that makes no memory. Of no program; no condition. -/
import Derived.Test.YtkbpmpcbajnmlaaDoorTm
import Derived.Deep.RegionHeld3
import Derived.RangeFuncCalls
import Derived.OrdersIn
import Derived.Test.YtkbpmpcbajnmlaaDoorRw
import Derived.RangeFuncLeaves
import Derived.Shelf.Abstract
import Derived.OwnWalkIn
import Derived.TacticsInMore
import Derived.LoopNIn
import Derived.LoopIn
import Derived.Test.YtkbpmpcbajnmlaaDoorProg
namespace Go.Proofs.YtkbpmpcbajnmlaaDoor
open Go.RowKit

/-- What an iterator tells that makes no memory: just xs, in order. It reads the blocks of L; the rounds leave those. -/
def SeqN {α : Type} (P : Program) (g : Nat) (lb : Array Value) (encs : α → Array Value) (xs : List α) (L : Nat → Prop) (w : World) : Prop :=
  ∀ (n l : Nat) (J : List α → World → Prop) (Jx : List α → World → Prop) (W : World), Keep w W (fun k => ¬ L k) →
    (∀ pre A B, J pre A → Keep A B (fun _ => False) → J pre B) →
    (∀ pre A B, Jx pre A → Keep A B (fun _ => False) → Jx pre B) →
    (∀ pre x rest W1, xs = pre ++ x :: rest → J pre W1 → YieldAt Fence.wide (n - 1) P l (encs x) W1 fun e W' =>
      (e = .returned (.bool true) ∧ J (pre ++ [x]) W' ∧ Keep W1 W' (fun k => ¬ L k)) ∨ (e = .returned (.bool false) ∧ Jx (pre ++ [x]) W')) →
    J [] W →
    CallsIn Fence.wide n P g (#[.func (.yield l) #[] #[]] ++ lb) W fun e W' => (∃ v, e = .returned v) ∧ (J xs W' ∨ (∃ pre, pre <+: xs ∧ Jx pre W'))

/-- How the body of a round may be left. -/
def postN {α : Type} (N : Nat) (L : Nat → Prop) (I : List α → World → Prop) (Ix : Code → List α → World → Prop) (xs : List α) (W : World) : Exit → Act → World → Prop
  | .normal, _, W' => Keep W W' (fun k => ¬ L k ∧ k ≠ N ∧ k ≠ N + 1) ∧ I xs W'
  | .ret, _, W' => Keep W W' (fun k => k ≠ N ∧ k ≠ N + 1) ∧ Ix .ret xs W'
  | .exit id, _, W' => Keep W W' (fun k => k ≠ N ∧ k ≠ N + 1) ∧ Ix (.exit id) xs W'
  | .goto t, _, W' => Keep W W' (fun k => k ≠ N ∧ k ≠ N + 1) ∧ Ix (.goto t) xs W'
  | .panic _, _, _ => False
  | .outgrown, _, _ => False

/-- The statement 'for .. := range g { .. }'. -/
theorem wpIn_rngn {α : Type} {P : Program} {n : Nat} {g : Operand} {ps : Array Tmp} {assign body : Code} {Q : Exit → Act → World → Prop} {a : Act} {w : World}
    {gf : Nat} {lb : Array Value} (hg : a.eval g = .func (.func gf) #[] lb) (eg : ∀ args w, (callFunc gf args).run P w = .ok (.enter gf args) w)
    {encs : α → Array Value} {xs : List α} {L : Nat → Prop} (hseq : SeqN P gf lb encs xs L w) (hL : ∀ k, L k → k < w.heap.size) (hps : ∀ x, (encs x).size = ps.size)
    (I : List α → World → Prop) (Ix : Code → List α → World → Prop)
    (hI : ∀ pre A B, I pre A → w.heap.size ≤ A.heap.size → Keep A B (fun k => k = w.heap.size ∨ k = w.heap.size + 1) → I pre B)
    (hIx : ∀ c pre A B, Ix c pre A → Keep A B (fun k => k = w.heap.size ∨ k = w.heap.size + 1) → Ix c pre B)
    (h0 : I [] w)
    (hround : ∀ (l : Nat) (x : α) (W : World) (K : Act → World → Prop),
      (∀ a', (∀ (pre rest : List α) (W2 : World), xs = pre ++ x :: rest → w.heap.size + 2 ≤ W2.heap.size → I pre W2 → body.wpIn (Fence.wide.inRound l) (n - 1 - 1) P (postN w.heap.size L I Ix (pre ++ [x]) W2) a' W2) → K a' W) →
      assign.wpIn (Fence.wide.inRound l) (n - 1 - 1) P (Exit.then K (fun _ _ _ => False)) { tmps := (ps.zip (encs x)).foldl (fun t (p, v) => t.setIfInBounds p v) a.tmps, defers := [] } W)
    (hdone : ∀ (W : World), w.heap.size + 2 ≤ W.heap.size → I xs W → W.heap[w.heap.size]? = some (.deferred (some [])) → Q .normal { a with defers := { target := .collected w.heap.size, args := #[] } :: a.defers } W)
    (hstop : ∀ (c : Code) (pre : List α) (W : World), w.heap.size + 2 ≤ W.heap.size → pre <+: xs → Ix c pre W → W.heap[w.heap.size]? = some (.deferred (some [])) → c.wpIn Fence.wide n P Q { a with defers := { target := .collected w.heap.size, args := #[] } :: a.defers } W) :
    (Code.rangeFunc g ps assign body).wpIn Fence.wide n P Q a w := by
  refine wpIn_rangeFunc ?_
  intro fn hfn
  rw [show Fence.wide.round = none from rfl]
  obtain ⟨rec, hrec⟩ : ∃ rec : LoopState → Option Code → Loop, rec = fun st pe => { state := st, pending := pe, fn, tmps := a.tmps, params := ps, assign, body, defers := w.heap.size } := ⟨_, rfl⟩
  obtain ⟨W1, hW1⟩ : ∃ W1, (w.alloc (.deferred (some []))).alloc (.loop (rec .ready none)) = W1 := ⟨_, rfl⟩
  have hL1 : W1.heap[w.heap.size + 1]? = some (.loop (rec .ready none)) := by
    rw [← hW1]; have := World.alloc_heap_new (w.alloc (.deferred (some []))) (.loop (rec .ready none)); rwa [World.size_alloc] at this
  have hK1 : W1.heap[w.heap.size]? = some (.deferred (some [])) := by
    rw [← hW1]; exact (Below.heap_alloc _ _ _ (by simp)).trans (World.alloc_heap_new w _)
  have hs1 : W1.heap.size = w.heap.size + 2 := by rw [← hW1]; simp
  have hk0 : Keep w W1 (fun _ => False) := by rw [← hW1]; exact ((Keep.refl _ _).alloc _).alloc _
  have hI1 : I [] W1 := hI _ _ _ h0 (Nat.le_refl _) (hk0.mono (fun _ h => h.elim))
  refine ⟨w.heap.size + 1, [{ target := .collected w.heap.size, args := #[] }], W1, { target := .fn (.func gf) lb, args := #[.func (.yield (w.heap.size + 1)) #[] #[]] }, W1, gf,
    #[.func (.yield (w.heap.size + 1)) #[] #[]] ++ lb, W1, ?_, ?_, ?_, ?_, (fun h => by simp [Fence.wide] at h), ?_⟩
  · rw [← hW1, hrec]; exact run_enterLoop_outer _ _ _ _ _
  · simp only [resolve, hg]
    simp [go_sem]
  · intro f' _; exact trivial
  · simp [invoke, go_sem, eg]
  · refine (hseq (n - 1) (w.heap.size + 1)
      (fun pre W => I pre W ∧ w.heap.size + 2 ≤ W.heap.size ∧ W.heap[w.heap.size + 1]? = some (.loop (rec .ready none)) ∧ W.heap[w.heap.size]? = some (.deferred (some [])))
      (fun pre W => ∃ c, Ix c pre W ∧ w.heap.size + 2 ≤ W.heap.size ∧ W.heap[w.heap.size + 1]? = some (.loop (rec .done (some c))) ∧ W.heap[w.heap.size]? = some (.deferred (some [])))
      W1 (hk0.mono (fun _ h => h.elim)) ?_ ?_ ?_ ⟨hI1, by omega, hL1, hK1⟩).mono ?_
    · rintro pre A B ⟨hi, hsz, hl, hk⟩ hK
      exact ⟨hI _ _ _ hi (by omega) (hK.mono (fun _ h => h.elim)), Nat.le_trans hsz hK.size, (hK.block _ (by omega) (fun h => h)).trans hl, (hK.block _ (by omega) (fun h => h)).trans hk⟩
    · rintro pre A B ⟨c, hi, hsz, hl, hk⟩ hK
      exact ⟨c, hIx c _ _ _ hi (hK.mono (fun _ h => h.elim)), Nat.le_trans hsz hK.size, (hK.block _ (by omega) (fun h => h)).trans hl, (hK.block _ (by omega) (fun h => h)).trans hk⟩
    · rintro pre x rest W hxs ⟨hi, hsz, hl, hk⟩
      have hlt : w.heap.size + 1 < W.heap.size := by omega
      have hy := run_yield (P := P) (args := encs x) hl (by rw [hrec]; exact hps x)
      rw [hrec] at hy
      refine ⟨fn, _, assign, body, hy, roundIn_of_wpIn hfn (hround _ x W _ (fun a' hbody => ⟨_, run_beginRound hl (by rw [hrec]), ?_⟩))⟩
      obtain ⟨W2, hW2⟩ : ∃ W2, W.putObj (w.heap.size + 1) (.loop { rec .ready none with state := .busy }) = W2 := ⟨_, rfl⟩
      have kW : Keep W W2 (fun k => k = w.heap.size + 1) := by rw [← hW2]; exact Keep.put1 _ _ _
      have hl2 : W2.heap[w.heap.size + 1]? = some (.loop { rec .ready none with state := .busy }) := by rw [← hW2]; exact World.putObj_heap_same hlt
      have hk2 : W2.heap[w.heap.size]? = some (.deferred (some [])) := by rw [← hW2]; exact (World.putObj_heap_other (by omega)).trans hk
      have hs2 : W2.heap.size = W.heap.size := by rw [← hW2]; simp
      rw [hW2]
      refine wpIn_mono (hbody pre rest W2 hxs (by omega) (hI _ _ _ hi (by omega) (kW.mono (fun _ h => .inr h)))) ?_
      have fin : ∀ (jump : Option Code) (W3 : World), Keep W2 W3 (fun k => k ≠ w.heap.size ∧ k ≠ w.heap.size + 1) →
          ∃ W4, (Instr.endRound (w.heap.size + 1) jump).run P W3 = .ok (.bool jump.isNone) W4 ∧ Keep W3 W4 (fun k => k = w.heap.size + 1) ∧
          W4.heap[w.heap.size + 1]? = some (.loop (rec (if jump.isNone then .ready else .done) jump)) ∧ W4.heap[w.heap.size]? = some (.deferred (some [])) ∧ w.heap.size + 2 ≤ W4.heap.size := fun jump W3 hk3 => by
        have hl3 : W3.heap[w.heap.size + 1]? = some (.loop { rec .ready none with state := .busy }) := (hk3.block _ (by omega) (fun h => h.2 rfl)).trans hl2
        have hk4 : W3.heap[w.heap.size]? = some (.deferred (some [])) := (hk3.block _ (by omega) (fun h => h.1 rfl)).trans hk2
        have hsz3 := hk3.size
        have hr := run_endRound (P := P) jump hl3
        rw [hrec] at hr ⊢
        exact ⟨_, hr, Keep.put1 _ _ _, World.putObj_heap_same (by omega), (World.putObj_heap_other (by omega)).trans hk4, by simp; omega⟩
      rintro e a3 W3 hp
      cases e with
      | normal =>
        obtain ⟨hk3, hi3⟩ := hp
        obtain ⟨W4, hr, hk4, hl4, hd4, hs4⟩ := fin none W3 (hk3.mono (fun _ h => h.2))
        refine ⟨_, _, hr, .inl ⟨rfl, ⟨hI _ _ _ hi3 (by have := hk3.size; omega) (hk4.mono (fun _ h => .inr h)), hs4, hl4, hd4⟩, ?_⟩⟩
        have kp : ∀ k, k = w.heap.size + 1 → ¬ L k := fun k e h => by have := hL k h; omega
        exact ((kW.mono kp).trans (hk3.mono (fun _ h => h.1)) (fun _ _ h => h)).trans (hk4.mono kp) (fun _ _ h => h)
      | ret =>
        obtain ⟨hk3, hi3⟩ := hp
        obtain ⟨W4, hr, hk4, hl4, hd4, hs4⟩ := fin (some .ret) W3 hk3
        exact ⟨_, _, hr, .inr ⟨rfl, .ret, hIx _ _ _ _ hi3 (hk4.mono (fun _ h => .inr h)), hs4, hl4, hd4⟩⟩
      | exit id =>
        obtain ⟨hk3, hi3⟩ := hp
        obtain ⟨W4, hr, hk4, hl4, hd4, hs4⟩ := fin (some (.exit id)) W3 hk3
        exact ⟨_, _, hr, .inr ⟨rfl, .exit id, hIx _ _ _ _ hi3 (hk4.mono (fun _ h => .inr h)), hs4, hl4, hd4⟩⟩
      | goto t =>
        obtain ⟨hk3, hi3⟩ := hp
        obtain ⟨W4, hr, hk4, hl4, hd4, hs4⟩ := fin (some (.goto t)) W3 hk3
        exact ⟨_, _, hr, .inr ⟨rfl, .goto t, hIx _ _ _ _ hi3 (hk4.mono (fun _ h => .inr h)), hs4, hl4, hd4⟩⟩
      | panic ch => exact hp.elim
      | outgrown => exact hp.elim
    · rintro e W2 ⟨⟨v, rfl⟩, (⟨hi, hsz, hl, hk⟩ | ⟨pre, hpre, c, hi, hsz, hl, hk⟩)⟩
      · have kP : Keep W2 (W2.putObj (w.heap.size + 1) (.loop { rec .ready none with state := .exhausted })) (fun k => k = w.heap.size + 1) := Keep.put1 _ _ _
        exact ⟨none, _, by have := run_endLoop (P := P) hl (by rw [hrec]; simp); rw [hrec] at this; exact this, by
          have := hdone _ (by simp; omega) (hI _ _ _ hi (by omega) (kP.mono (fun _ h => .inr h))) ((World.putObj_heap_other (by omega)).trans hk)
          rw [hrec] at this; exact this⟩
      · have kP : Keep W2 (W2.putObj (w.heap.size + 1) (.loop { rec .done (some c) with state := .exhausted })) (fun k => k = w.heap.size + 1) := Keep.put1 _ _ _
        exact ⟨some c, _, by have := run_endLoop (P := P) hl (by rw [hrec]; simp); rw [hrec] at this; exact this, by
          have := hstop c pre _ (by simp; omega) hpre (hIx _ _ _ _ hi (kP.mono (fun _ h => .inr h))) ((World.putObj_heap_other (by omega)).trans hk)
          rw [hrec] at this; exact this⟩

end Go.Proofs.YtkbpmpcbajnmlaaDoor

/- A region that draws its order, in a round of a range over a function: the held walk serves there too. Of no program; no condition. -/
namespace Go.Proofs.YtkbpmpcbajnmlaaDoor
open Go.RowKit

/-- It is left in the ordinary way. -/
def Norm (Q : Exit → Act → World → Prop) : Exit → Act → World → Prop
  | .normal, a, w => Q .normal a w
  | _, _, _ => False

theorem norm_out {Q : Exit → Act → World → Prop} : ¬ LetsOut (Norm Q) := fun h => by
  unfold LetsOut at h
  simp [Norm] at h

theorem opsIn_of {P : Program} {ops : Array Oper} {Q : Exit → Act → World → Prop} {n l : Nat} (hd : ∀ (i : Nat) (o : Oper), ops[i]? = some o → ∀ c, o.op ≠ .defer c) (is : List Nat) : ∀ (a : Act) (w : World), wpOps P ops (Norm Q) is a w → wpOpsIn (Fence.wide.inRound l) n P ops Q is a w := by
  induction is with
  | nil => intro a w h; exact h
  | cons i rest ih =>
    intro a w h
    simp only [wpOps] at h
    simp only [wpOpsIn]
    cases ho : ops[i]? with
    | none => simp only [ho] at h ⊢; exact ih a w h
    | some o =>
      simp only [ho] at h ⊢
      by_cases hw : Region.wanted o (yielded ops a.tmps) = true
      · rw [if_pos hw] at h ⊢
        rcases h with h | h
        · refine ⟨fun _ _ => trivial, ?_⟩
          unfold Oper.wp at h
          rw [show (Fence.wide.inRound l).round = some l from rfl, Oper.semAt_eq (some l) a.eval o (hd i o ho)]
          generalize (execOp a.eval o).run P w = r at *
          cases r with
          | ok x w' =>
            cases x with
            | value v => exact ih _ _ h
            | skip => exact ih _ _ h
            | defer d => exact ih _ _ h
            | enter f args =>
              refine ⟨fun hx => by simp [Fence.wide] at hx, CallsIn.inRound l (callsIn_wide.2 (Calls.mono h ?_))⟩
              intro e w'' he
              cases e with
              | returned v => exact ih _ _ he
              | panicked c => exact he.elim
              | outgrown => exact (norm_out he).elim
            | row r args =>
              refine ⟨fun hx => by simp [Fence.wide] at hx, fun c cs _ => ?_⟩
              obtain ⟨v, w'', r, s⟩ := h c cs
              exact ⟨v, w'', ih _ _ r, stepsIn_wide.2 s⟩
            | _ => exact h.elim
          | halt x w' =>
            cases x with
            | panic v => exact h.elim
            | _ => exact h.elim
        · exact (norm_out h.2).elim
      · rw [if_neg hw] at h ⊢
        exact ⟨fun _ _ => trivial, ih _ _ h⟩

def noDefer (o : Oper) : Bool := match o.op with
  | .defer _ => false
  | _ => true
theorem noDefer_all {ops : Array Oper} (h : ops.all noDefer = true) (i : Nat) (o : Oper) (ho : ops[i]? = some o) (c : Call) : o.op ≠ .defer c := fun e => by
  have := Array.all_eq_true_iff_forall_mem.1 h o (Array.mem_of_getElem? ho)
  unfold noDefer at this
  rw [e] at this
  cases this
/-- The beginning of a held walk through a region, in a round. -/
theorem wpIn_region_heldr {P : Program} {id n l : Nat} {ops : Array Oper} {Q : Exit → Act → World → Prop} {a : Act} {w : World} {S : World → Prop} (hm : P.follows .mixedOrders = true) (hd : ops.all noDefer = true) (hS : S w.drew)
    (h : S w.drew → wpAnyH P .any ops (Norm Q) S ops.size (Array.replicate ops.size false) a w.drew) : (Code.region id ops true).wpIn (Fence.wide.inRound l) n P Q a w :=
  wpIn_region_draw fun t => by
    simp only [Region.schedule, hm, Bool.true_or, if_true]
    exact opsIn_of (noDefer_all hd) _ _ _ (wpAny_sound ops.size t _ a _ (wpAny_of_held _ _ _ _ (h hS)))
end Go.Proofs.YtkbpmpcbajnmlaaDoor

/- The walks of slices.Backward at rows of terms, and of the iterator that it tells. No condition but that the row lies in memory. -/
namespace Go.Proofs.YtkbpmpcbajnmlaaDoor
open Go.RowKit Go.Shelf

attribute [local go_sem] Oper.semAt_some

set_option maxRecDepth 100000 in
theorem backward_fn (a : Option Addr) (n c : Nat) (w : World) : Calls Tryd.prog 72 #[.slice a n c] w fun e w' => e = .returned (.func (.func 87) #[] #[.pointer (some ⟨w.heap.size, 0, none⟩)]) ∧ w.alloc (.cells #[.slice a n c] 31) = w' := by
  go_enter Tryd.func72, Tryd.ntmps72
  go_wp2
  go_ret
  exact ⟨rfl, rfl⟩

theorem enters87 (args : Array Value) (w : World) : (callFunc 87 args).run Tryd.prog w = .ok (.enter 87 args) w := enter_of Tryd.func87 (by kernel_rfl) rfl args w

theorem wrap64_small (z : Int) (h0 : -1 ≤ z) (h1 : z ≤ 9223372036854775807) : wrap64 z = z := by
  unfold wrap64; omega
theorem wide_fn (k : Nat) : Fence.wide.fn k := trivial
theorem wide_depth {p : Prop} : Fence.wide.depth.isSome = true → p := by intro h; simp [Fence.wide] at h

/-- What is told of a place in a row. -/
def encB (ts : List Tr) (i : Nat) : Array Value := #[.int .i64 (i : Int), match ts[i]? with | some T => T.val | none => undef]
theorem encB_some {ts : List Tr} {i : Nat} {T : Tr} (h : ts[i]? = some T) : encB ts i = #[.int .i64 (i : Int), T.val] := by unfold encB; rw [h]

theorem range_rev (i : Nat) : (List.range (i + 1)).reverse = i :: (List.range i).reverse := by rw [List.range_succ, List.reverse_append]; rfl

theorem bk_meas (i : Nat) (h : i ≤ 4611686018427387904) : (intOf (Value.int .i64 (wrap64 ((i : Int) - 1))) + 1).toNat < (intOf (Value.int .i64 (i : Int)) + 1).toNat := by
  rw [wrap64_small _ (by omega) (by omega)]
  simp [intOf]

set_option maxRecDepth 100000 in
set_option maxHeartbeats 2000000 in
theorem back_seq (g0 : Nat) (ao : Option Addr) (n cap b off : Nat) (ts : List Tr) (B : Nat) (w : World) (hg0 : g0 < w.heap.size) (hcap : w.cell? ⟨g0, 0, none⟩ = some (.slice ao n cap)) (hn : ts.length = n) (hns : n ≤ 1000000)
    (h : ts = [] ∨ (ao = some ⟨b, off, none⟩ ∧ b < w.heap.size ∧ TAll w (· < B) b off ts)) :
    SeqN Tryd.prog 87 #[.pointer (some ⟨g0, 0, none⟩)] (encB ts) (List.range n).reverse (fun k => k = g0 ∨ (0 < n ∧ k = b)) w := by
  intro m l J Jx W hW hJ hJx hY h0
  have hc0 : ∀ W', Keep w W' (fun k => ¬ (k = g0 ∨ (0 < n ∧ k = b))) → W'.cell? ⟨g0, 0, none⟩ = some (.slice ao n cap) := fun W' hk => (World.cell?_of_block (w := w) (hk.block g0 hg0 (fun h => h (.inl rfl)))).trans hcap
  have hct : ∀ W', Keep w W' (fun k => ¬ (k = g0 ∨ (0 < n ∧ k = b))) → ∀ i T, ts[i]? = some T → ao = some ⟨b, off, none⟩ ∧ TCells W' b (off + i * 5) T := fun W' hk i T hi => by
    rcases h with rfl | ⟨ha, hb, hall⟩
    · simp at hi
    · have hpos : 0 < n := by have := (List.getElem?_eq_some_iff.1 hi).1; omega
      exact ⟨ha, (hall.get i T hi).1.carry (hk.block b hb (fun hh => hh (.inr ⟨hpos, rfl⟩)))⟩
  have HC0 : Hid _ := hc0
  have HCT : Hid _ := hct
  have HN : Hid _ := hn
  have c0 := hc0 W hW
  clear hc0 hct hn hcap h
  refine callsIn_of_wp Tryd.func87 rfl trivial ?_ rfl
  simp only [Tryd.ntmps87, List.size_toArray, List.length_cons, List.length_nil, Nat.reduceAdd, Nat.reduceSub, Array.replicate_succ, Array.replicate_zero, List.push_toArray, List.append_toArray, List.nil_append, List.cons_append]
  gi_wp2
  gi_loopw [3] (fun i wr => ∃ j : Nat, j ≤ n ∧ i = .int .i64 ((j : Int) - 1) ∧ ∃ pre, (List.range n).reverse = pre ++ (List.range j).reverse ∧ J pre wr ∧ Keep w wr (fun k => ¬ (k = g0 ∨ (0 < n ∧ k = b)))) (fun i _ => (intOf i + 1).toNat)
  case atStart => exact ⟨n, Nat.le_refl _, rfl, [], by simp, h0, hW⟩
  case round =>
    obtain ⟨j, hj, rfl, pre, hpre, hJp, hK⟩ := hrel
    cases j with
    | zero =>
      have hd : decide ((0 : Int) ≤ (((0 : Nat) : Int) - 1)) = false := by decide
      gi_wp2_with fail
      have hpre' : (List.range n).reverse = pre := by simpa using hpre
      go_end0
      exact ⟨⟨_, rfl⟩, .inl (by rw [hpre']; exact hJp)⟩
    | succ i =>
      rw [range_rev] at hpre
      obtain ⟨T, hT⟩ : ∃ T, ts[i]? = some T := ⟨_, List.getElem?_eq_getElem (by have := HN.out; omega)⟩
      obtain ⟨ha, hc⟩ := HCT.out wr hK i T hT
      have e0 : (((i + 1 : Nat) : Int) - 1) = (i : Int) := by omega
      have cg := HC0.out wr hK
      rw [ha] at cg
      have x0 := hc.c0
      have x1 := hc.c1
      have x2 := hc.c2
      have x3 := hc.c3
      have x4 := hc.c4
      have hd : decide ((0 : Int) ≤ (i : Int)) = true := decide_eq_true (by omega)
      have i0 : (0 : Int) ≤ (i : Int) := by omega
      have i1 : (i : Int) < (n : Int) := by omega
      obtain ⟨fn, tmps, assign, body, hy, hR⟩ := hY pre _ _ wr hpre hJp
      rw [encB_some hT] at hy
      unfold Tr.val at hy
      rw [e0]
      gi_wp2_with fail
      with_reducible refine And.intro wide_depth ?_
      refine hR.mono ?_
      have HP : Hid _ := hpre
      rintro e W3 (⟨rfl, hJ3, hk3⟩ | ⟨rfl, hJx3⟩)
      · dsimp only
        gi_wp2_with fail
        go_roundw
        case rel => exact ⟨i, by omega, by simp, pre ++ [i], by rw [HP.out]; simp, hJ3, hK.trans hk3 (fun _ _ h => h)⟩
        case measure => simp [intOf]
      · dsimp only
        gi_wp2_with fail
        exact bodyPost_ret (results_none rfl _ _ _) rfl ⟨⟨_, rfl⟩, .inr ⟨_, ⟨(List.range i).reverse, by rw [HP.out]; simp⟩, hJx3⟩⟩
end Go.Proofs.YtkbpmpcbajnmlaaDoor
