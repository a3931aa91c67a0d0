/- The walks of term's parts and of the iterator that it tells. No condition but that the term lies in memory, that it has fewer than 2^20 parts, and that the tables hold what the program's text lays. -/
import Derived.Test.YtekdalbhgdkckaaGreatDoorNext
import Derived.RangeFuncLeaves
import Derived.Shelf.Abstract
import Derived.OwnWalkIn
import Derived.TacticsInMore
import Derived.LoopNIn
import Derived.LoopIn
namespace Go.Proofs.YtekdalbhgdkckaaGreatDoor
open Go.RowKit Go.Shelf

attribute [local go_sem] Oper.semAt_some

set_option maxRecDepth 100000 in
theorem parts_fn (b off : Nat) (w : World) : Calls Tryz.prog 87 #[.pointer (some ⟨b, off, none⟩)] w fun e w' => e = .returned (.func (.func 102) #[] #[.pointer (some ⟨w.heap.size, 0, none⟩)]) ∧ w.alloc (.cells #[.pointer (some ⟨b, off, none⟩)] 131) = w' := by
  go_enter Tryz.func87, Tryz.ntmps87
  go_wp2
  go_ret
  exact ⟨rfl, rfl⟩

theorem wrap64_small (z : Int) (h0 : 0 ≤ z) (h1 : z ≤ 9223372036854775807) : wrap64 z = z := by
  unfold wrap64; omega

theorem meas_lt (a s : Nat) (h : a + 1 ≤ s) : s + 1 - ((a : Int) + 1).toNat < s + 1 - ((a : Int)).toNat := by omega

theorem meas_go (s a : Nat) (h : a + 1 ≤ s) (h2 : a ≤ 4611686018427387904) : s + 1 - (intOf (Value.int IntKind.i64 (wrap64 ((a : Int) + 1)))).toNat < s + 1 - (intOf (Value.int .i64 (a : Int))).toNat := by
  rw [wrap64_small _ (by omega) (by omega)]
  exact meas_lt a s h

theorem wide_fn (k : Nat) : Fence.wide.fn k := trivial

theorem wide_depth {p : Prop} : Fence.wide.depth.isSome = true → p := by intro h; simp [Fence.wide] at h

/-- What is known of a part that is open. -/
structure Op1 (w : World) (B rb M : Nat) (q : Pt) (j : Nat) : Prop where
  cells : TCells w q.b q.off q.t
  tin : TIn w (· < B) q.t
  at' : q.b < B ∨ q.b = rb
  lt : j < q.t.args.length
  d : q.d ≤ M
  m : q.m ≤ M

/-- Where the iterator is, when pre have come. -/
structure It (N B rb g0 g : Nat) (root : Pt) (J : List Pt → (Nat → Prop) → World → Prop) (wr : World) (pre : List Pt) (f : Option Addr) (st : Stk) (v : Value) (X : Nat → Prop) : Prop where
  ws : WS wr N g f st v
  ini : (f = some ⟨root.b, root.off, none⟩ ∧ st = [] ∧ pre = [] ∧ v = .slice none 0 0) ∨ (f = none ∧ root.seq = pre ++ Stk.rem st)
  ops : ∀ x ∈ st, Op1 wr B rb pre.length x.1 x.2
  len : st.length ≤ pre.length
  low : ∀ k, X k → N ≤ k
  xg : X g
  xv : ∀ k, v.ownBlock = some k → X k
  j : J pre X wr
  size : N ≤ wr.heap.size
  tabs : Tabs wr
  rt : TCells wr root.b root.off root.t ∧ TIn wr (· < B) root.t
  cap : wr.cell? ⟨g0, 0, none⟩ = some (.pointer (some ⟨root.b, root.off, none⟩))

theorem Op1.up {w : World} {B rb M M' : Nat} {q : Pt} {j : Nat} (h : Op1 w B rb M q j) (hM : M ≤ M') : Op1 w B rb M' q j := ⟨h.cells, h.tin, h.at', h.lt, Nat.le_trans h.d hM, Nat.le_trans h.m hM⟩

theorem Op1.carry {w w' : World} {B rb M : Nat} {q : Pt} {j : Nat} (h : Op1 w B rb M q j) (hb : ∀ k, k < B ∨ k = rb → w'.heap[k]? = w.heap[k]?) : Op1 w' B rb M q j :=
  ⟨h.cells.carry (hb _ h.at'), TIn.carry (fun b hlt => hb b (.inl hlt)) (fun _ h => h) _ h.tin, h.at', h.lt, h.d, h.m⟩

theorem Op1.child {w : World} {B rb M : Nat} {q : Pt} {j : Nat} (h : Op1 w B rb M q j) {T : Tr} (hT : q.t.args[j]? = some T) (h0 : 0 < T.args.length) : Op1 w B rb (M + 1) (q.kid j T) 0 := by
  have hg := h.tin.get hT
  have := bnd_le q.t.k j
  have h1 := h.d
  have h2 := h.m
  exact ⟨hg.2.2.1, hg.2.2.2, .inl hg.2.1, h0, by simp only [Pt.kid]; omega, by simp only [Pt.kid]; omega⟩

theorem push_mem {p : Pt} {st : Stk} {x : Pt × Nat} (h : x ∈ push p st) : x ∈ st ∨ (x = (p, 0) ∧ p.t.args ≠ []) := by
  unfold push at h
  split at h
  · exact .inl h
  · rcases List.mem_cons.1 h with h | h
    · exact .inr ⟨h, ‹_›⟩
    · exact .inl h

theorem push_length (p : Pt) (st : Stk) : (push p st).length ≤ st.length + 1 := by unfold push; split <;> simp

theorem took_length (p : Pt) (j : Nat) (st : Stk) : (took p j st).length ≤ st.length + 1 := by unfold took; split <;> simp

/-- What comes next. -/
theorem It.next {N B g0 g : Nat} {root : Pt} {J : List Pt → (Nat → Prop) → World → Prop} {wr : World} {pre : List Pt} {f : Option Addr} {st : Stk} {v : Value} {X : Nat → Prop} (h : It N B root.b g0 g root J wr pre f st v X)
    (hd : root.d = 1) (hm : root.m = 0) (hB : B ≤ N) (hg : N ≤ g) (hrb : root.b < N) (hsz : root.t.size < 1048576) :
    (pre = root.seq ∧ f = none ∧ st = []) ∨ ∃ x st', root.seq = pre ++ x :: Stk.rem st' ∧ (Calls Tryz.prog 103 #[.pointer (some ⟨g, 0, none⟩)] wr fun e w' => e = .returned (.tuple #[x.val, .bool true]) ∧ Nxt wr w' N g v st') ∧
      st'.length ≤ pre.length + 1 ∧ ∀ y ∈ st', Op1 wr B root.b (pre.length + 1) y.1 y.2 := by
  have hs := h.size
  rcases h.ini with ⟨rfl, rfl, rfl, rfl⟩ | ⟨rfl, hseq⟩
  · refine .inr ⟨root, push root [], by simpa [Stk.rem] using (push_rem root []).symm, next_first root hd hm g N wr (· < B) h.rt.1 h.rt.2 (by omega) (by omega) h.ws, push_length _ _, fun y hy => ?_⟩
    rcases push_mem hy with hy | ⟨rfl, hne⟩
    · cases hy
    · exact ⟨h.rt.1, h.rt.2, .inr rfl, List.length_pos_iff.2 hne, by simp [hd], by simp [hm]⟩
  · have hlen : (root.seq).length = root.t.size := Tr.seq_len _ _ _ _ _
    have hpl : pre.length ≤ root.t.size := by rw [← hlen, hseq]; simp
    match st, h, hseq with
    | [], h, hseq => exact .inl ⟨by simpa [Stk.rem] using hseq.symm, rfl, rfl⟩
    | (p, j) :: st, h, hseq =>
      have hop := h.ops (p, j) (by simp)
      have hl := h.len
      simp only [List.length_cons] at hl
      obtain ⟨T, hT⟩ : ∃ T, p.t.args[j]? = some T := ⟨_, List.getElem?_eq_getElem hop.lt⟩
      have h1 := hop.d
      have h2 := hop.m
      simp only at h1 h2
      have h3 := hop.at'
      simp only at h3
      refine .inr ⟨p.kid j T, push (p.kid j T) (took p j st), ?_, ?_, ?_, ?_⟩
      · rw [push_rem, ← took_rem p j st hT]; exact hseq
      · exact next_top p j st T hT (by omega) (by omega) g N B wr h.tabs hop.cells hop.tin (by omega) (by omega) (by omega) (by omega) v h.ws (by omega) (fun k e => by have := h.low k (h.xv k e); omega)
      · have := push_length (p.kid j T) (took p j st)
        have := took_length p j st
        unfold took
        split
        · have := push_length (p.kid j T) st; omega
        · have := push_length (p.kid j T) ((p, j + 1) :: st); simp only [List.length_cons] at this; omega
      · intro y hy
        rcases push_mem hy with hy | ⟨rfl, hne⟩
        · unfold took at hy
          split at hy
          · exact (h.ops y (by simp [hy])).up (by omega)
          · rcases List.mem_cons.1 hy with rfl | hy
            · exact ⟨hop.cells, hop.tin, hop.at', by have := hop.lt; simp only at this ⊢; omega, by simp only; omega, by simp only; omega⟩
            · exact (h.ops y (by simp [hy])).up (by omega)
        · exact hop.child hT (List.length_pos_iff.2 hne)

set_option maxRecDepth 100000 in
set_option maxHeartbeats 2000000 in
theorem parts1_seq (B g0 : Nat) (root : Pt) (w : World) (hd : root.d = 1) (hm : root.m = 0) (hT : Tabs w) (h3 : 5 ≤ B) (hB : B ≤ w.heap.size) (hg0 : g0 < w.heap.size) (hc : TCells w root.b root.off root.t) (hin : TIn w (· < B) root.t)
    (hcap : w.cell? ⟨g0, 0, none⟩ = some (.pointer (some ⟨root.b, root.off, none⟩))) (hsz : root.t.size < 1048576) :
    SeqX Tryz.prog 102 #[.pointer (some ⟨g0, 0, none⟩)] (fun p : Pt => #[p.val]) root.seq (fun k => k < B ∨ k = root.b ∨ k = g0) w := by
  intro n l J Jx W hW hJ hJx hY h0
  have hlb := hc.lt
  have T1 := hT.keepS hW (fun k hk => by omega)
  have hc1 := hc.carry (hW.block _ hlb (fun h => h (.inr (.inl rfl))))
  have hin1 : TIn W (· < B) root.t := TIn.carry (fun b hb => hW.block b (by omega) (fun h => h (.inl hb))) (fun _ h => h) _ hin
  have hcap1 := (World.cell?_of_block (w := w) (hW.block g0 hg0 (fun h => h (.inr (.inr rfl))))).trans hcap
  have hs1 := hW.size
  refine callsIn_of_wp Tryz.func102 rfl trivial ?_ rfl
  simp only [Tryz.ntmps102, List.size_toArray, List.length_cons, List.length_nil, Nat.reduceAdd, Nat.reduceSub, Array.replicate_succ, Array.replicate_zero, List.push_toArray, List.append_toArray, List.nil_append, List.cons_append]
  gi_wp2
  gi_loopw [8] (fun i wr => ∃ pre f st v X, i = .int .i64 ((pre.length : Nat) : Int) ∧ It W.heap.size B root.b g0 W.heap.size root J wr pre f st v X) (fun i _ => root.t.size + 1 - (intOf i).toNat)
  case atStart =>
    have hbel := below_alloc W (.cells #[.pointer (some ⟨root.b, root.off, none⟩), .slice none 0 0] 190)
    have hk : Keep W (W.alloc (.cells #[.pointer (some ⟨root.b, root.off, none⟩), .slice none 0 0] 190)) (fun _ => False) := (Keep.refl _ _).alloc _
    exact ⟨[], some ⟨root.b, root.off, none⟩, [], .slice none 0 0, (fun k => k = W.heap.size), rfl, ⟨⟨Blk.new _ _ _, rfl, .inl ⟨rfl, rfl⟩⟩, .inl ⟨rfl, rfl, rfl, rfl⟩, (fun x hx => by cases hx), Nat.le_refl _, (fun k e => Nat.le_of_eq e.symm), rfl, (fun k e => by cases e),
      hJ _ _ _ _ _ h0 hk (fun _ h => h.elim) (fun k e => .inr (Nat.le_of_eq e.symm)), by simp, T1.on hbel, ⟨hc1.carry (hbel.block _ (by omega)), hin1.below hbel (by omega)⟩, (World.cell?_of_block (w := W) (a := ⟨g0, 0, none⟩) (hbel.block g0 (by omega))).trans hcap1⟩⟩
  case round =>
    obtain ⟨pre, f, st, v, X, rfl, hI⟩ := hrel
    have hlen : (root.seq).length = root.t.size := Tr.seq_len _ _ _ _ _
    have hsize := hI.size
    rcases hI.next hd hm (by omega) (Nat.le_refl _) (by omega) hsz with ⟨hpre, rfl, rfl⟩ | ⟨x, st', hseq, hcall, hst', hops'⟩
    · have hpl : pre.length < 1048576 := by rw [hpre, hlen]; exact hsz
      have hdl : decide ((pre.length : Int) < 1048576) = true := by simp; omega
      have HH : Hid (pre.length < 1048576 ∧ root.t.size < 1048576 ∧ root.seq.length = root.t.size) := ⟨hpl, hsz, hlen⟩
      clear hpl hsz hlen
      have HP : Hid (pre = root.seq) := hpre
      clear hpre
      have hn := next_none W.heap.size W.heap.size wr v hI.ws
      gi_wp2_with fail
      with_reducible refine And.intro (wide_fn 103) (And.intro wide_depth ?_)
      refine (callsIn_wide.2 hn).mono ?_
      rintro e w1 ⟨rfl, hb1⟩
      have hk1 : Keep wr w1 (fun _ => False) := Keep.of_below hb1 (Nat.le_refl _)
      dsimp only
      iterate 38 gi_step
      with_reducible refine And.intro (fun f _ => wide_fn f) ?_
      gi_wp2_with fail
      refine bodyPost_ret (results_none rfl _ _ _) rfl ⟨⟨_, rfl⟩, .inl ⟨X, ?_⟩⟩
      rw [← HP.out]
      exact hJ _ _ _ _ _ hI.j ((hk1.alloc _).mono (fun _ h => h.elim)) (fun _ h => h) (fun _ h => .inl h)
    · have hpl : pre.length < 1048576 := by rw [hseq] at hlen; simp at hlen; omega
      have hdl : decide ((pre.length : Int) < 1048576) = true := by simp; omega
      have HH : Hid (pre.length < 1048576 ∧ root.t.size < 1048576 ∧ root.seq.length = root.t.size) := ⟨hpl, hsz, hlen⟩
      clear hpl hsz hlen
      have HL : Hid (pre.length + 1 ≤ root.t.size ∧ pre.length ≤ 4611686018427387904) := by
        show _ ∧ _
        have h1 := HH.out
        have h2 := h1.2.2
        rw [hseq] at h2
        simp only [List.length_append, List.length_cons] at h2
        exact ⟨by omega, by omega⟩
      have HQ : Hid (root.seq = pre ++ x :: Stk.rem st') := hseq
      clear hseq
      gi_wp2_with fail
      with_reducible refine And.intro (wide_fn 103) (And.intro wide_depth ?_)
      refine (callsIn_wide.2 hcall).mono ?_
      rintro e w1 ⟨rfl, hx1⟩
      obtain ⟨xb, xoff, xt, xd, xm⟩ := x
      obtain ⟨v', hws', hv'⟩ := hx1.ws
      have hk1 := hx1.keep
      have hz1 := hk1.size
      obtain ⟨X', hX'⟩ : ∃ X' : Nat → Prop, X' = fun k => X k ∨ v'.ownBlock = some k := ⟨_, rfl⟩
      obtain ⟨w2, hw2, hb2, P2, hs2⟩ := one_new w1 [.pointer (some ⟨xb, xoff, none⟩), .int .i64 (xd : Int), .int .i64 (xm : Int)] 178
      have p0 := P2.cell (j := 0) rfl
      have p1 := P2.cell (j := 1) rfl
      have p2 := P2.cell (j := 2) rfl
      have hk2 : Keep wr w2 (fun k => k = W.heap.size ∨ v.ownBlock = some k) := hk1.low hb2 (by omega)
      have hX1 : ∀ k, X k → X' k := fun k h => by rw [hX']; exact .inl h
      have hX2 : ∀ k, X' k → X k ∨ wr.heap.size ≤ k := fun k h => by
        rw [hX'] at h
        rcases h with h | h
        · exact .inl h
        · rcases hv' k h with h | h
          · exact .inl (hI.xv k h)
          · exact .inr h
      have hj2 : J pre X' w2 := hJ _ _ _ _ _ hI.j (hk2.mono (fun k h => h.elim (fun e => e ▸ hI.xg) (hI.xv k))) hX1 hX2
      obtain ⟨fn, tmps, assign, body, hy, hR⟩ := hY pre _ _ X' w2 HQ.out hj2
      dsimp only [Pt.val] at hy ⊢
      iterate 38 gi_step
      with_reducible refine And.intro wide_depth ?_
      refine hR.mono ?_
      rintro e W3 (⟨rfl, hJ3, hk3⟩ | ⟨rfl, hJx3⟩)
      · dsimp only
        gi_wp2_with fail
        go_roundw
        case rel =>
          have hpl := HH.out.1
          have hwr : wrap64 ((pre.length : Int) + 1) = (pre.length : Int) + 1 := wrap64_small _ (by omega) (by omega)
          have hz3 := hk3.size
          have hlow : ∀ k, X' k → W.heap.size ≤ k := fun k h => (hX2 k h).elim (hI.low k) (fun h => by omega)
          have xx : ∀ k, X' k → k < w2.heap.size → W3.heap[k]? = w2.heap[k]? := fun k h hl => hk3.block k hl (fun h' => h'.1 h)
          have ll : ∀ k, k < B ∨ k = root.b ∨ k = g0 → W3.heap[k]? = wr.heap[k]? := fun k h => by
            have hlt : k < W.heap.size := by omega
            refine (hk3.block k (by omega) (fun h' => h'.2 h)).trans (hk2.block k (by omega) (fun h' => ?_))
            rcases h' with h' | h'
            · omega
            · have := hI.low k (hI.xv k h'); omega
          have lr : ∀ k, k < B ∨ k = root.b → W3.heap[k]? = wr.heap[k]? := fun k h => ll k (h.elim .inl (fun h => .inr (.inl h)))
          have hb12 := hws'.blk.below hb2 hws'.blk.lt
          have hx' : X' W.heap.size := hX1 _ hI.xg
          have hxv : ∀ k, v'.ownBlock = some k → X' k := fun k h => by rw [hX']; exact .inr h
          refine ⟨pre ++ [⟨xb, xoff, xt, xd, xm⟩], none, st', v', X', by simp [hwr], ⟨⟨hb12.carry (xx _ hx' hb12.lt), ?_⟩, .inr ⟨rfl, by rw [HQ.out]; simp⟩, ?_, by simpa using hst', hlow, hx', hxv, hJ3, by omega, ?_, ⟨hI.rt.1.carry (lr _ (.inr rfl)), TIn.carry (fun b hb => lr b (.inl hb)) (fun _ h => h) _ hI.rt.2⟩, ?_⟩⟩
          · exact owns_block hws'.row (fun k e => by have := owns_own hws'.row e; exact (xx k (hxv k e) (by omega)).trans (hb2.block k this.2))
          · intro y hy
            have := hops' y hy
            simp only [List.length_append, List.length_cons, List.length_nil, Nat.zero_add]
            exact this.carry lr
          · exact hI.tabs.carry (fun k hk => ll k (.inl (by omega)))
          · exact (World.cell?_of_block (w := wr) (a := ⟨g0, 0, none⟩) (ll g0 (.inr (.inr rfl)))).trans hI.cap
        case measure => exact meas_go _ _ HL.out.1 HL.out.2
      · dsimp only
        gi_wp2_with fail
        exact bodyPost_ret (results_none rfl _ _ _) rfl ⟨⟨_, rfl⟩, .inr ⟨_, ⟨Stk.rem st', by rw [HQ.out]; simp⟩, hJx3⟩⟩

end Go.Proofs.YtekdalbhgdkckaaGreatDoor
