/- The walks of the program's scale: note, grow, where so little was weighed that nothing is noted. -/
import Derived.Test.YtkbpmpcbajnmlaaDoorWr3
import Derived.Test.YtkbpmpcbajnmlaaDoorRw
import Derived.Deep.RegionHeld3
namespace Go.Proofs.YtkbpmpcbajnmlaaDoor
open Go.RowKit

/-- A span: where its terms lie, which of them comes next, the total ahead of them. -/
structure Sp where
  b : Nat
  off : Nat
  cap : Nat
  ts : List Tr
  next : Nat
  start : Nat
def Sp.cells (x : Sp) : List Value := [.slice (some ⟨x.b, x.off, none⟩) x.ts.length x.cap, .int .i64 (x.next : Int), .int .i64 (x.start : Int)]
def spCells (st : List Sp) : List Value := (st.map Sp.cells).flatten
theorem spCells_snoc (st : List Sp) (x : Sp) : spCells (st ++ [x]) = spCells st ++ x.cells := by simp [spCells]
theorem spCells_len (st : List Sp) : (spCells st).length = st.length * 3 := by
  induction st with
  | nil => rfl
  | cons x r ih => show (x.cells ++ spCells r).length = _; rw [List.length_append, ih]; simp [Sp.cells]; omega

/-- What is known of a span. -/
structure SpOk (w : World) (B gt : Nat) (x : Sp) : Prop where
  at_ : x.b < B ∨ x.b = gt
  lt : x.b < w.heap.size
  all : TAll w (· < B) x.b x.off x.ts
  next : x.next ≤ x.ts.length
  pos : 0 < x.ts.length
  le : x.ts.length ≤ x.cap
  max : x.cap ≤ maxLen
  small : x.start ≤ 200000
  wf : ∀ T ∈ x.ts, WfT T.pl

/-- The scale, in the midst of its work. -/
structure SC (w : World) (B gs gt : Nat) (q : Option Nat) (bs : Bs) (total : Nat) (v : Value) (st : List Sp) : Prop where
  ws : WS w B gs 123 [.int .i64 (total : Int), v, .map none] q bs
  row : w.ownsRow B 136 3 v st.length (spCells st)
  bt : ∃ l, Blk w gt 33 l
  ok : ∀ x ∈ st, SpOk w B gt x
  tabs : Tabs w
  two : 2 ≤ B

set_option maxRecDepth 100000 in
theorem note_few (gs : Nat) (o0 o1 o3 o4 : Value) (total : Nat) (a : Addr) (m : Nat) (size : Int) (w : World) (h : Blk w gs 123 [o0, o1, .int .i64 (total : Int), o3, o4]) (ht : total ≤ 262144) :
    Calls Tryd.prog 95 #[.pointer (some ⟨gs, 0, none⟩), .agg #[.pointer (some a), .int .i64 (m : Int)], .int .i64 size] w fun x w' => x = .returned (.tuple #[]) ∧ Below w.heap.size w w' := by
  obtain ⟨w1, hw1, hb1, P1, hs1⟩ := one_newG w [.pointer (some a), .int .i64 (m : Int)] 133
  have c2 := (h.below hb1 h.lt).cell (j := 2) rfl
  have hd : decide ((total : Int) ≤ 262144) = true := decide_eq_true (by omega)
  go_enter Tryd.func95, Tryd.ntmps95
  go_wp2_with fail
  exact bodyPost_ret (v := .tuple #[]) (by simp [results, Tryd.results95, go_sem]) rfl ⟨rfl, hb1⟩

set_option maxRecDepth 100000 in
theorem grow_any (gs : Nat) (o0 o1 o3 o4 : Value) (total m : Nat) (w : World) (h : Blk w gs 123 [o0, o1, .int .i64 (total : Int), o3, o4]) (ht : total ≤ 1000000) (hm : m ≤ 1000000) :
    Calls Tryd.prog 94 #[.pointer (some ⟨gs, 0, none⟩), .int .i64 (m : Int)] w fun x w' => x = .returned (.bool true) ∧ Blk w' gs 123 [o0, o1, .int .i64 ((total + m : Nat) : Int), o3, o4] ∧ Keep w w' (· = gs) := by
  have c2 := h.cell (j := 2) rfl
  have f2 := h.frozen 2
  have hb := h.set 2 (.int .i64 ((total : Int) + (m : Int)))
  have d2 := hb.cell (j := 2) rfl
  have hd : decide ((total : Int) + (m : Int) ≤ 2147483647) = true := decide_eq_true (by omega)
  have K : Keep w (w.setCell ⟨gs, 2, none⟩ (.int .i64 ((total : Int) + (m : Int)))) (· = gs) := (Keep.refl w (· = gs)).setCell (fun _ => rfl) 2 _
  go_enter Tryd.func94, Tryd.ntmps94
  go_wp2_with fail
  go_ret
  exact ⟨rfl, by rw [Int.natCast_add]; exact hb, K⟩
end Go.Proofs.YtkbpmpcbajnmlaaDoor

/- The walks of the program's scale: enter. -/
namespace Go.Proofs.YtkbpmpcbajnmlaaDoor
open Go.RowKit

theorem look121 (a : Value) (n : Int) (w : World) : (Instr.lookup 121 (.map none) (.agg #[a, .int .i64 n]) true).run Tryd.prog w = .ok (.tuple #[.int .i64 0, .bool false]) w := by kernel_rfl
theorem info136s : ∃ i, Tryd.prog.info? 136 = some i ∧ i.zero = some (.agg #[.slice none 0 0, .int .i64 0, .int .i64 0]) ∧ i.size = 3 ∧ i.bytes = 40 := by
  have h : (Tryd.prog.info? 136).map (fun i => (i.zero, i.size, i.bytes)) = some (some (.agg #[.slice none 0 0, .int .i64 0, .int .i64 0]), 3, 40) := by kernel_rfl
  obtain ⟨i, hi, he⟩ := Option.map_eq_some_iff.1 h
  simp only [Prod.mk.injEq] at he
  exact ⟨i, hi, he⟩

set_option maxRecDepth 100000 in
theorem enter_none (gs : Nat) (ao : Option Addr) (cap : Nat) (w : World) : Calls Tryd.prog 84 #[.pointer (some ⟨gs, 0, none⟩), .slice ao 0 cap] w fun x w' => x = .returned (.bool true) ∧ w = w' := by
  go_enter Tryd.func84, Tryd.ntmps84
  go_wp2_with fail
  go_ret
  exact ⟨rfl, rfl⟩

/-- The block of the open spans. -/
theorem owns_ty {w : World} {base : Nat} {e : TypeId} {size n : Nat} {v : Value} {xs : List Value} (h : w.ownsRow base e size v n xs) {b : Nat} {t : TypeId} {l : List Value} (hb : Blk w b t l) (ht : t ≠ e) : v.ownBlock ≠ some b := fun he => by
  rcases h.2 with ⟨rfl, _⟩ | ⟨g, cap, cur, rfl, _, hcur, _⟩
  · cases he
  · simp [Value.ownBlock] at he
    subst he
    unfold Blk at hb
    rw [hb] at hcur
    simp at hcur
    exact ht hcur.2

theorem WS.rowne {w : World} {B g : Nat} {wt : TypeId} {wl : List Value} {q : Option Nat} {bs : Bs} (h : WS w B g wt wl q bs) {base : Nat} {e : TypeId} {size n : Nat} {v : Value} {xs : List Value} (hr : w.ownsRow base e size v n xs) (he : e ≠ 5) {k : Nat} (hk : v.ownBlock = some k) : q ≠ some k := fun hq => by
  rcases hr.2 with ⟨rfl, _⟩ | ⟨g', cap, cur, rfl, _, hcur, _⟩
  · cases hk
  · simp [Value.ownBlock] at hk
    subst hk
    obtain ⟨ao, n, cap, h1, h2⟩ := h.st
    rcases h2 with ⟨h2, _⟩ | ⟨k', h2, _, h3⟩
    · rw [hq] at h2; cases h2
    · rw [hq] at h2; simp at h2; subst h2
      obtain ⟨cur', hc, _⟩ := h3.row
      rw [hcur] at hc
      simp at hc
      exact he hc.2

theorem SpOk.carry {w w' : World} {B gt : Nat} {x : Sp} (h : SpOk w B gt x) (hB : ∀ b, b < B → w'.heap[b]? = w.heap[b]?) (hs : w.heap.size ≤ w'.heap.size) (hg : w'.heap[gt]? = w.heap[gt]?) : SpOk w' B gt x := by
  have hb : w'.heap[x.b]? = w.heap[x.b]? := by
    rcases h.at_ with e | e
    · exact hB _ e
    · rw [e]; exact hg
  refine ⟨h.at_, Nat.lt_of_lt_of_le h.lt hs, TAll.of_get fun i L hi => ⟨(h.all.get i L hi).1.carry hb, TIn.carry (fun b hb => hB b hb) (fun _ s => s) L (h.all.get i L hi).2⟩, h.next, h.pos, h.le, h.max, h.small, h.wf⟩

/-- The scale with its total and its open spans written anew. -/
theorem WS.blk {w : World} {B g : Nat} {wt : TypeId} {wl : List Value} {q : Option Nat} {bs : Bs} (h : WS w B g wt wl q bs) : ∃ ao n cap, Blk w g wt (.slice ao n cap :: .bool false :: wl) := by obtain ⟨ao, n, cap, h1, _⟩ := h.st; exact ⟨ao, n, cap, h1⟩

/-- Another tail, where the first two cells and the row stay. -/
theorem WS.tail {w w' : World} {B g : Nat} {wt : TypeId} {wl wl' : List Value} {q : Option Nat} {bs : Bs} (h : WS w B g wt wl q bs) (hg : ∀ a b, Blk w g wt (a :: b :: wl) → Blk w' g wt (a :: b :: wl')) (hq : ∀ k, q = some k → w'.heap[k]? = w.heap[k]?) : WS w' B g wt wl' q bs := by
  obtain ⟨ao, n, cap, h1, h2⟩ := h.st
  exact ⟨⟨ao, n, cap, hg _ _ h1, h2.imp id fun ⟨k, e1, e2, e3⟩ => ⟨k, e1, e2, e3.carry (hq k e1)⟩⟩, h.low, h.short, h.ty⟩

theorem SC.enter {w w5 w7 w8 : World} {B gs gt : Nat} {q : Option Nat} {bs : Bs} {total : Nat} {v v' : Value} {st : List Sp} {x : Sp} (h : SC w B gs gt q bs total v st) (hx : SpOk w B gt x) (h5 : Below w.heap.size w w5) (h7 : Below w5.heap.size w5 w7)
    (ho : w8.ownsRow B 136 3 v' (st.length + 1) (spCells st ++ x.cells)) (hg : w7.grownBy w8 v.ownBlock) (hn : v'.ownBlock = v.ownBlock ∨ ∃ b, v'.ownBlock = some b ∧ w7.heap.size ≤ b) :
    SC (w8.setCell ⟨gs, 3, none⟩ v') B gs gt q bs total v' (st ++ [x]) ∧ Below B w (w8.setCell ⟨gs, 3, none⟩ v') := by
  have s5 := h5.size
  have s7 := h7.size
  have s8 := hg.size
  have hlt := h.ws.lt
  have hlow := h.ws.low
  obtain ⟨_, _, _, hblk⟩ := h.ws.blk
  obtain ⟨l, hbt⟩ := h.bt
  have n1 := owns_ty h.row hblk (by decide)
  have n2 := owns_ty h.row hbt (by decide)
  have hob : ∀ b, v.ownBlock = some b → B ≤ b ∧ b < w.heap.size := fun b hb => owns_own h.row hb
  have kb : ∀ b, b < w.heap.size → v.ownBlock ≠ some b → w8.heap[b]? = w.heap[b]? := fun b h1 h2 => (hg.block b (by omega) (fun e => h2 e.symm)).trans ((h7.block b (by omega)).trans (h5.block b h1))
  have kset : ∀ b, b ≠ gs → (w8.setCell ⟨gs, 3, none⟩ v').heap[b]? = w8.heap[b]? := fun b hb => Below.heap_setCell _ _ _ _ (by simpa using hb)
  have hB : B ≤ w.heap.size := by omega
  have kB : ∀ b, b < B → (w8.setCell ⟨gs, 3, none⟩ v').heap[b]? = w.heap[b]? := fun b hb => (kset b (by omega)).trans (kb b (by omega) (fun e => by have := hob b e; omega))
  have hgt : gt ≠ gs := hbt.ne hblk (by decide)
  have kgt : (w8.setCell ⟨gs, 3, none⟩ v').heap[gt]? = w.heap[gt]? := (kset gt hgt).trans (kb gt hbt.lt n2)
  have hsz : (w8.setCell ⟨gs, 3, none⟩ v').heap.size = w8.heap.size := by simp [World.setCell]
  have hv' : ∀ b, v'.ownBlock = some b → b ≠ gs := fun b hb e => by
    rcases hn with r | ⟨m, r1, r2⟩
    · rw [r] at hb; rw [e] at hb; exact n1 hb
    · rw [hb] at r1; simp at r1; omega
  refine ⟨⟨?_, ?_, ⟨l, hbt.carry kgt⟩, fun y hy => ?_, h.tabs.carry (fun k hk => kB k (by have := h.two; omega)), h.two⟩, ⟨?_, ?_, ?_, by omega, fun k hk => kB k hk⟩⟩
  · refine h.ws.tail (fun a b hab => ?_) (fun k hk => ?_)
    · exact (hab.carry (kb gs hlt n1)).set 3 v'
    · have := h.ws.own hk
      exact (kset k this.2.2).trans (kb k this.1 (fun e => h.ws.rowne h.row (by decide) e hk))
  · rw [spCells_snoc, List.length_append]
    exact owns_block ho (fun g hg' => kset g (hv' g hg'))
  · rcases List.mem_append.1 hy with hy | hy
    · exact (h.ok y hy).carry kB (by omega) kgt
    · simp at hy; subst hy; exact hx.carry kB (by omega) kgt
  · exact hg.os.trans (h7.os.trans h5.os)
  · exact hg.tape.trans (h7.tape.trans h5.tape)
  · exact hg.output.trans (h7.output.trans h5.output)

set_option maxRecDepth 100000 in
set_option maxHeartbeats 2000000 in
theorem enter_some (B gs gt : Nat) (q : Option Nat) (bs : Bs) (total : Nat) (v : Value) (st : List Sp) (b off cap : Nat) (ts : List Tr) (w : World) (h : SC w B gs gt q bs total v st) (hx : SpOk w B gt ⟨b, off, cap, ts, 0, total⟩) (hst : st.length ≤ 1000000) :
    Calls Tryd.prog 84 #[.pointer (some ⟨gs, 0, none⟩), .slice (some ⟨b, off, none⟩) ts.length cap] w fun x w' => x = .returned (.bool true) ∧ ∃ v', SC w' B gs gt q bs total v' (st ++ [⟨b, off, cap, ts, 0, total⟩]) ∧ Below B w w' := by
  obtain ⟨ao, n, scap, hblk⟩ := h.ws.blk
  have hsm := hx.small
  simp only at hsm
  have hpos := hx.pos
  have hle := hx.le
  have hmx := hx.max
  simp only at hpos hle hmx
  unfold maxLen at hmx
  obtain ⟨i136, hi, hz, hs, hb⟩ := info136s
  obtain ⟨len, hlen⟩ : ∃ len, ts.length = len := ⟨_, rfl⟩
  have HL : Hid (ts.length = len) := hlen
  rw [hlen] at hpos hle
  rw [hlen]
  clear hlen
  have hd0 : ((len : Int) == 0) = false := beq_eq_false_iff_ne.2 (by omega)
  have i0 : (0 : Int) < (len : Int) := by omega
  have hlk := look121
  have K1 : Keep w (w.alloc (.cells #[.pointer (some ⟨b, off, none⟩), .int .i64 (len : Int)] 133)) (fun _ => False) := (Keep.refl w _).alloc _
  have X1 := Blk.new w 133 [.pointer (some ⟨b, off, none⟩), .int .i64 (len : Int)]
  have hblk1 := hblk.keep K1 id
  obtain ⟨w1, hw1⟩ : ∃ w1, w.alloc (.cells #[.pointer (some ⟨b, off, none⟩), .int .i64 (len : Int)] 133) = w1 := ⟨_, rfl⟩
  have hb1 : Below w.heap.size w w1 := by rw [← hw1]; exact below_allocG w _
  have X1' : Blk w1 w.heap.size 133 [.pointer (some ⟨b, off, none⟩), .int .i64 (len : Int)] := by rw [← hw1]; exact X1
  rw [hw1] at hblk1
  have HW : Hid _ := hw1
  clear hw1 K1 X1
  have x0 := X1'.cell (j := 0) rfl
  have x1 := X1'.cell (j := 1) rfl
  have g4 := hblk1.cell (j := 4) rfl
  go_enter Tryd.func84, Tryd.ntmps84
  go_wp2_with fail
  have hw1 := HW.out
  rw [hw1]
  clear hw1
  go_quiet (fail)
  go_wp2_with fail
  refine (note_few gs _ _ _ _ total ⟨b, off, none⟩ len 0 (w1.drewN nq) (hblk1.drewN nq) (by omega)).mono ?_
  rintro x w5 ⟨rfl, hb5'⟩
  have hb5 : Below w.heap.size w w5 := hb1.trans (Below.trans (bel_drewN (Below.refl _ _) nq) (hb5'.mono (by have := hb1.size; exact this)))
  have s5 := hb5.size
  have hblk5 := hblk.below hb5 hblk.lt
  have r5 := owns_below h.row hb5
  have HR5 : Hid _ := r5
  have g2 := hblk5.cell (j := 2) rfl
  have g3 := hblk5.cell (j := 3) rfl
  have hBw : B ≤ w5.heap.size := by have := h.ws.low; have := h.ws.lt; omega
  have gslt := hblk5.lt
  have hvs : ∃ oa oc, v = .slice oa st.length oc := by
    rcases h.row.2 with ⟨e, e2⟩ | ⟨g, cap, cur, e, _⟩
    · exact ⟨none, 0, by rw [e, e2]⟩
    · exact ⟨_, _, e⟩
  obtain ⟨oa, oc, hv⟩ := hvs
  have HV : Hid _ := hv
  rw [hv] at g3 hblk5
  have hgo := owns_ty h.row hblk (by decide)
  rw [hv] at HR5 hgo
  have hgsn : gs ≠ w5.heap.size := by omega
  clear hb5' x0 x1 g4 X1' hblk1 r5 hv hlk
  go_wp2_with fail
  have hgl : gs < w5.heap.size := gslt
  go_region_law (first
    | (refine step_append_own (by rfl) (.tmp 40) (.tmp 47) 120 (by rfl) B 136 i136 _ 3 40 Tryd.underlying120 hi hz hs hb (by rfl) (by decide) (.slice oa st.length oc) st.length (spCells st) (by rfl) (by exact owns_below (w := w5) HR5.out (bel_drewG (below_allocG _ _))) ⟨w5.heap.size, 0, none⟩ 1 1 [.slice (some ⟨b, off, none⟩) len cap, .int .i64 0, .int .i64 (total : Int)] (by rfl) (by rfl) (fun i u hu => by rw [Addr.add_lit, Nat.zero_add]; exact (Blk.new _ _ _).cell hu) (by simp [Value.oneCell']) (by unfold maxLen; omega) (by omega) (by simp; omega) (by decide) ?_; intro v' w8 ho8 hg8 hn8; have k8 : w8.heap[gs]? = w5.heap[gs]? := ((hg8.block gs (by simp; omega) (fun e => hgo e.symm)).trans (Below.heap_alloc w5 _ gs gslt)); have B8 := hblk5.carry k8; have e2 := B8.cell (j := 2) rfl; have e3 := B8.cell (j := 3) rfl; have ef := B8.frozen 3; obtain ⟨g', c', rfl, hg'1, hg'2, hg'3, hg'4⟩ := owns_shape ho8 (by omega); have X9 := B8.set 3 (.slice (some ⟨g', 0, none⟩) (st.length + 1) c'); have t2 := X9.cell (j := 2) rfl; have t3 := X9.cell (j := 3) rfl)
    )
  all_goals
    go_wp2_with fail
    go_ret
    obtain rfl := HV.out
    refine ⟨rfl, _, h.enter hx hb5 (bel_drewG (below_allocG _ _)) ?_ hg8 hn8⟩
    have e : (⟨b, off, cap, ts, 0, total⟩ : Sp).cells = [.slice (some ⟨b, off, none⟩) len cap, .int .i64 0, .int .i64 (total : Int)] := by simp only [Sp.cells, HL.out]; rfl
    rw [e]
    exact ho8
end Go.Proofs.YtkbpmpcbajnmlaaDoor

/- The walks of the program's scale: leave. -/
namespace Go.Proofs.YtkbpmpcbajnmlaaDoor
open Go.RowKit

theorem SC.shape {w : World} {B gs gt : Nat} {q : Option Nat} {bs : Bs} {total : Nat} {v : Value} {st : List Sp} {x : Sp} (h : SC w B gs gt q bs total v (st ++ [x])) : ∃ g cap, v = .slice (some ⟨g, 0, none⟩) (st.length + 1) cap ∧ B ≤ g ∧ g < w.heap.size ∧ st.length + 1 ≤ cap ∧ cap ≤ maxLen ∧ g ≠ gs ∧ g ≠ gt ∧ q ≠ some g ∧
    w.cell? ⟨g, st.length * 3, none⟩ = some (.slice (some ⟨x.b, x.off, none⟩) x.ts.length x.cap) ∧ w.cell? ⟨g, st.length * 3 + 1, none⟩ = some (.int .i64 (x.next : Int)) ∧ w.cell? ⟨g, st.length * 3 + 2, none⟩ = some (.int .i64 (x.start : Int)) := by
  have hr := h.row
  rw [List.length_append, List.length_singleton, spCells_snoc] at hr
  obtain ⟨g, cap, rfl, h1, h2, h3, h4⟩ := owns_shape hr (by omega)
  obtain ⟨_, _, _, hblk⟩ := h.ws.blk
  obtain ⟨l, hbt⟩ := h.bt
  have cc : ∀ {j u}, x.cells[j]? = some u → w.cell? ⟨g, st.length * 3 + j, none⟩ = some u := fun {j u} hj => by
    obtain ⟨g', e, _, _, _, _, h5⟩ := owns_cell hr (i := st.length * 3 + j) (c := u) (by
      rw [List.getElem?_append_right (by rw [spCells_len]; omega), spCells_len, show st.length * 3 + j - st.length * 3 = j by omega]; exact hj)
    obtain rfl : g = g' := by simpa using e
    exact h5
  refine ⟨g, cap, rfl, h1, h2, h3, h4, fun e => ?_, fun e => ?_, h.ws.rowne hr (by decide) rfl, cc (j := 0) rfl, cc (j := 1) rfl, cc (j := 2) rfl⟩
  · exact owns_ty hr hblk (by decide) (by rw [← e]; rfl)
  · exact owns_ty hr hbt (by decide) (by rw [← e]; rfl)

/-- A new total, a new row of open spans, behind something that keeps the rest. -/
theorem SC.turn {w w' : World} {B gs gt : Nat} {q : Option Nat} {bs : Bs} {total total' : Nat} {v v' : Value} {st st' : List Sp} (h : SC w B gs gt q bs total v st) (hg : ∀ a b, Blk w gs 123 [a, b, .int .i64 (total : Int), v, .map none] → Blk w' gs 123 [a, b, .int .i64 (total' : Int), v', .map none])
    (hs : w.heap.size ≤ w'.heap.size) (hk : ∀ b, b < w.heap.size → b ≠ gs → v.ownBlock ≠ some b → w'.heap[b]? = w.heap[b]?) (hr : w'.ownsRow B 136 3 v' st'.length (spCells st')) (hok : ∀ x ∈ st', SpOk w B gt x) : SC w' B gs gt q bs total' v' st' := by
  have hlt := h.ws.lt
  have hlow := h.ws.low
  obtain ⟨_, _, _, hblk⟩ := h.ws.blk
  obtain ⟨l, hbt⟩ := h.bt
  have hgt : gt ≠ gs := hbt.ne hblk (by decide)
  have n2 := owns_ty h.row hbt (by decide)
  have hob : ∀ b, v.ownBlock = some b → B ≤ b ∧ b < w.heap.size := fun b hb => owns_own h.row hb
  have kB : ∀ b, b < B → w'.heap[b]? = w.heap[b]? := fun b hb => hk b (by omega) (by omega) (fun e => by have := hob b e; omega)
  have kgt := hk gt hbt.lt hgt n2
  refine ⟨h.ws.tail (fun a b hab => hg a b hab) (fun k hk' => ?_), hr, ⟨l, hbt.carry kgt⟩, fun x hx => (hok x hx).carry kB hs kgt, h.tabs.carry (fun k hk' => kB k (by have := h.two; omega)), h.two⟩
  have := h.ws.own hk'
  exact hk k this.1 this.2.2 (fun e => h.ws.rowne h.row (by decide) e hk')

set_option maxRecDepth 100000 in
set_option maxHeartbeats 2000000 in
theorem leave_any (B gs gt : Nat) (q : Option Nat) (bs : Bs) (total : Nat) (v : Value) (st : List Sp) (x : Sp) (w : World) (h : SC w B gs gt q bs total v (st ++ [x])) (hst : st.length ≤ 1000000) (htot : total ≤ 200000) :
    Calls Tryd.prog 96 #[.pointer (some ⟨gs, 0, none⟩)] w fun y w' => y = .returned (.tuple #[]) ∧ ∃ v', SC w' B gs gt q bs total v' st ∧ Below B w w' := by
  obtain ⟨g, cap, rfl, hBg, hgw, hle, hmx, ngs, ngt, nq, x0, x1, x2⟩ := h.shape
  unfold maxLen at hmx
  have hxok := h.ok x (by simp)
  have hxp := hxok.pos
  have hsm := hxok.small
  have hxle := hxok.le
  have hxmx := hxok.max
  unfold maxLen at hxmx
  obtain ⟨ao, n, scap, hblk⟩ := h.ws.blk
  have gslt := hblk.lt
  have hlow := h.ws.low
  have g3 := hblk.cell (j := 3) rfl
  have gf3 := hblk.frozen 3
  have i0 : (0 : Int) ≤ (st.length : Int) := by omega
  have i1 : (st.length : Int) < (st.length : Int) + 1 := by omega
  generalize hsl : st.length = sl at *
  obtain ⟨xl, hxl⟩ : ∃ xl, x.ts.length = xl := ⟨_, rfl⟩
  rw [hxl] at x0 hxp hxle
  have HXL : Hid _ := hxl
  have HSL : Hid _ := hsl
  clear hxl hsl
  have j0 : (0 : Int) < (xl : Int) := by omega
  go_enter Tryd.func96, Tryd.ntmps96
  go_wp2_with fail
  have K1 : Keep w (w.setCell ⟨gs, 3, none⟩ (.slice (some ⟨g, 0, none⟩) sl cap)) (· = gs) := (Keep.refl w (· = gs)).setCell (fun _ => rfl) 3 _
  have hset : ∀ a b, Blk w gs 123 [a, b, .int .i64 (total : Int), .slice (some ⟨g, 0, none⟩) (sl + 1) cap, .map none] → Blk ((w.setCell ⟨gs, 3, none⟩ (.slice (some ⟨g, 0, none⟩) sl cap)).alloc (.cells #[.slice (some ⟨x.b, x.off, none⟩) xl x.cap, .int .i64 (x.next : Int), .int .i64 (x.start : Int)] 136)) gs 123 [a, b, .int .i64 (total : Int), .slice (some ⟨g, 0, none⟩) sl cap, .map none] := fun a b hab => (hab.set 3 (.slice (some ⟨g, 0, none⟩) sl cap)).alloc _
  have E2 := Blk.new (w.setCell ⟨gs, 3, none⟩ (.slice (some ⟨g, 0, none⟩) sl cap)) 136 [.slice (some ⟨x.b, x.off, none⟩) xl x.cap, .int .i64 (x.next : Int), .int .i64 (x.start : Int)]
  have hsz : (w.setCell ⟨gs, 3, none⟩ (.slice (some ⟨g, 0, none⟩) sl cap)).heap.size = w.heap.size := by simp [World.setCell]
  have K2 := K1.alloc (.cells #[.slice (some ⟨x.b, x.off, none⟩) xl x.cap, .int .i64 (x.next : Int), .int .i64 (x.start : Int)] 136)
  rw [hsz] at E2
  obtain ⟨w2, hw2⟩ : ∃ w2, (w.setCell ⟨gs, 3, none⟩ (.slice (some ⟨g, 0, none⟩) sl cap)).alloc (.cells #[.slice (some ⟨x.b, x.off, none⟩) xl x.cap, .int .i64 (x.next : Int), .int .i64 (x.start : Int)] 136) = w2 := ⟨_, rfl⟩
  have E2' : Blk w2 w.heap.size 136 [.slice (some ⟨x.b, x.off, none⟩) xl x.cap, .int .i64 (x.next : Int), .int .i64 (x.start : Int)] := by rw [← hw2]; exact E2
  rw [hw2] at K2 hset ⊢
  clear hw2 K1 E2 hsz
  have E2 := E2'
  have hblk2 := hset _ _ hblk
  have z2 := K2.size
  have S2 : SC w2 B gs gt q bs total (.slice (some ⟨g, 0, none⟩) sl cap) st := by
    refine h.turn hset (by omega) (fun b hb hne _ => K2.block b hb hne) ?_ (fun y hy => h.ok y (by simp [hy]))
    have hr := h.row
    rw [List.length_append, List.length_singleton, spCells_snoc, HSL.out] at hr
    have hr2 := owns_cut (m := sl) hr (by rw [spCells_len, HSL.out]) (by omega)
    rw [HSL.out]
    exact owns_block hr2 (fun k hk => by
      obtain rfl : g = k := by simpa [Value.ownBlock] using hk
      exact K2.block g hgw ngs)
  have B2 : Below B w w2 := ⟨K2.os, K2.tape, K2.output, by omega, fun k hk => K2.block k (by omega) (by omega)⟩
  have e0 := E2.cell (j := 0) rfl
  have e2 := E2.cell (j := 2) rfl
  have t2 := hblk2.cell (j := 2) rfl
  have hcall := fun w' hb => note_few gs (.slice ao n scap) (.bool false) (.slice (some ⟨g, 0, none⟩) sl cap) (.map none) total ⟨x.b, x.off, none⟩ xl ((total : Int) - (x.start : Int)) w' hb (by omega)
  have hwr : IntKind.i64.wrap ((total : Int) - (x.start : Int)) = (total : Int) - (x.start : Int) := by rw [IntKind.wrap_i64]; omega
  have HC : Hid _ := hcall
  have El := E2.lt
  have Gl := hblk2.lt
  clear hcall h g3 gf3 x0 x1 x2 hblk hset E2'
  go_region_held3 (fun w' => w'.cell? ⟨w.heap.size, 0, none⟩ = some (.slice (some ⟨x.b, x.off, none⟩) xl x.cap) ∧ w'.cell? ⟨w.heap.size, 2, none⟩ = some (.int .i64 (x.start : Int)) ∧ w'.cell? ⟨gs, 2, none⟩ = some (.int .i64 (total : Int))) (go_keep)
    (first
      | (go_at_call 95; refine (HC.out _ (by exact hblk2.drew)).mono ?_; rintro y w3 ⟨rfl, hb3'⟩; have hb3 : Below w2.heap.size w2 w3 := ⟨hb3'.os, hb3'.tape, hb3'.output, hb3'.size, hb3'.block⟩; have u0 := ((bcell hb3).1 w.heap.size 0 El).trans e0; have u2 := ((bcell hb3).1 w.heap.size 2 El).trans e2; have v2 := ((bcell hb3).1 gs 2 Gl).trans t2))
  go_wp2_with fail
  go_end0
  have z3 := hb3.size
  refine ⟨rfl, _, S2.turn (fun a b hab => hab.below hb3 hab.lt) hb3.size (fun b hb _ _ => hb3.block b hb) (owns_below S2.row hb3) S2.ok, B2.trans (hb3.mono (by omega))⟩
end Go.Proofs.YtkbpmpcbajnmlaaDoor

/- The walks of the program's scale: step. -/
namespace Go.Proofs.YtkbpmpcbajnmlaaDoor
open Go.RowKit

theorem SC.same {w w' : World} {B gs gt : Nat} {q : Option Nat} {bs : Bs} {total : Nat} {v : Value} {st : List Sp} (h : SC w B gs gt q bs total v st) (hb : ∀ k : Nat, w'.heap[k]? = w.heap[k]?) (hs : w.heap.size ≤ w'.heap.size) : SC w' B gs gt q bs total v st :=
  h.turn (fun _ _ hab => hab.carry (hb _)) hs (fun b _ _ _ => hb b) (owns_block h.row (fun g _ => hb g)) h.ok

theorem SC.len {w : World} {B gs gt : Nat} {q : Option Nat} {bs : Bs} {total : Nat} {v : Value} {st : List Sp} (h : SC w B gs gt q bs total v st) : B ≤ w.heap.size := by have := h.ws.low; have := h.ws.lt; omega

/-- The step, where a list has ended. -/
theorem step_leave (B gs gt : Nat) (q : Option Nat) (bs : Bs) (total : Nat) (v : Value) (st : List Sp) (x : Sp) (w : World) (h : SC w B gs gt q bs total v (st ++ [x])) (hst : st.length ≤ 1000000) (htot : total ≤ 200000) (hnx : x.next = x.ts.length) :
    Calls Tryd.prog 85 #[.pointer (some ⟨gs, 0, none⟩)] w fun y w' => y = .returned (.bool true) ∧ ∃ v', SC w' B gs gt q bs total v' st ∧ Below B w w' := by
  obtain ⟨g, cap, rfl, hBg, hgw, hle, hmx, ngs, ngt, nqg, x0, x1, x2⟩ := h.shape
  unfold maxLen at hmx
  have hxok := h.ok x (by simp)
  have hxle := hxok.le
  have hxmx := hxok.max
  unfold maxLen at hxmx
  obtain ⟨ao, n, scap, hblk⟩ := h.ws.blk
  have g3 := hblk.cell (j := 3) rfl
  have hB := h.len
  have hl := fun w' hS => leave_any B gs gt q bs total (.slice (some ⟨g, 0, none⟩) (st.length + 1) cap) st x w' hS hst htot
  have HH : Hid _ := h
  have i0 : (0 : Int) ≤ (st.length : Int) := by omega
  have i1 : (st.length : Int) < (st.length : Int) + 1 := by omega
  rw [hnx] at x1
  generalize hsl : st.length = sl at *
  generalize x.ts.length = xl at *
  have i2 : IntKind.i64.wrap ((sl : Int) + 1 - 1) = (sl : Int) := by rw [IntKind.wrap_i64]; omega
  have i3 : ((sl : Int) + 1 - 1) = (sl : Int) := by omega
  have HL : Hid _ := hl
  clear hl h hnx hsl hxok
  go_enter Tryd.func85, Tryd.ntmps85
  go_wp2_with fail
  go_quiet (fail)
  generalize hw1 : w.drewN nq = w1
  have hh1 : ∀ k : Nat, w1.heap[k]? = w.heap[k]? := fun k => by rw [← hw1]; rfl
  have B1 : Below B w w1 := by rw [← hw1]; exact bel_drewN (Below.refl _ _) nq
  have z1 := B1.size
  have cc : ∀ a, w1.cell? a = w.cell? a := fun a => by rw [← hw1]; rfl
  have y0 := (cc _).trans x0
  have y1 := (cc _).trans x1
  have S1 := HH.out.same hh1 z1
  clear hw1 x0 x1 x2 g3 hblk cc hh1
  go_wp2_with fail
  go_quiet (fail)
  go_wp2_with fail
  refine (HL.out (w1.drewN nq) (S1.same (fun _ => rfl) (Nat.le_refl _))).mono ?_
  rintro y w3 ⟨rfl, v', S3, B3⟩
  go_wp2_with fail
  go_ret
  exact ⟨rfl, v', S3, (B1.trans (bel_drewN (Below.refl _ _) _)).trans B3⟩

/-- A span one further. -/
def Sp.on (x : Sp) : Sp := { x with next := x.next + 1 }

/-- Bytes of what is still to be weighed. -/
def Sp.rem (x : Sp) : Nat := (eTs ((x.ts.drop x.next).map Tr.pl)).length

theorem SC.on {w : World} {B gs gt : Nat} {q : Option Nat} {bs : Bs} {total : Nat} {g cap : Nat} {st : List Sp} {x : Sp} (h : SC w B gs gt q bs total (.slice (some ⟨g, 0, none⟩) (st.length + 1) cap) (st ++ [x])) (ngs : g ≠ gs) (hlt : x.next < x.ts.length) :
    SC (w.setCell ⟨g, st.length * 3 + 1, none⟩ (.int .i64 ((x.next : Int) + 1))) B gs gt q bs total (.slice (some ⟨g, 0, none⟩) (st.length + 1) cap) (st ++ [x.on]) := by
  have hk : ∀ b, b ≠ g → (w.setCell ⟨g, st.length * 3 + 1, none⟩ (.int .i64 ((x.next : Int) + 1))).heap[b]? = w.heap[b]? := fun b hb => Below.heap_setCell _ _ _ _ (by simpa using hb)
  refine h.turn (fun a b hab => hab.carry (hk gs (fun e => ngs e.symm))) (by simp [World.setCell]) (fun b _ _ hv => hk b (fun e => hv (by rw [e]; rfl))) ?_ (fun y hy => ?_)
  · have hr := h.row
    rw [List.length_append, List.length_singleton, spCells_snoc] at hr ⊢
    have := owns_set hr (st.length * 3 + 1) (.int .i64 ((x.next : Int) + 1))
    have e : (spCells st ++ x.cells).set (st.length * 3 + 1) (.int .i64 ((x.next : Int) + 1)) = spCells st ++ x.on.cells := by
      rw [List.set_append_right _ _ (by rw [spCells_len]; omega), spCells_len, show st.length * 3 + 1 - st.length * 3 = 1 by omega]
      rfl
    rw [e] at this
    exact this
  · rcases List.mem_append.1 hy with hy | hy
    · exact h.ok y (by simp [hy])
    · simp at hy
      subst hy
      have := h.ok x (by simp)
      exact ⟨this.at_, this.lt, this.all, by show x.next + 1 ≤ _; exact hlt, this.pos, this.le, this.max, this.small, this.wf⟩

/-- What was written is thrown away: its row stays. -/
theorem WS.cut0 {w : World} {B g : Nat} {wt : TypeId} {wl : List Value} {q : Option Nat} {bs : Bs} {ao : Option Addr} {n cap : Nat} (h : WS w B g wt wl q bs) (hb : Blk w g wt (.slice ao n cap :: .bool false :: wl)) :
    WS (w.setCell ⟨g, 0, none⟩ (.slice ao 0 cap)) B g wt wl q [] ∧ n = bs.length ∧ n ≤ cap ∧ (n = 0 ∨ ao ≠ none) := by
  obtain ⟨ao', n', cap', h1, h2⟩ := h.st
  have e : ao' = ao ∧ n' = n ∧ cap' = cap := by
    unfold Blk at hb h1
    rw [hb] at h1
    simp at h1
    exact ⟨h1.1.symm, h1.2.1.symm, h1.2.2.symm⟩
  obtain ⟨rfl, rfl, rfl⟩ := e
  have hg := fun k hk => (h.own (k := k) hk).2.2
  refine ⟨⟨⟨ao', 0, cap', hb.set 0 _, ?_⟩, h.low, by simp, h.ty⟩, ?_⟩
  · rcases h2 with ⟨h2, h3, h4, h5, h6⟩ | ⟨k, h2, h3, h4⟩
    · exact .inl ⟨h2, h3, rfl, h5, rfl⟩
    · refine .inr ⟨k, h2, h3, ?_⟩
      obtain ⟨cur, r1, r2, r3⟩ := h4.row
      have e4 : Own 5 B w k 0 cap' [] := ⟨rfl, by omega, h4.max, h4.new, cur, r1, r2, by simp⟩
      exact e4.carry (Below.heap_setCell _ _ _ _ (by simpa using hg k h2))
  · rcases h2 with ⟨h2, h3, h4, h5, h6⟩ | ⟨k, h2, h3, h4⟩
    · subst h4 h6; exact ⟨rfl, by omega, .inl rfl⟩
    · exact ⟨h4.len.symm, h4.le, .inr (by rw [h3]; simp)⟩

/-- The writer went on. -/
theorem SC.wrote {w w' : World} {B gs gt : Nat} {q q' : Option Nat} {bs bs' : Bs} {total : Nat} {v : Value} {st : List Sp} (h : SC w B gs gt q bs total v st) (hW : WS w' B gs 123 [.int .i64 (total : Int), v, .map none] q' bs') (hK : Keep w w' (fun k => k = gs ∨ q = some k)) :
    SC w' B gs gt q' bs' total v st ∧ Below B w w' := by
  have hlt := h.ws.lt
  have hlow := h.ws.low
  obtain ⟨_, _, _, hblk⟩ := h.ws.blk
  obtain ⟨l, hbt⟩ := h.bt
  have hgt : gt ≠ gs := hbt.ne hblk (by decide)
  have hqt : q ≠ some gt := h.ws.ne hbt (by decide)
  have n1 := owns_ty h.row hblk (by decide)
  have kB : ∀ b, b < B → w'.heap[b]? = w.heap[b]? := fun b hb => hK.block b (by omega) (fun s => by
    rcases s with e | e
    · omega
    · have := (h.ws.own e).2.1; omega)
  have kgt := hK.block gt hbt.lt (fun s => s.elim hgt hqt)
  have hB : B ≤ w.heap.size := by omega
  refine ⟨⟨hW, owns_block h.row (fun b hb => ?_), ⟨l, hbt.carry kgt⟩, fun x hx => (h.ok x hx).carry kB hK.size kgt, h.tabs.carry (fun k hk' => kB k (by have := h.two; omega)), h.two⟩, ⟨hK.os, hK.tape, hK.output, hK.size, kB⟩⟩
  have := owns_own h.row hb
  exact hK.block b this.2 (fun s => by
    rcases s with e | e
    · subst e; exact n1 hb
    · exact h.ws.rowne h.row (by decide) hb e)

theorem SC.len' {w : World} {B gs gt : Nat} {q : Option Nat} {bs : Bs} {total : Nat} {v : Value} {st : List Sp} (h : SC w B gs gt q bs total v st) : ∃ ao cap, Blk w gs 123 [.slice ao bs.length cap, .bool false, .int .i64 (total : Int), v, .map none] := by
  obtain ⟨ao, n, cap, h1⟩ := h.ws.blk
  obtain ⟨_, e, _⟩ := h.ws.cut0 h1
  exact ⟨ao, cap, by rw [← e]; exact h1⟩

theorem WfT.head {T : Tr} (h : WfT T.pl) : WfH T.k T.n T.s T.ls T.args.length ∧ ∀ U ∈ T.args, WfT U.pl := by
  rw [Tr.pl_eq] at h
  cases h with
  | mk h1 h2 => exact ⟨by simpa using h1, fun U hU => h2 _ (List.mem_map.2 ⟨U, hU, rfl⟩)⟩

/-- What a step leaves that weighed a part. -/
def StepP (w : World) (B gs gt : Nat) (total : Nat) (st : List Sp) (x : Sp) (T : Tr) (y : Ending) (w' : World) : Prop :=
  y = .returned (.bool true) ∧ ∃ q' bs' v', SC w' B gs gt q' bs' (total + (eHead T.k T.n T.s T.ls).length) v' (if T.args = [] then st ++ [x.on] else (st ++ [x.on]) ++ [⟨T.b, T.off, T.c, T.args, 0, total + (eHead T.k T.n T.s T.ls).length⟩]) ∧ Below B w w'

set_option maxRecDepth 100000 in
set_option maxHeartbeats 4000000 in
/-- The step, where a part is weighed. -/
theorem step_part (B gs gt : Nat) (q : Option Nat) (bs : Bs) (total : Nat) (v : Value) (st : List Sp) (x : Sp) (T : Tr) (w : World) (h : SC w B gs gt q bs total v (st ++ [x])) (hst : st.length ≤ 100000) (hT : x.ts[x.next]? = some T) (htot : total + (eHead T.k T.n T.s T.ls).length ≤ 200000) :
    Calls Tryd.prog 85 #[.pointer (some ⟨gs, 0, none⟩)] w (StepP w B gs gt total st x T) := by
  obtain ⟨g, cap, rfl, hBg, hgw, hle, hmx, ngs, ngt, nqg, x0, x1, x2⟩ := h.shape
  unfold maxLen at hmx
  have hxok := h.ok x (by simp)
  have hlt : x.next < x.ts.length := (List.getElem?_eq_some_iff.1 hT).1
  have hxle := hxok.le
  have hxmx := hxok.max
  unfold maxLen at hxmx
  have hB := h.len
  obtain ⟨wfh, wfa⟩ := WfT.head (hxok.wf T (List.mem_of_getElem? hT))
  obtain ⟨ao, n, scap, hblk⟩ := h.ws.blk
  have g3 := hblk.cell (j := 3) rfl
  have HH : Hid _ := h
  have HLT : Hid _ := hlt
  have HTT : Hid _ := hT
  have i0 : (0 : Int) ≤ (st.length : Int) := by omega
  have i1 : (st.length : Int) < (st.length : Int) + 1 := by omega
  have j0 : (0 : Int) ≤ (x.next : Int) := by omega
  have j1 : (x.next : Int) < (x.ts.length : Int) := by omega
  have d0 : ((x.next : Int) == (x.ts.length : Int)) = false := beq_eq_false_iff_ne.2 (by omega)
  obtain ⟨sl, hsl⟩ : ∃ sl, st.length = sl := ⟨_, rfl⟩
  obtain ⟨xl, hxl⟩ : ∃ xl, x.ts.length = xl := ⟨_, rfl⟩
  have HSL : Hid _ := hsl
  have HXL : Hid _ := hxl
  rw [hsl] at x0 x1 x2 g3 hblk i0 i1 hle hst
  rw [hxl] at x0 j1 d0 hxle
  have i3 : ((sl : Int) + 1 - 1) = (sl : Int) := by omega
  clear hsl hxl h hT hlt
  go_enter Tryd.func85, Tryd.ntmps85
  go_wp2_with fail
  go_quiet (fail)
  generalize hw1 : w.drewN nq = w1
  have hh1 : ∀ k : Nat, w1.heap[k]? = w.heap[k]? := fun k => by rw [← hw1]; rfl
  have B1 : Below B w w1 := by rw [← hw1]; exact bel_drewN (Below.refl _ _) nq
  have cc : ∀ a, w1.cell? a = w.cell? a := fun a => by rw [← hw1]; rfl
  have y0 := (cc _).trans x0
  have y1 := (cc _).trans x1
  have z1 := B1.size
  clear hw1 cc x0 x1 x2 g3
  go_wp2_with fail
  go_quiet (fail)
  generalize hw2 : w1.drewN nq = w2
  have hh2 : ∀ k : Nat, w2.heap[k]? = w1.heap[k]? := fun k => by rw [← hw2]; rfl
  have B2 : Below B w1 w2 := by rw [← hw2]; exact bel_drewN (Below.refl _ _) nq
  have cc : ∀ a, w2.cell? a = w1.cell? a := fun a => by rw [← hw2]; rfl
  have u0 := (cc _).trans y0
  have u1 := (cc _).trans y1
  have z2 := B2.size
  clear hw2 cc y0 y1
  go_wp2_with fail
  go_quiet (fail)
  generalize hw3 : w2.drewN nq = w3
  have hh3 : ∀ k : Nat, w3.heap[k]? = w2.heap[k]? := fun k => by rw [← hw3]; rfl
  have B3 : Below B w2 w3 := by rw [← hw3]; exact bel_drewN (Below.refl _ _) nq
  have cc : ∀ a, w3.cell? a = w2.cell? a := fun a => by rw [← hw3]; rfl
  have s1 := (cc _).trans u1
  have z3 := B3.size
  have S3 := HH.out.same (w' := w3) (fun k => (hh3 k).trans ((hh2 k).trans (hh1 k))) (by omega)
  have B03 := (B1.trans B2).trans B3
  have hblk3 := hblk.carry ((hh3 gs).trans ((hh2 gs).trans (hh1 gs)))
  clear hw3 cc u0 u1 hh1 hh2 hh3 B1 B2 B3 hblk
  have sf : w3.frozen? ⟨g, sl * 3 + 1, none⟩ = false := by
    have hr := S3.row
    rw [List.length_append, List.length_singleton, HSL.out] at hr
    exact owns_frozen hr _
  have p0 := hblk3.cell (j := 0) rfl
  have pf := hblk3.frozen 0
  go_wp2_with fail
  have S4 : SC (w3.setCell ⟨g, sl * 3 + 1, none⟩ (.int .i64 ((x.next : Int) + 1))) B gs gt q bs total (.slice (some ⟨g, 0, none⟩) (sl + 1) cap) (st ++ [x.on]) := by
    rw [← HSL.out]
    exact S3.on ngs HLT.out
  have B4 : Below B w3 (w3.setCell ⟨g, sl * 3 + 1, none⟩ (.int .i64 ((x.next : Int) + 1))) := (Below.refl B w3).setCell hBg _
  have hblk4 : Blk (w3.setCell ⟨g, sl * 3 + 1, none⟩ (.int .i64 ((x.next : Int) + 1))) gs 123 _ := hblk3.carry (Below.heap_setCell _ _ _ _ (by simpa using ngs.symm))
  have B04 := B03.trans B4
  clear hblk3 p0 pf sf s1 S3 B4 B03
  generalize w3.setCell ⟨g, sl * 3 + 1, none⟩ (.int .i64 ((x.next : Int) + 1)) = w4 at *
  have c0 := S4.ws.cut0 hblk4
  have K5 : Keep w4 (w4.setCell ⟨gs, 0, none⟩ (.slice ao 0 scap)) (fun k => k = gs ∨ q = some k) := (Keep.refl w4 _).setCell (fun _ => .inl rfl) 0 _
  obtain ⟨S5, B5⟩ := S4.wrote c0.1 K5
  have B05 := B04.trans B5
  clear K5 c0 hblk4 B5 S4 B04
  generalize w4.setCell ⟨gs, 0, none⟩ (.slice ao 0 scap) = w5 at *
  have ok5 := S5.ok x.on (by simp)
  obtain ⟨hc5', hin5⟩ := ok5.all.get x.next T HTT.out
  have hc5 : TCells w5 x.b (x.off + x.next * 5) T := hc5'
  clear hc5'
  obtain ⟨_, _, _, hblk5⟩ := S5.ws.blk
  obtain ⟨lt5, hbt5⟩ := S5.bt
  have low5 := S5.ws.low
  have xne : x.b ≠ gs := by
    rcases ok5.at_ with e | e
    · have e' : x.b < B := e; omega
    · have e' : x.b = gt := e; rw [e']; exact hbt5.ne hblk5 (by decide)
  have xnq : q ≠ some x.b := fun hq => by
    rcases ok5.at_ with e | e
    · have e' : x.b < B := e; have := (S5.ws.own hq).2.1; omega
    · have e' : x.b = gt := e; rw [e'] at hq; exact S5.ws.ne hbt5 (by decide) hq
  have hP := part_any T x.b (x.off + x.next * 5) w5 B gs q [] S5.ws S5.tabs S5.two hc5 xne xnq hin5 wfh (by simp; omega)
  rw [List.nil_append] at hP
  generalize hE : eHead T.k T.n T.s T.ls = E at *
  have HE : Hid _ := hE
  clear hE
  refine hP.mono ?_
  rintro y w6 ⟨rfl, q6, W6, K6, Q6⟩
  obtain ⟨S6, B6⟩ := S5.wrote W6 K6
  have B06 := B05.trans B6
  have hc6 := hc5.carry (K6.block x.b hc5.lt (fun s => s.elim xne xnq))
  have i6 := hc6.c4
  obtain ⟨ao6, cap6, hblk6⟩ := S6.len'
  have b0 := hblk6.cell (j := 0) rfl
  have b1 := hblk6.cell (j := 1) rfl
  have hG := grow_any gs _ _ _ _ total E.length w6 hblk6 (by omega) (by omega)
  clear hP S5 W6 K6 Q6 hc5 hin5 hblk5 hbt5 ok5
  go_wp2_with fail
  refine hG.mono ?_
  rintro y w7 ⟨rfl, hblk7, K7⟩
  have B7 : Below B w6 w7 := ⟨K7.os, K7.tape, K7.output, K7.size, fun k hk => K7.block k (by have := S6.len; omega) (by omega)⟩
  have B07 := B06.trans B7
  have S7 : SC w7 B gs gt q6 E (total + E.length) (.slice (some ⟨g, 0, none⟩) (sl + 1) cap) (st ++ [x.on]) := by
    refine S6.turn (fun a b hab => ?_) K7.size (fun b hb hne _ => K7.block b hb hne) (owns_block S6.row (fun b hb => K7.block b (owns_own S6.row hb).2 (fun e => ?_))) S6.ok
    · have e : a = .slice ao6 E.length cap6 ∧ b = .bool false := by
        unfold Blk at hab hblk6
        rw [hblk6] at hab
        simp at hab
        exact ⟨hab.1.symm, hab.2.symm⟩
      rw [e.1, e.2]
      exact hblk7
    · subst e
      exact owns_ty S6.row hblk6 (by decide) hb
  have hc7 := hc6.carry (K7.block x.b hc6.lt xne)
  have i7 := hc7.c4
  clear hG b0 b1 i6 hc6 S6 hblk6 B06 B7
  have hn7 := tin_iff.1 ((S7.ok x.on (by simp)).all.get x.next T HTT.out).2
  by_cases ha : T.args = []
  · have ea : T.args.length = 0 := by rw [ha]; rfl
    rw [ea] at i7
    have HA : Hid _ := ha
    clear ha ea
    have hN := enter_none gs T.a T.c w7
    go_wp2_with fail
    refine hN.mono ?_
    rintro y w8 ⟨rfl, rfl⟩
    go_wp2_with fail
    go_ret
    refine ⟨rfl, q6, E, .slice (some ⟨g, 0, none⟩) (sl + 1) cap, ?_, B07⟩
    rw [HE.out, if_pos HA.out]
    exact S7
  · obtain ⟨e1, e2, e3⟩ := hn7.all.resolve_left ha
    rw [e1] at i7
    have hx7 : SpOk w7 B gt ⟨T.b, T.off, T.c, T.args, 0, total + E.length⟩ := ⟨.inl e2, by have := S7.len; show T.b < _; omega, e3, Nat.zero_le _, List.length_pos_iff.2 ha, hn7.le, hn7.max, htot, wfa⟩
    have hN := enter_some B gs gt q6 E (total + E.length) _ (st ++ [x.on]) T.b T.off T.c T.args w7 S7 hx7 (by have := HSL.out; simp; omega)
    generalize T.args.length = al at i7 hN
    have HA : Hid _ := ha
    clear e1 ha e3 hx7
    go_wp2_with fail
    refine hN.mono ?_
    rintro y w8 ⟨rfl, v8, S8, B8⟩
    go_wp2_with fail
    go_ret
    refine ⟨rfl, q6, E, v8, ?_, B07.trans B8⟩
    rw [HE.out, if_neg HA.out]
    exact S8
end Go.Proofs.YtkbpmpcbajnmlaaDoor

/- The walk of the program's weigh. -/
namespace Go.Proofs.YtkbpmpcbajnmlaaDoor
open Go.RowKit

/-- Bytes of what is still to be weighed. -/
def remAll (st : List Sp) : Nat := (st.map Sp.rem).sum

theorem eTs_map (l : List Tr) (T : Tr) : (eTs ((T :: l).map Tr.pl)).length = (eHead T.k T.n T.s T.ls).length + (eTs (T.args.map Tr.pl)).length + (eTs (l.map Tr.pl)).length := by
  rw [List.map_cons, eTs, List.length_append, Tr.pl_eq, eT_mk, List.length_append]

theorem Sp.rem_on {x : Sp} {T : Tr} (h : x.ts[x.next]? = some T) : x.rem = (eHead T.k T.n T.s T.ls).length + (eTs (T.args.map Tr.pl)).length + x.on.rem := by
  have hlt := (List.getElem?_eq_some_iff.1 h).1
  have e := (List.getElem?_eq_some_iff.1 h).2
  unfold Sp.rem Sp.on
  rw [List.drop_eq_getElem_cons hlt, e, eTs_map]

theorem eHead_pos (k n : Int) (s : ByteArray) (ls : List Lv) : 0 < (eHead k n s ls).length := by
  unfold eHead
  have := uv_pos k.toNat
  rw [List.length_append]; omega

def intAt (w : World) (a : Addr) : Nat := match w.cell? a with | some (.int _ n) => n.toNat | some (.slice _ n _) => n | _ => 0

theorem SC.row_len {w : World} {B gs gt : Nat} {q : Option Nat} {bs : Bs} {total : Nat} {v : Value} {st : List Sp} (h : SC w B gs gt q bs total v st) : ∃ a c, v = .slice a st.length c := by
  rcases h.row.2 with ⟨rfl, e⟩ | ⟨g, c, _, rfl, _⟩
  · exact ⟨none, 0, by rw [e]⟩
  · exact ⟨_, _, rfl⟩

theorem SC.measure {w : World} {B gs gt : Nat} {q : Option Nat} {bs : Bs} {total : Nat} {v : Value} {st : List Sp} (h : SC w B gs gt q bs total v st) : intAt w ⟨gs, 2, none⟩ = total ∧ intAt w ⟨gs, 3, none⟩ = st.length := by
  obtain ⟨ao, c, hb⟩ := h.len'
  obtain ⟨a, c', rfl⟩ := h.row_len
  unfold intAt
  rw [hb.cell (j := 2) rfl, hb.cell (j := 3) rfl]
  exact ⟨by simp, rfl⟩

/-- In the midst of weighing. -/
def WeI (w wr : World) (B N : Nat) : Prop := ∃ q bs total v st, SC wr B B (B + 1) q bs total v st ∧ Below B w wr ∧ total + remAll st = N ∧ st.length ≤ total + 1

set_option maxRecDepth 100000 in
set_option maxHeartbeats 4000000 in
theorem weigh_any (T : Tr) (b off : Nat) (w : World) (ht : Tabs w) (h2 : 2 ≤ w.heap.size) (hc : TCells w b off T) (hin : TIn w (· < w.heap.size) T) (h : WfT T.pl) (hs : (eT T.pl).length ≤ 90000) :
    Calls Tryd.prog 68 #[.pointer (some ⟨b, off, none⟩)] w fun y w' => y = .returned (.tuple #[.int .i64 ((eT T.pl).length : Int), .bool true]) ∧ Below w.heap.size w w' := by
  obtain ⟨w1, hw1, hb1, G1, G2, z1⟩ := two_newG w [.slice none 0 0, .bool false, .int .i64 0, .slice none 0 0, .map none] [.int .i64 T.k, .int .i64 T.n, .string T.s, .slice T.la T.ls.length T.lc, .slice T.a T.args.length T.c] 123 33
  have hcA := hc.carry (Below.heap_alloc w (.cells #[.slice none 0 0, .bool false, .int .i64 0, .slice none 0 0, .map none] 123) b hc.lt)
  have c0 := hcA.c0
  have c1 := hcA.c1
  have c2 := hcA.c2
  have c3 := hcA.c3
  have c4 := hcA.c4
  have hT1 : TCells w1 (w.heap.size + 1) 0 T := ⟨G2.cell (j := 0) rfl, G2.cell (j := 1) rfl, G2.cell (j := 2) rfl, G2.cell (j := 3) rfl, G2.cell (j := 4) rfl⟩
  have S1 : SC w1 w.heap.size w.heap.size (w.heap.size + 1) none [] 0 (.slice none 0 0) [] :=
    ⟨⟨⟨none, 0, 0, G1, .inl ⟨rfl, rfl, rfl, rfl, rfl⟩⟩, Nat.le_refl _, by simp, .inr rfl⟩, ⟨rfl, .inl ⟨rfl, rfl⟩⟩, ⟨_, G2⟩, (fun _ hx => by cases hx), ht.below2 hb1, h2⟩
  have X1 : SpOk w1 w.heap.size (w.heap.size + 1) ⟨w.heap.size + 1, 0, 1, [T], 0, 0⟩ :=
    ⟨.inr rfl, by show w.heap.size + 1 < _; omega, tall_cons.2 ⟨⟨hT1, hin.below hb1 (Nat.le_refl _)⟩, by rw [TAll]; trivial⟩, Nat.zero_le _, by simp, by simp, by unfold maxLen; simp, by simp, fun U hU => by simp at hU; rw [hU]; exact h⟩
  have hE := enter_some w.heap.size w.heap.size (w.heap.size + 1) none [] 0 (.slice none 0 0) [] (w.heap.size + 1) 0 1 [T] w1 S1 X1 (by simp)
  have HW : Hid _ := hw1
  clear hw1
  obtain ⟨N, hN⟩ : ∃ N, (eT T.pl).length = N := ⟨_, rfl⟩
  have HN : Hid _ := hN
  rw [hN] at hs ⊢
  clear hN hcA hc hin S1 X1 hT1
  go_enter Tryd.func68, Tryd.ntmps68
  go_wp2_with fail
  have hw1 := HW.out
  rw [hw1]
  clear hw1
  refine hE.mono ?_
  rintro y w2 ⟨rfl, v2, S2, B2⟩
  have R0 : WeI w w2 w.heap.size N := ⟨_, _, 0, v2, _, S2, hb1.trans B2, by
    have : eT T.pl = eTs [T.pl] := by simp [eTs]
    show 0 + (_ + 0) = N
    unfold Sp.rem
    rw [← HN.out, this]
    simp, by simp⟩
  clear hE S2 B2 c0 c1 c2 c3 c4 HW G1 G2 hb1
  go_wp2_with fail
  go_loopw [] (fun wr => WeI w wr w.heap.size N) (fun wr => 2 * (N - intAt wr ⟨w.heap.size, 2, none⟩) + intAt wr ⟨w.heap.size, 3, none⟩)
  case atStart => exact R0
  case round =>
    clear R0
    obtain ⟨q, bs, total, v, st, S, B, hsum, hlen⟩ := hrel
    obtain ⟨m1, m2⟩ := S.measure
    obtain ⟨ao, cp, hblk⟩ := S.len'
    obtain ⟨va, vc, rfl⟩ := S.row_len
    rcases List.eq_nil_or_concat st with rfl | ⟨st', x, rfl⟩
    · have g2 := hblk.cell (j := 2) rfl
      have g3 := hblk.cell (j := 3) rfl
      obtain rfl : total = N := by simpa [remAll] using hsum
      change _ = some (Value.slice va 0 vc) at g3
      go_wp2_with fail
      exact bodyPost_ret (v := .tuple #[.int .i64 (total : Int), .bool true]) (by simp [results, Tryd.results68, go_sem]) rfl ⟨rfl, B⟩
    · rw [List.concat_eq_append] at S hsum hlen m2 hblk
      rw [List.length_append, List.length_singleton] at hlen m2 hblk
      have hr : remAll (st' ++ [x]) = remAll st' + x.rem := by simp [remAll]
      rw [hr] at hsum
      have g3 := hblk.cell (j := 3) rfl
      have hd : decide ((0 : Int) < ((st'.length + 1 : Nat) : Int)) = true := decide_eq_true (by omega)
      have hxok := S.ok x (by simp)
      by_cases hnx : x.next = x.ts.length
      · have hC := step_leave w.heap.size w.heap.size (w.heap.size + 1) q bs total _ st' x wr S (by omega) (by omega) hnx
        have xr : x.rem = 0 := by unfold Sp.rem; rw [hnx]; simp [eTs]
        obtain ⟨sl, hsl⟩ : ∃ sl, st'.length = sl := ⟨_, rfl⟩
        rw [hsl] at g3 hd hlen m2
        have HSL : Hid _ := hsl
        clear hsl hblk hxok
        go_wp2_with fail
        refine hC.mono ?_
        rintro y w3 ⟨rfl, v3, S3, B3⟩
        go_wp2_with fail
        go_roundw
        case rel => exact ⟨q, bs, total, v3, st', S3, B.trans B3, by omega, by rw [HSL.out]; omega⟩
        case measure =>
          obtain ⟨k1, k2⟩ := S3.measure
          rw [m1, m2, k1, k2, HSL.out]
          omega
      · have hlt : x.next < x.ts.length := by have := hxok.next; omega
        obtain ⟨U, hU⟩ : ∃ U, x.ts[x.next]? = some U := ⟨_, List.getElem?_eq_getElem hlt⟩
        have xr := Sp.rem_on hU
        have hp := eHead_pos U.k U.n U.s U.ls
        have hC := step_part w.heap.size w.heap.size (w.heap.size + 1) q bs total _ st' x U wr S (by omega) hU (by omega)
        obtain ⟨sl, hsl⟩ : ∃ sl, st'.length = sl := ⟨_, rfl⟩
        rw [hsl] at g3 hd hlen m2
        have HSL : Hid _ := hsl
        have HU : Hid _ := hU
        clear hsl hblk hxok hU hnx
        go_wp2_with fail
        refine hC.mono ?_
        rintro y w3 ⟨rfl, q3, bs3, v3, S3, B3⟩
        go_wp2_with fail
        go_roundw
        case rel =>
          refine ⟨q3, bs3, _, v3, _, S3, B.trans B3, ?_, ?_⟩
          · split
            · rename_i ha
              rw [ha] at xr
              simp [remAll] at hr ⊢
              simp [eTs] at xr
              simp [remAll] at hsum
              omega
            · simp [remAll] at hr ⊢
              simp [remAll] at hsum
              have : Sp.rem ⟨U.b, U.off, U.c, U.args, 0, total + (eHead U.k U.n U.s U.ls).length⟩ = (eTs (U.args.map Tr.pl)).length := by simp [Sp.rem]
              rw [this]
              omega
          · have := HSL.out
            split <;> simp <;> omega
        case measure =>
          obtain ⟨k1, k2⟩ := S3.measure
          rw [m1, m2, k1, k2]
          have := HSL.out
          split <;> simp <;> omega
end Go.Proofs.YtkbpmpcbajnmlaaDoor
