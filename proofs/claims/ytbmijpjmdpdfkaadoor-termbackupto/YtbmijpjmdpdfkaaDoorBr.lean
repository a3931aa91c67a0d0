/- The walk of term's doBranch: a part with args is turned: its own cells are written, a new list for its args is made, and a job for each arg is laid. No condition but that all of it lies in memory, apart. -/
import Derived.Test.YtbmijpjmdpdfkaaDoorCop
namespace Go.Proofs.YtbmijpjmdpdfkaaDoor
open Go.RowKit

/-- Jobs, the next one first. -/
abbrev Jobs := List (Pt × Nat × Nat)
def Jobs.cells : Jobs → List Value
  | [] => []
  | (p, b, o) :: r => Jobs.cells r ++ [.pointer (some ⟨p.b, p.off, none⟩), .int .i64 (p.d : Int), .int .i64 (p.m : Int), .pointer (some ⟨b, o, none⟩)]
theorem Jobs.cells_len (js : Jobs) : (Jobs.cells js).length = js.length * 4 := by
  induction js with
  | nil => rfl
  | cons x r ih => obtain ⟨p, b, o⟩ := x; simp [Jobs.cells, ih]; omega
/-- The jobs with those of a part's first args on top; the list for them is in block nb. -/
def Jobs.push (p : Pt) (nb : Nat) : List Tr → Nat → Jobs → Jobs
  | [], _, js => js
  | T :: r, i, js => Jobs.push p nb r (i + 1) ((p.kid i T, nb, i * 5) :: js)
theorem Jobs.push_one (p : Pt) (nb : Nat) (l : List Tr) (T : Tr) : ∀ (i : Nat) (js : Jobs), Jobs.push p nb (l ++ [T]) i js = (p.kid (i + l.length) T, nb, (i + l.length) * 5) :: Jobs.push p nb l i js := by
  induction l with
  | nil => intro i js; rfl
  | cons x r ih => intro i js; simp only [List.cons_append, Jobs.push, List.length_cons]; rw [ih]; simp only [show i + 1 + r.length = i + (r.length + 1) from by omega]
theorem Jobs.push_len (p : Pt) (nb : Nat) (l : List Tr) : ∀ (i : Nat) (js : Jobs), (Jobs.push p nb l i js).length = js.length + l.length := by
  induction l with
  | nil => intro i js; rfl
  | cons x r ih => intro i js; simp only [Jobs.push, List.length_cons]; rw [ih]; simp; omega
theorem Jobs.push_at (p : Pt) (nb : Nat) {l : List Tr} {j : Nat} {T : Tr} (h : l[j]? = some T) (js : Jobs) : Jobs.push p nb (l.take (j + 1)) 0 js = (p.kid j T, nb, j * 5) :: Jobs.push p nb (l.take j) 0 js := by
  have hj := (List.getElem?_eq_some_iff.1 h).1
  rw [List.take_add_one, h, Option.toList_some, Jobs.push_one]
  simp [Nat.min_eq_left (Nat.le_of_lt hj)]

structure JRow (w : World) (B gu : Nat) (fv lf : Value) (js : Jobs) (v : Value) : Prop where
  blk : Blk w gu 71 [fv, lf, v]
  row : w.ownsRow B 114 4 v js.length (Jobs.cells js)

theorem Hole.set {w : World} {b off : Nat} (h : Hole w b off) (c j : Nat) (v : Value) : Hole (w.setCell ⟨c, j, none⟩ v) b off := by
  obtain ⟨cs, t, h, hs⟩ := h
  by_cases e : c = b
  · subst e
    exact ⟨cs.setIfInBounds j v, t, by simp [World.setCell, Array.getElem?_modify, h], by simpa using hs⟩
  · exact ⟨cs, t, (Below.heap_setCell _ _ _ _ (fun e' => e e'.symm)).trans h, hs⟩
theorem Hole.put5 {w : World} {b off : Nat} (h : Hole w b off) (c j : Nat) (a0 a1 a2 a3 a4 : Value) : Hole (put5 w c j a0 a1 a2 a3 a4) b off := ((((h.set _ _ _).set _ _ _).set _ _ _).set _ _ _).set _ _ _
theorem Hole.keep {w w' : World} {S : Nat → Prop} {b off : Nat} (h : Hole w b off) (hk : Keep w w' S) (hn : ¬ S b) : Hole w' b off := h.carry (hk.block b h.lt hn)
theorem put5_keep (w : World) (c j : Nat) (a0 a1 a2 a3 a4 : Value) : Keep w (put5 w c j a0 a1 a2 a3 a4) (fun k => k = c) :=
  (((((Keep.refl w (fun k => k = c)).setCell (g := c) (fun _ => rfl) j a0).setCell (g := c) (fun _ => rfl) (j + 1) a1).setCell (g := c) (fun _ => rfl) (j + 2) a2).setCell (g := c) (fun _ => rfl) (j + 3) a3).setCell (g := c) (fun _ => rfl) (j + 4) a4

theorem info25 : (Tryd.prog.info? 25).map (fun i => (i.zero, i.size, i.bytes)) = some (some (.agg #[.int .i64 0, .int .i64 0, .string { data := #[] }, .slice none 0 0, .slice none 0 0]), 5, 80) := by kernel_rfl
theorem info114 : ∃ i, Tryd.prog.info? 114 = some i ∧ i.zero = some (.agg #[.pointer none, .int .i64 0, .int .i64 0, .pointer none]) ∧ i.size = 4 ∧ i.bytes = 32 := by
  have h : (Tryd.prog.info? 114).map (fun i => (i.zero, i.size, i.bytes)) = some (some (.agg #[.pointer none, .int .i64 0, .int .i64 0, .pointer none]), 4, 32) := by kernel_rfl
  obtain ⟨i, hi, he⟩ := Option.map_eq_some_iff.1 h
  simp only [Prod.mk.injEq] at he
  exact ⟨i, hi, he⟩

def zeros5 (n : Nat) : Array Value := madeCells #[.int .i64 0, .int .i64 0, .string { data := #[] }, .slice none 0 0, .slice none 0 0] (n * 5)
theorem make25 (w : World) (n : Nat) (hn : n ≤ 1000) : (Instr.makeSlice 23 (.int .i64 (n : Int)) (.int .i64 (n : Int))).run Tryd.prog w = .ok (.slice (some ⟨w.heap.size, 0, none⟩) n n) (w.alloc (.cells (zeros5 n) 25)) := by
  obtain ⟨i, hi, he⟩ := Option.map_eq_some_iff.1 info25
  simp only [Prod.mk.injEq] at he
  obtain ⟨h1, h2, h3⟩ := he
  have := run_make (P := Tryd.prog) w 23 25 i _ Tryd.underlying23 hi h1 .i64 .i64 (n : Int) (n : Int) (by omega) (by omega) (by rw [h3]; omega) (by omega)
  rw [h2] at this
  simpa [Value.cells, zeros5] using this
theorem made25 (w : World) (n : Nat) : ∃ w1, w.alloc (.cells (zeros5 n) 25) = w1 ∧ Below w.heap.size w w1 ∧ (∀ i, i < n → Hole w1 w.heap.size (i * 5)) ∧ w1.heap.size = w.heap.size + 1 ∧ w1.heap[w.heap.size]? = some (.cells (zeros5 n) 25 (0, 0)) :=
  ⟨_, rfl, (Below.refl _ _).alloc (Nat.le_refl _) _, fun i hi => ⟨zeros5 n, 25, heap_alloc_new w _, by simp [zeros5, size_madeCells]; omega⟩, by simp, heap_alloc_new w _⟩

theorem owns_sl {w : World} {base : Nat} {e : TypeId} {size n : Nat} {v : Value} {xs : List Value} (h : w.ownsRow base e size v n xs) : ∃ ao cap, v = .slice ao n cap := by
  rcases h.2 with ⟨h0, h1⟩ | ⟨g, cap, cur, rfl, _⟩
  · exact ⟨none, 0, by rw [h0, h1]⟩
  · exact ⟨_, _, rfl⟩
theorem enter79 (args : Array Value) (w : World) : (callFunc 79 args).run Tryd.prog w = .ok (.enter 79 args) w := enter_of Tryd.func79 (by kernel_rfl) rfl args w

/-- doBranch's loop behind j of the args. -/
structure BI (w7 wr : World) (B gu nb : Nat) (fv jv : Value) (js : Jobs) (p : Pt) (j : Nat) (v : Value) : Prop where
  row : JRow wr B gu fv (.func (.func 44) #[] #[]) (Jobs.push p nb (p.t.args.take j) 0 js) v
  own : v.ownBlock = jv.ownBlock ∨ ∃ k, v.ownBlock = some k ∧ nb < k
  keep : Keep w7 wr (fun k => k = gu ∨ jv.ownBlock = some k)

theorem BI.step {w7 wr w8 w9 w10 : World} {B gu nb : Nat} {fv jv v v' : Value} {js : Jobs} {p : Pt} {j n : Nat} {T : Tr} {kb koff kd km : Nat} (I : BI w7 wr B gu nb fv jv js p j v) (hs7 : w7.heap.size = nb + 1) (hget : p.t.args[j]? = some T) (hn : (Jobs.push p nb (p.t.args.take j) 0 js).length = n)
    (hK : p.kid j T = ⟨kb, koff, T, kd, km⟩) (hb8 : Below wr.heap.size wr w8) (hb9 : Below w8.heap.size w8 w9) (hg10 : w9.grownBy w10 v.ownBlock) (ho10 : w10.ownsRow B 114 4 v' (n + 1) (Jobs.cells (Jobs.push p nb (p.t.args.take j) 0 js) ++ [.pointer (some ⟨kb, koff, none⟩), .int .i64 (kd : Int), .int .i64 (km : Int), .pointer (some ⟨nb, j * 5, none⟩)]))
    (hn10 : v'.ownBlock = v.ownBlock ∨ ∃ b, v'.ownBlock = some b ∧ w9.heap.size ≤ b) (U10 : Blk w10 gu 71 [fv, .func (.func 44) #[] #[], v]) : BI w7 (w10.setCell ⟨gu, 2, none⟩ v') B gu nb fv jv js p (j + 1) v' := by
  have h7 := I.keep.size
  have h8 := hb8.size
  have h9 := hb9.size
  have K9 : Keep wr w9 (fun k => k = gu ∨ v.ownBlock = some k) := Keep.of_below (hb8.trans (hb9.mono h8)) (Nat.le_refl _)
  have K10 : Keep w9 w10 (fun k => k = gu ∨ v.ownBlock = some k) := ⟨hg10.os, hg10.tape, hg10.output, hg10.size, fun k hk h => hg10.block k hk (fun e => h (.inr e.symm))⟩
  have K11 : Keep w9 (w10.setCell ⟨gu, 2, none⟩ v') (fun k => k = gu ∨ v.ownBlock = some k) := K10.setCell (fun _ => .inl rfl) _ _
  refine ⟨⟨U10.set 2 v', ?_⟩, ?_, ?_⟩
  · rw [Jobs.push_at p nb hget, hK]
    simp only [Jobs.cells, List.length_cons, hn]
    exact owns_block ho10 (fun g e => Below.heap_setCell _ _ _ _ (fun h => owns_ne ho10 U10 (by decide) (by rw [e]; exact congrArg some h)))
  · rcases hn10 with h | ⟨k, h, h2⟩
    · rw [h]; exact I.own
    · exact .inr ⟨k, h, by omega⟩
  · refine I.keep.trans (K9.trans K11 (fun _ _ h => h)) ?_
    rintro i hi (h | h)
    · exact .inl h
    · rcases I.own with h2 | ⟨k, h2, h3⟩
      · exact .inr (h2 ▸ h)
      · rw [h2] at h; cases h; omega

structure BrP (R : World → World → Option Addr → Nat → Nat → Prop) (w w' : World) (B gu tb toff : Nat) (fv jv : Value) (js : Jobs) (p : Pt) (w1 w2 : World) (oa : Option Addr) (ol oc nb : Nat) (jv' : Value) : Prop where
  b1 : Below w.heap.size w w1
  r : R w1 w2 oa ol oc
  b2 : Below w1.heap.size w1 w2
  hnb : w2.heap.size ≤ nb
  ty : ∃ cs, w'.heap[nb]? = some (.cells cs 25 (0, 0))
  holes : ∀ i, i < p.t.args.length → Hole w' nb (i * 5)
  row : JRow w' B gu fv (.func (.func 44) #[] #[]) (Jobs.push p nb p.t.args 0 js) jv'
  own : jv'.ownBlock = jv.ownBlock ∨ ∃ k, jv'.ownBlock = some k ∧ nb < k
  keep : Keep ((put5 w2 tb toff (.int .i64 p.t.k) (.int .i64 p.t.n) (.string p.t.s) (.slice oa ol oc) (.slice none 0 0)).setCell ⟨tb, toff + 4, none⟩ (.slice (some ⟨nb, 0, none⟩) p.t.args.length p.t.args.length)) w' (fun k => k = gu ∨ jv.ownBlock = some k)

set_option maxRecDepth 100000 in
set_option maxHeartbeats 2000000 in
theorem doBranch_any (R : World → World → Option Addr → Nat → Nat → Prop) (B gu tb toff : Nat) (fv jv : Value) (js : Jobs) (p : Pt) (w : World) (hT : Tabs w) (hJ : JRow w B gu fv (.func (.func 44) #[] #[]) js jv)
    (hc : TCells w p.b p.off p.t) (hin : TIn w (· < B) p.t) (hpb : p.b < B) (hB3 : 3 ≤ B) (_hB : B ≤ w.heap.size) (htb : B ≤ tb) (hgu : B ≤ gu) (hne : tb ≠ gu) (hjt : jv.ownBlock ≠ some tb) (hh : Hole w tb toff)
    (hd : p.d ≤ 1073741824) (hm : p.m ≤ 1073741824) (hl1 : 0 < p.t.args.length) (hl2 : p.t.args.length ≤ 1000) (hj : js.length ≤ 1073741824)
    (hcop : ∀ w', Below w.heap.size w w' → Calls Tryd.prog 44 #[.slice p.t.la p.t.ls.length p.t.lc] w' fun e w'' => ∃ oa ol oc, e = .returned (.slice oa ol oc) ∧ R w' w'' oa ol oc ∧ Below w'.heap.size w' w'') :
    Calls Tryd.prog 79 #[.pointer (some ⟨gu, 0, none⟩), .agg #[.pointer (some ⟨p.b, p.off, none⟩), .int .i64 (p.d : Int), .int .i64 (p.m : Int), .pointer (some ⟨tb, toff, none⟩)]] w fun e w' => e = .returned (.tuple #[]) ∧
      ∃ w1 w2 oa ol oc nb jv', BrP R w w' B gu tb toff fv jv js p w1 w2 oa ol oc nb jv' := by
  have hlh := hh.lt
  have hlu := hJ.blk.lt
  have hlp := hc.lt
  obtain ⟨w1, hw1, hb1, X1, hs1⟩ := one_new w [.pointer (some ⟨p.b, p.off, none⟩), .int .i64 (p.d : Int), .int .i64 (p.m : Int), .pointer (some ⟨tb, toff, none⟩)] 114
  have x0 := X1.cell (j := 0) rfl
  have x1 := X1.cell (j := 1) rfl
  have x2 := X1.cell (j := 2) rfl
  have x3 := X1.cell (j := 3) rfl
  have hcall := doLeaf_any R gu fv jv p tb toff w1 (hJ.blk.below hb1 hlu) (hc.on hb1) (hh.on hb1) (by omega) hne (fun w' hb => hcop w' (hb1.trans (hb.mono hb1.size)))
  obtain ⟨len, hlen⟩ : ∃ len, p.t.args.length = len := ⟨_, rfl⟩
  rw [hlen] at hl1 hl2
  have HL : Hid (p.t.args.length = len) := hlen
  clear hlen
  have hmk := fun w => make25 w len hl2
  go_enter Tryd.func79, Tryd.ntmps79
  go_wp2_with (go_at_call 78; refine hcall.mono ?_; rintro e w4 ⟨rfl, w2, w3, oa, ol, oc, hb2, hR, hb3, hw4⟩)
  have hb13 := (hb1.trans (hb2.mono hb1.size)).trans (hb3.mono ((hb1.trans (hb2.mono hb1.size)).size))
  have hb1' := hb2.trans (hb3.mono hb2.size)
  obtain ⟨w4, hw4, K4⟩ : ∃ w4, put5 w3 tb toff (.int .i64 p.t.k) (.int .i64 p.t.n) (.string p.t.s) (.slice oa ol oc) (.slice none 0 0) = w4 ∧ Keep w3 w4 (fun k => k = tb) := ⟨_, rfl, put5_keep _ _ _ _ _ _ _ _⟩
  have H4 : Hole w4 tb toff := by rw [← hw4]; exact (hh.on hb13).put5 _ _ _ _ _ _ _
  have X4 := (X1.below hb1' X1.lt).keep K4 (by omega)
  have U4 := (hJ.blk.below hb13 hlu).keep K4 (fun e => hne e.symm)
  have row4 : w4.ownsRow B 114 4 jv js.length (Jobs.cells js) := owns_block (owns_below hJ.row hb13) (fun g e => K4.block g (by have := (owns_own hJ.row e).2; have := hb13.size; omega) (fun h => hjt (h ▸ e)))
  have C4 := (hc.on hb13).carry (K4.block p.b (hc.on hb13).lt (by omega))
  have c4 := C4.c4
  rw [HL.out] at c4
  have a0 := X4.cell (j := 0) rfl
  have a3 := X4.cell (j := 3) rfl
  obtain ⟨h4, e4⟩ := H4.cell (i := 4) (by omega)
  have g4 := H4.frozen (toff + 4)
  have lt4 := H4.lt
  have lx4 := X4.lt
  have lc4 := C4.lt
  have nA : w.heap.size ≠ tb := by omega
  have nB : p.b ≠ tb := by omega
  have nA' : tb ≠ w.heap.size := by omega
  have nB' : tb ≠ p.b := by omega
  have HW : Hid (put5 w3 tb toff (.int .i64 p.t.k) (.int .i64 p.t.n) (.string p.t.s) (.slice oa ol oc) (.slice none 0 0) = w4) := hw4
  rw [hw4]
  clear hw4 hcall hcop x0 x1 x2 x3
  go_region_held3 (fun w' => w'.cell? ⟨w.heap.size, 0, none⟩ = some (.pointer (some ⟨p.b, p.off, none⟩)) ∧ w'.cell? ⟨w.heap.size, 3, none⟩ = some (.pointer (some ⟨tb, toff, none⟩)) ∧ w'.cell? ⟨p.b, p.off + 4, none⟩ = some (.slice p.t.a len p.t.c)) (go_keep) (fail)
  obtain ⟨nb, hnb⟩ : ∃ nb, w4.heap.size = nb := ⟨_, rfl⟩
  rw [hnb]
  obtain ⟨w5, hw5, K5⟩ : ∃ w5, w4.setCell ⟨tb, toff + 4, none⟩ (.slice (some ⟨nb, 0, none⟩) len len) = w5 ∧ Keep w4 w5 (fun k => k = tb) := ⟨_, rfl, (Keep.refl w4 (fun k => k = tb)).setCell (g := tb) (fun _ => rfl) _ _⟩
  have hs5 : w5.heap.size = nb := by rw [← hw5, ← hnb]; simp [World.setCell]
  have q5 : w5.cell? ⟨tb, toff + 4, none⟩ = some (.slice (some ⟨nb, 0, none⟩) len len) := by rw [← hw5]; exact World.cell?_setCell_same _ _ _ (by rw [e4])
  rw [hw5]
  obtain ⟨w7, hw7, hb7, holes7, hs7, hty7⟩ : ∃ w7, (w5.alloc (.cells (zeros5 len) 25)).drew = w7 ∧ Below w5.heap.size w5 w7 ∧ (∀ i, i < len → Hole w7 nb (i * 5)) ∧ w7.heap.size = nb + 1 ∧ w7.heap[nb]? = some (.cells (zeros5 len) 25 (0, 0)) := by
    obtain ⟨w6, h6, hb6, ho6, hs6, hy6⟩ := made25 w5 len
    exact ⟨_, rfl, by rw [h6]; exact bel_drew hb6, fun i hi => by rw [h6, ← hs5]; exact (ho6 i hi).carry rfl, by rw [h6, ← hs5]; exact hs6, by rw [h6, ← hs5]; exact hy6⟩
  rw [hw7]
  have HY : Hid (w7.heap[nb]? = some (.cells (zeros5 len) 25 (0, 0))) := hty7
  clear hty7
  have X7 := (X4.keep K5 nA).below hb7 (X4.keep K5 nA).lt
  have U7 := (U4.keep K5 (fun e => hne e.symm)).below hb7 (U4.keep K5 (fun e => hne e.symm)).lt
  have k7 : ∀ i, i < w4.heap.size → i ≠ tb → w7.heap[i]? = w4.heap[i]? := fun i hi hn => (hb7.block i (by omega)).trans (K5.block i hi hn)
  have row7 : w7.ownsRow B 114 4 jv js.length (Jobs.cells js) := owns_block row4 (fun g e => k7 g (owns_own row4 e).2 (fun h => hjt (h ▸ e)))
  have q7 := ((bcell hb7).1 tb (toff + 4) (by omega)).trans q5
  have hsz7 : w.heap.size ≤ w4.heap.size := by have := hb13.size; have := K4.size; omega
  have C7 := C4.carry (k7 p.b lc4 nB)
  have I7 : TIn w7 (· < B) p.t := TIn.carry (fun b hb => (k7 b (by have : b < B := hb; omega) (by have : b < B := hb; omega)).trans ((K4.block b (by have : b < B := hb; have := hb13.size; omega) (by have : b < B := hb; omega)).trans (hb13.block b (by have : b < B := hb; omega)))) (fun _ h => h) p.t hin
  have T7 : Tabs w7 := hT.carry (fun k hk => (k7 k (by have := hT.lt; omega) (by have := hT.lt; omega)).trans ((K4.block k (by have := hT.lt; have := hb13.size; omega) (by have := hT.lt; omega)).trans (hb13.block k (by have := hT.lt; omega))))
  have z3 := X7.cell (j := 3) rfl
  go_wp2_with fail
  obtain ⟨i114, hi114, hz114, hs114, hb114⟩ := info114
  go_loopw [26] (fun i wr => ∃ (j : Nat) (v : Value), j ≤ len ∧ i = .int .i64 (j : Int) ∧ BI w7 wr B gu nb fv jv js p j v) (fun i _ => len - (intOf i).toNat)
  case atStart => exact ⟨0, jv, Nat.zero_le _, rfl, ⟨⟨U7, by simpa [Jobs.push] using row7⟩, .inl rfl, Keep.refl _ _⟩⟩
  case round =>
    obtain ⟨j, v, hjl, rfl, I⟩ := hrel
    by_cases hje : j = len
    · subst hje
      go_wp2_with fail
      go_end0
      have hty : ∃ cs, wr.heap[nb]? = some (.cells cs 25 (0, 0)) := ⟨_, (I.keep.block nb (by omega) (fun h => h.elim (fun e => by have := U4.lt; omega) (fun e => by have := (owns_own hJ.row e).2; omega))).trans HY.out⟩
      refine ⟨rfl, w2, w3, oa, ol, oc, nb, v, hb1.trans (hb2.mono hb1.size), hR, hb3, by have := K4.size; omega, hty, fun i hi => ?_, ?_, I.own, ?_⟩
      · refine (holes7 i (by rw [HL.out] at hi; exact hi)).keep I.keep (fun h => h.elim (fun e => ?_) (fun e => ?_))
        · have := U4.lt; omega
        · have := (owns_own hJ.row e).2; omega
      · have := I.row; rwa [← HL.out, List.take_length] at this
      · rw [HW.out, HL.out, hw5]
        exact (Keep.of_below hb7 (Nat.le_refl _)).trans I.keep (fun _ _ h => h)
    · have hjlt : j < len := by omega
      obtain ⟨T, hget⟩ : ∃ T, p.t.args[j]? = some T := ⟨_, List.getElem?_eq_getElem (by rw [HL.out]; exact hjlt)⟩
      have hkz := I.keep.size
      obtain ⟨ao, cap, hv⟩ := owns_sl I.row.row
      have hpl : (Jobs.push p nb (p.t.args.take j) 0 js).length = js.length + j := by rw [Jobs.push_len, List.length_take, HL.out, Nat.min_eq_left hjl]
      obtain ⟨n, hn⟩ : ∃ n, (Jobs.push p nb (p.t.args.take j) 0 js).length = n := ⟨_, rfl⟩
      obtain ⟨jj, hjj⟩ : ∃ jj, Jobs.push p nb (p.t.args.take j) 0 js = jj := ⟨_, rfl⟩
      have U := I.row.blk
      have row := I.row.row
      rw [hn] at hv row hpl
      rw [hjj] at row
      have hnl : n ≤ js.length + j := by omega
      have HN : Hid ((Jobs.push p nb (p.t.args.take j) 0 js).length = n) := hn
      have HJ : Hid (Jobs.push p nb (p.t.args.take j) 0 js = jj) := hjj
      clear hn hpl hjj
      subst hv
      have nS : ∀ k, k < w7.heap.size → k ≠ gu → jv.ownBlock ≠ some k → wr.heap[k]? = w7.heap[k]? := fun k h1 h2 h3 => I.keep.block k h1 (fun h => h.elim h2 h3)
      have ownlt : ∀ k, jv.ownBlock = some k → B ≤ k ∧ k < w.heap.size := fun k e => owns_own hJ.row e
      have Xr := X7.carry (nS _ X7.lt (by omega) (fun e => by have := ownlt _ e; omega))
      have Cr := C7.carry (nS _ C7.lt (by omega) (fun e => by have := ownlt _ e; omega))
      have Ir : TIn wr (· < B) p.t := TIn.carry (fun b hb => nS b (by have : b < B := hb; omega) (by have : b < B := hb; omega) (fun e => by have : b < B := hb; have := ownlt _ e; omega)) (fun _ h => h) p.t I7
      have Tr_ : Tabs wr := T7.carry (fun k hk => nS k (by omega) (by omega) (fun e => by have := ownlt _ e; omega))
      have qr : wr.cell? ⟨tb, toff + 4, none⟩ = some (.slice (some ⟨nb, 0, none⟩) len len) := (World.cell?_of_block (nS tb (by omega) hne hjt)).trans q7
      have hcall := arg_any p j T wr.drew (· < B) (Tr_.carry (fun _ _ => rfl)) (Cr.carry rfl) Ir.drew hget hd hm
      have b0 := Xr.cell (j := 0) rfl
      have b1 := Xr.cell (j := 1) rfl
      have b2 := Xr.cell (j := 2) rfl
      have b3 := Xr.cell (j := 3) rfl
      have u2 := U.cell (j := 2) rfl
      have lu := U.lt
      obtain ⟨kb, koff, kd, km, hK⟩ : ∃ kb koff kd km, p.kid j T = ⟨kb, koff, T, kd, km⟩ := ⟨_, _, _, _, rfl⟩
      rw [hK] at hcall
      have HK : Hid (p.kid j T = ⟨kb, koff, T, kd, km⟩) := hK
      clear hK
      simp only [Pt.val] at hcall
      have lt7 : tb < wr.heap.size := by omega
      have lx7 : w.heap.size < wr.heap.size := by omega
      have hii : (j : Int) < (len : Int) := by omega
      go_wp2_with fail
      go_region_law (first
        | (refine step_call (by rfl) 83 enter83 (.tmp 35) (.tmp 36) #[50, 3] (by rfl) _ _ (by rfl) (by rfl) (hcall.mono ?_); rintro e w8 ⟨rfl, hb8'⟩; refine ⟨_, rfl, ?_⟩; have hb8 : Below wr.heap.size wr w8 := Below.trans (Below.refl _ _).drew hb8'; have U8 := U.below hb8 U.lt; have X8 := Xr.below hb8 Xr.lt; have s0 := X8.cell (j := 0) rfl; have s1 := X8.cell (j := 1) rfl; have s2 := X8.cell (j := 2) rfl; have s3 := X8.cell (j := 3) rfl; have q8 := ((bcell hb8).1 tb (toff + 4) lt7).trans qr; have y2 := U8.cell (j := 2) rfl; have hs8 := hb8.size; obtain ⟨w9, hw9, hb9, X9, hs9⟩ := one_new w8 [.pointer (some ⟨kb, koff, none⟩), .int .i64 (kd : Int), .int .i64 (km : Int), .pointer (some ⟨nb, j * 5, none⟩)] 114; have U9 := U8.below hb9 U8.lt; have t2 := U9.cell (j := 2) rfl)
        | (refine step_append_own (by rfl) (.tmp 33) (.tmp 46) 69 (by rfl) B 114 i114 _ 4 32 Tryd.underlying69 hi114 hz114 hs114 hb114 (by rfl) (by decide) (.slice ao n cap) n (Jobs.cells jj) (by rfl) (owns_below (owns_below row hb8) hb9) ⟨w8.heap.size, 0, none⟩ 1 1 [.pointer (some ⟨kb, koff, none⟩), .int .i64 (kd : Int), .int .i64 (km : Int), .pointer (some ⟨nb, j * 5, none⟩)] (by rfl) (by rfl) (fun i u hu => by rw [Addr.add_lit, Nat.zero_add]; exact X9.cell hu) (by simp [Value.oneCell']) (by unfold maxLen; omega) (by omega) (by omega) (by decide) ?_; intro v' w10 ho10 hg10 hn10; obtain ⟨g', c', rfl, hg'1, hg'2, hg'3, hg'4⟩ := owns_shape ho10 (by omega); have U10 := U9.carry (hg10.block gu U9.lt (fun e => owns_ne (owns_below (owns_below row hb8) hb9) U9 (by decide) e.symm)); have t3 := U10.cell (j := 2) rfl; have t4 := U10.frozen 2))
      all_goals
        go_wp2_with fail
        go_roundw
        case rel => exact ⟨j + 1, _, by omega, by simp, I.step hs7 hget HN.out HK.out hb8 hb9 hg10 (by rw [HJ.out]; exact ho10) hn10 U10⟩
        case measure => simp [intOf]; omega
end Go.Proofs.YtbmijpjmdpdfkaaDoor
