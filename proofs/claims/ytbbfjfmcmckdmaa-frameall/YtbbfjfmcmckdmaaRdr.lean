/- A frame.Reader in memory; the walks of its New, take, spoil, tidy and Waits. No condition but that what waits is no longer than 2^30. -/
import Derived.Test.YtbbfjfmcmckdmaaLists
import Derived.Test.YtbbfjfmcmckdmaaPlain
namespace Go.Proofs.Ytbbfjfmcmckdmaa
open Go.RowKit

/-- All blocks that were there stay as they were, but those in S. -/
structure Keep (w w' : World) (S : Nat → Prop) : Prop where
  os : w'.os = w.os
  tape : w'.tape = w.tape
  output : w'.output = w.output
  size : w.heap.size ≤ w'.heap.size
  block : ∀ k, k < w.heap.size → ¬ S k → w'.heap[k]? = w.heap[k]?

theorem Keep.refl (w : World) (S : Nat → Prop) : Keep w w S := ⟨rfl, rfl, rfl, Nat.le_refl _, fun _ _ _ => rfl⟩
theorem Keep.trans {a b c : World} {S T : Nat → Prop} (h : Keep a b S) (k : Keep b c T) (hT : ∀ i, i < a.heap.size → T i → S i) : Keep a c S :=
  ⟨k.os.trans h.os, k.tape.trans h.tape, k.output.trans h.output, Nat.le_trans h.size k.size, fun i hi hS => (k.block i (Nat.lt_of_lt_of_le hi h.size) (fun ht => hS (hT i hi ht))).trans (h.block i hi hS)⟩
theorem Keep.mono {a b : World} {S T : Nat → Prop} (h : Keep a b S) (hT : ∀ i, S i → T i) : Keep a b T := ⟨h.os, h.tape, h.output, h.size, fun i hi hS => h.block i hi (fun x => hS (hT i x))⟩
theorem Keep.of_below {B : Nat} {w w' : World} {S : Nat → Prop} (h : Below B w w') (hB : w.heap.size ≤ B) : Keep w w' S := ⟨h.os, h.tape, h.output, h.size, fun i hi _ => h.block i (Nat.lt_of_lt_of_le hi hB)⟩
theorem Keep.of_grown {w w' : World} {row : Option Nat} {S : Nat → Prop} (h : w.grownBy w' row) (hr : ∀ k, row = some k → S k) : Keep w w' S := ⟨h.os, h.tape, h.output, h.size, fun i hi hS => h.block i hi (fun e => hS (hr i e.symm))⟩
theorem Keep.of_setCell (w : World) {S : Nat → Prop} {g : Nat} (hS : S g) (j : Nat) (v : Value) : Keep w (w.setCell ⟨g, j, none⟩ v) S :=
  Keep.of_grown (grown_setCell w g j v) (fun k hk => by simp at hk; subst hk; exact hS)
theorem Keep.setCell {a w : World} {S : Nat → Prop} (h : Keep a w S) {g : Nat} (hS : g < a.heap.size → S g) (j : Nat) (v : Value) : Keep a (w.setCell ⟨g, j, none⟩ v) S :=
  h.trans (Keep.of_setCell w (S := fun k => k = g) rfl j v) (fun i hi e => by subst e; exact hS hi)
theorem Keep.alloc {a w : World} {S : Nat → Prop} (h : Keep a w S) (o : Obj) : Keep a (w.alloc o) S :=
  h.trans (Keep.of_below (S := fun _ => False) ((Below.refl _ _).alloc (Nat.le_refl _) o) (Nat.le_refl _)) (fun _ _ e => e.elim)
theorem Keep.drewN {a w : World} {S : Nat → Prop} (h : Keep a w S) (n : Nat) : Keep a (w.drewN n) S := ⟨h.os, h.tape, h.output, h.size, h.block⟩
theorem Keep.below {B : Nat} {w w' : World} {S : Nat → Prop} (h : Keep w w' S) (hB : B ≤ w.heap.size) (hS : ∀ k, S k → B ≤ k) : Below B w w' :=
  ⟨h.os, h.tape, h.output, h.size, fun k hk => h.block k (Nat.lt_of_lt_of_le hk hB) (fun s => by have := hS k s; omega)⟩

theorem Keep.low {a b c : World} {S : Nat → Prop} {B : Nat} (h : Keep a b S) (k : Below B b c) (hB : a.heap.size ≤ B) : Keep a c S :=
  ⟨k.os.trans h.os, k.tape.trans h.tape, k.output.trans h.output, Nat.le_trans h.size k.size, fun i hi hS => (k.block i (by omega)).trans (h.block i hi hS)⟩
theorem AppV.keep {e : TypeId} {B : Nat} {w w' : World} {ao : Option Addr} {n cap : Nat} {vs : List Value} {S : Nat → Prop} (h : AppV e B w ao n cap vs) (hk : Keep w w' S) (hS : ∀ k, S k → k < B) : AppV e B w' ao n cap vs :=
  h.imp id fun ⟨g, h1, h2⟩ => ⟨g, h1, h2.carry (hk.block g h2.lt (fun s => by have := hS g s; have := h2.new; omega))⟩

/-- A Reader's cells. -/
def rcells (ao : Option Addr) (n cap e : Nat) : List Value := [.bool true, .slice ao n cap, .int .i64 (e : Int)]

/-- Where what waits may lie: nowhere, or not in block g. -/
def Wa (ao : Option Addr) (n cap g : Nat) : Prop := (ao = none ∧ n = 0 ∧ cap = 0) ∨ ∃ b off, ao = some ⟨b, off, none⟩ ∧ b ≠ g

theorem Rd.other {w : World} {ao : Option Addr} {n cap g : Nat} {bs : List UInt8} (h : Rd w ao n cap bs) (ha : Wa ao n cap g) (j : Nat) (v : Value) : Rd (w.setCell ⟨g, j, none⟩ v) ao n cap bs :=
  ⟨h.len, h.le, h.max, h.nil, fun a he i u hu => by
    rcases ha with ⟨rfl, _, _⟩ | ⟨b, off, rfl, hne⟩
    · cases he
    · obtain rfl : ⟨b, off, none⟩ = a := by simpa using he
      have := h.cells _ rfl i u hu
      rw [Addr.add_lit] at this ⊢
      exact (World.cell?_of_block (Below.heap_setCell w _ v b (by simpa using hne))).trans this⟩

theorem Rd.none_nil {w : World} {n cap : Nat} {bs : List UInt8} (h : Rd w none n cap bs) : n = 0 ∧ cap = 0 ∧ bs = [] := by
  have h1 := h.nil rfl
  have h2 := h.le
  have h3 := h.len
  exact ⟨by omega, h1, List.eq_nil_of_length_eq_zero (by omega)⟩

/-- What waits: nothing, or a row of its own, in block q. -/
def Wt (w : World) (q : Option Nat) (ao : Option Addr) (n cap : Nat) (ws : List UInt8) : Prop := (q = none ∧ ao = none ∧ n = 0 ∧ cap = 0 ∧ ws = []) ∨ ∃ b, q = some b ∧ ao = some ⟨b, 0, none⟩ ∧ Own 5 0 w b n cap ws

theorem Wt.rd {w : World} {q : Option Nat} {ao : Option Addr} {n cap : Nat} {ws : List UInt8} (h : Wt w q ao n cap ws) : Rd w ao n cap ws := by
  rcases h with ⟨_, rfl, rfl, rfl, rfl⟩ | ⟨b, _, rfl, h⟩
  · exact Rd.none' w none
  · exact h.rd
theorem Wt.wa {w : World} {q : Option Nat} {g : Nat} {ao : Option Addr} {n cap : Nat} {ws : List UInt8} (h : Wt w q ao n cap ws) (hq : q ≠ some g) : Wa ao n cap g := by
  rcases h with ⟨_, rfl, rfl, rfl, rfl⟩ | ⟨b, rfl, rfl, h⟩
  · exact .inl ⟨rfl, rfl, rfl⟩
  · exact .inr ⟨b, 0, rfl, fun e => hq (by rw [e])⟩
theorem Wt.carry {w w' : World} {q : Option Nat} {ao : Option Addr} {n cap : Nat} {ws : List UInt8} (h : Wt w q ao n cap ws) (hb : ∀ b, q = some b → b < w.heap.size → w'.heap[b]? = w.heap[b]?) : Wt w' q ao n cap ws :=
  h.imp id fun ⟨b, h0, h1, h2⟩ => ⟨b, h0, h1, h2.carry (hb b h0 h2.lt)⟩

/-- Block g is a Reader; what waits lies in block q, if anywhere. -/
structure FR (w : World) (g : Nat) (q : Option Nat) (s : RS) : Prop where
  ne : q ≠ some g
  len : s.1.length ≤ 1073741824
  err : s.2 ≤ 5
  row : ∃ ao n cap, Blk w g 48 (rcells ao n cap s.2) ∧ Wt w q ao n cap s.1

theorem FR.lt {w : World} {g : Nat} {q : Option Nat} {s : RS} (h : FR w g q s) : g < w.heap.size := by
  obtain ⟨_, _, _, h1, _⟩ := h.row
  exact h1.lt
theorem FR.qlt {w : World} {g : Nat} {q : Option Nat} {s : RS} (h : FR w g q s) {b : Nat} (hb : q = some b) : b < w.heap.size := by
  obtain ⟨_, _, _, _, h1⟩ := h.row
  rcases h1 with ⟨e, _⟩ | ⟨b', e, _, ho⟩
  · rw [e] at hb; cases hb
  · rw [e] at hb
    obtain rfl : b' = b := by simpa using hb
    exact ho.lt
theorem FR.carry {w w' : World} {g : Nat} {q : Option Nat} {s : RS} (h : FR w g q s) (hg : w'.heap[g]? = w.heap[g]?) (hq : ∀ b, q = some b → b < w.heap.size → w'.heap[b]? = w.heap[b]?) : FR w' g q s :=
  ⟨h.ne, h.len, h.err, by obtain ⟨ao, n, cap, h1, h2⟩ := h.row; exact ⟨ao, n, cap, h1.carry hg, h2.carry hq⟩⟩
theorem FR.keep {w w' : World} {g : Nat} {q : Option Nat} {s : RS} {S : Nat → Prop} (h : FR w g q s) (hk : Keep w w' S) (hg : ¬ S g) (hq : ∀ b, q = some b → ¬ S b) : FR w' g q s :=
  h.carry (hk.block g h.lt hg) (fun b hb hl => hk.block b hl (hq b hb))

set_option maxRecDepth 100000 in
set_option maxHeartbeats 1000000 in
theorem new_any (w : World) : Calls Try.prog 10 #[] w fun e w' => ∃ g, e = .returned (.pointer (some ⟨g, 0, none⟩)) ∧ w.heap.size ≤ g ∧ FR w' g none ([], 0) ∧ Below w.heap.size w w' := by
  go_enter Try.func10, Try.ntmps10
  go_wp2_with fail
  go_ret
  exact ⟨w.heap.size, rfl, Nat.le_refl _, ⟨by simp, by simp, by simp, none, 0, 0, Blk.new w 48 _, .inl ⟨rfl, rfl, rfl, rfl, rfl⟩⟩, (Below.refl _ _).alloc (Nat.le_refl _) _⟩

set_option maxRecDepth 100000 in
set_option maxHeartbeats 1000000 in
theorem waits_any (g : Nat) (q : Option Nat) (s : RS) (w : World) (h : FR w g q s) :
    Calls Try.prog 16 #[.pointer (some ⟨g, 0, none⟩)] w fun e w' => e = .returned (.int .i64 (s.1.length : Int)) ∧ w = w' := by
  obtain ⟨ao, n, cap, hB, hW⟩ := h.row
  have hc := hB.cell (j := 1) rfl
  have hl := hW.rd.len
  go_enter Try.func16, Try.ntmps16
  go_wp2_with fail
  go_ret
  exact ⟨by rw [hl]; rfl, rfl⟩

/-- What take leaves: the text, and what waits behind it. -/
structure Took (w w' : World) (g : Nat) (ao : Option Addr) (n cap : Nat) (ws t : List UInt8) (m : Nat) (a : Option Addr) (c : Nat) (ao2 : Option Addr) (cap2 : Nat) : Prop where
  res : Res 5 w.heap.size w' a t.length c t
  blk : Blk w' g 48 (rcells ao2 (n - m) cap2 0)
  rd : Rd w' ao2 (n - m) cap2 (ws.drop m)
  wa : Wa ao2 (n - m) cap2 g
  same : m = 0 → ao2 = ao ∧ cap2 = cap
  low : ∀ L, Low n ao L → Low (n - m) ao2 L
  keep : Keep w w' (fun k => k = g)
def Took2 (w w' : World) (g : Nat) (ao : Option Addr) (n cap : Nat) (ws t : List UInt8) (m : Nat) (a : Option Addr) (c : Nat) : Prop := ∃ ao2 cap2, Took w w' g ao n cap ws t m a c ao2 cap2

set_option maxRecDepth 100000 in
set_option maxHeartbeats 1000000 in
theorem take_any (g : Nat) (ao : Option Addr) (n cap : Nat) (ws : List UInt8) (w : World) (hB : Blk w g 48 (rcells ao n cap 0)) (hR : Rd w ao n cap ws) (hA : Wa ao n cap g) (hn : n ≤ 1073741824) (t : List UInt8) (m er : Nat) (ht : t1 ws = (t, m, er)) :
    Calls Try.prog 23 #[.pointer (some ⟨g, 0, none⟩)] w fun e w' => ∃ a c, e = .returned (.tuple #[.slice a t.length c, .int .i64 (er : Int)]) ∧ Took2 w w' g ao n cap ws t m a c := by
  have hm : m ≤ n := by
    rw [← hR.len]
    by_cases h0 : er = 0
    · have := t1_pos ws (by rw [ht]; exact h0)
      rw [ht] at this
      exact this.2
    · have := t1_none ws (by rw [ht]; exact h0)
      rw [ht] at this
      have := this.2
      simp only at this
      omega
  have hle := hR.le
  have hmx := hR.max
  unfold maxLen at hmx
  have hg := hB.lt
  have hc := hB.cell (j := 1) rfl
  go_enter Try.func23, Try.ntmps23
  go_wp2_with fail
  refine (takeText_at hR (by omega) (by omega) (by omega) (show tt ws 65536 = (t, m, er) from ht)).mono ?_
  rintro e w1 ⟨a, c, rfl, hres, hb⟩
  have hB1 := hB.below hb hg
  have hR1 := hR.below hb (Nat.le_refl _)
  have hc1 := hB1.cell (j := 1) rfl
  have hf1 := hB1.frozen 1
  have hz1 := hb.size
  clear hc
  have fin : ∀ ao2 cap2, Rd w1 ao2 (n - m) cap2 (ws.drop m) → Wa ao2 (n - m) cap2 g → (m = 0 → ao2 = ao ∧ cap2 = cap) → (∀ L, Low n ao L → Low (n - m) ao2 L) → Took2 w (w1.setCell ⟨g, 1, none⟩ (.slice ao2 (n - m) cap2)) g ao n cap ws t m a c := by
    intro ao2 cap2 r1 r2 r3 r4
    exact ⟨ao2, cap2, hres.carry (fun k hk1 _ => Below.heap_setCell w1 _ _ k (by simp; omega)), hB1.set 1 _, r1.other r2 1 _, r2, r3, r4, Keep.setCell (S := fun k => k = g) (g := g) (Keep.of_below hb (Nat.le_refl _)) (fun _ => rfl) 1 _⟩
  rcases hA with ⟨rfl, rfl, rfl⟩ | ⟨b, off, rfl, hne⟩
  · obtain rfl : m = 0 := by omega
    have fin0 := fin none 0 (by simpa using hR1) (.inl ⟨rfl, rfl, rfl⟩) (fun _ => ⟨rfl, rfl⟩) (fun L _ h0 => by omega)
    have FIN : Hid _ := fin0
    clear fin fin0
    go_wp2_with fail
    go_ret2
    exact ⟨a, c, rfl, FIN.out⟩
  · have hr := hR1.rest m hm
    by_cases h0 : cap = m
    · subst h0
      rw [if_pos rfl] at hr
      have FIN : Hid _ := fin _ _ hr (.inr ⟨b, off, rfl, hne⟩) (fun h0 => ⟨rfl, by omega⟩) (fun L hL h0 x hx => hL (by omega) x hx)
      rw [Nat.sub_self, show n - cap = 0 by omega] at FIN
      clear fin hr
      go_wp2_with fail
      go_ret2
      exact ⟨a, c, rfl, FIN.out⟩
    · rw [if_neg h0] at hr
      have FIN : Hid _ := fin _ _ hr (.inr ⟨b, off + m, rfl, hne⟩) (fun h0 => by subst h0; exact ⟨rfl, by omega⟩) (fun L hL h0 x hx => by
        have h1 := hL (by omega) ⟨b, off, none⟩ rfl
        obtain rfl : ⟨b, off + m, none⟩ = x := by simpa using hx
        exact h1)
      clear fin hr
      go_wp2_with fail
      go_ret2
      exact ⟨a, c, rfl, FIN.out⟩

set_option maxRecDepth 100000 in
set_option maxHeartbeats 1000000 in
theorem spoil_r (g : Nat) (ao : Option Addr) (n cap e : Nat) (w : World) (hB : Blk w g 48 (rcells ao n cap 0)) :
    Calls Try.prog 24 #[.pointer (some ⟨g, 0, none⟩), .int .i64 (e : Int)] w fun x w' => x = .returned (.tuple #[]) ∧ Blk w' g 48 (rcells none 0 0 e) ∧ Keep w w' (fun k => k = g) := by
  have hc1 := hB.cell (j := 1) rfl
  have hc2 := hB.cell (j := 2) rfl
  have hf1 := hB.frozen 1
  have hf2 := hB.frozen 2
  go_enter Try.func24, Try.ntmps24
  go_wp2_with fail
  go_end0
  exact ⟨rfl, (hB.set 2 _).set 1 _, Keep.setCell (S := fun k => k = g) (g := g) (Keep.setCell (S := fun k => k = g) (g := g) (Keep.refl w _) (fun _ => rfl) 2 _) (fun _ => rfl) 1 _⟩

set_option maxRecDepth 100000 in
set_option maxHeartbeats 1000000 in
theorem tidy_any (g : Nat) (ao : Option Addr) (n cap : Nat) (ws : List UInt8) (w : World) (hB : Blk w g 48 (rcells ao n cap 0)) (hR : Rd w ao n cap ws) (hn : n ≤ 1073741824) :
    Calls Try.prog 25 #[.pointer (some ⟨g, 0, none⟩)] w fun x w' => x = .returned (.tuple #[]) ∧ ∃ q ao2 cap2, Blk w' g 48 (rcells ao2 n cap2 0) ∧ (∀ b, q = some b → w.heap.size ≤ b) ∧ Wt w' q ao2 n cap2 ws ∧ Keep w w' (fun k => k = g) := by
  obtain ⟨i5, hi, hz0, hz1, hz2⟩ := info_parts Try.info5
  have hg := hB.lt
  have hc1 := hB.cell (j := 1) rfl
  have hf1 := hB.frozen 1
  by_cases h0 : n = 0
  · subst h0
    obtain rfl : ws = [] := List.eq_nil_of_length_eq_zero hR.len
    go_enter Try.func25, Try.ntmps25
    go_wp2_with (at_builtin; refine wpList_append_none (P := Try.prog) _ (by rfl) _ _ 28 28 (by rfl) 5 5 i5 Try.underlying28 Try.underlying28 hi (by rfl) (by rfl) ?_)
    go_end0
    exact ⟨rfl, none, none, 0, hB.set 1 _, (fun b hb => by cases hb), .inl ⟨rfl, rfl, rfl, rfl, rfl⟩, Keep.setCell (S := fun k => k = g) (g := g) (Keep.refl w _) (fun _ => rfl) 1 _⟩
  · go_enter Try.func25, Try.ntmps25
    go_wp2_with (at_builtin; refine wpList_append_bytes (P := Try.prog) _ (by rfl) _ _ 28 28 (by rfl) 5 i5 Try.underlying28 hi hz0 hz1 hz2 w.heap.size (Nat.le_refl _) (by rfl) (App.nil 5 _ _) ws (by rfl) (hR.src _ Try.underlying28) (.inl (by omega)) (by omega) ?_; intro q cap2 w1 ho1 hb1 hg1 hw1; have hB1 := hB.below hb1 hg; have hc2 := hB1.cell (j := 1) rfl; have hf2 := hB1.frozen 1)
    go_end0
    have hq := ho1.new
    refine ⟨rfl, some q, some ⟨q, 0, none⟩, cap2, ?_, (fun b hb => by simp at hb; omega), .inr ⟨q, rfl, rfl, ?_⟩, Keep.setCell (S := fun k => k = g) (g := g) (Keep.of_below hb1 (Nat.le_refl _)) (fun _ => rfl) 1 _⟩
    · exact hB1.set 1 (.slice (some ⟨q, 0, none⟩) n cap2)
    · have := (ho1.mono (Nat.zero_le _)).carry (w' := w1.setCell ⟨g, 1, none⟩ (.slice (some ⟨q, 0, none⟩) (0 + n) cap2)) (Below.heap_setCell w1 _ _ q (by simp; omega))
      simpa using this
end Go.Proofs.Ytbbfjfmcmckdmaa
