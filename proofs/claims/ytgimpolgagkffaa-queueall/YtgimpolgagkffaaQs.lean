/- A Queue, told as the list of what it has in the order in which it is served; the walks of New, Push, Len. No condition but sizes. -/
import Derived.Test.YtgimpolgagkffaaHp
import Derived.Deep.RegionHeld3
namespace Go.Proofs.Ytgimpolgagkffaa
open Go.RowKit

/-- Block g is a Queue whose row lies in block q, if anywhere, that has S, in this order, and was pushed n times. -/
structure QS (w : World) (g : Nat) (q : Option Nat) (S : List En) (n : Nat) : Prop where
  is : ∃ v L, QH w g n v L ∧ v.ownBlock = q ∧ L.Perm S
  srt : Srt S
  turns : ∀ x ∈ S, x.turn < n
  len : S.length ≤ 256

theorem QS.glt {w : World} {g : Nat} {q : Option Nat} {S : List En} {n : Nat} (h : QS w g q S n) : g < w.heap.size := by
  obtain ⟨v, L, h1, _, _⟩ := h.is
  exact h1.blk.lt
theorem QS.qlt {w : World} {g : Nat} {q : Option Nat} {S : List En} {n : Nat} (h : QS w g q S n) {b : Nat} (hb : q = some b) : b < w.heap.size := by
  obtain ⟨v, L, h1, h2, _⟩ := h.is
  exact (owns_own h1.row (h2.trans hb)).2
theorem QS.ne {w : World} {g : Nat} {q : Option Nat} {S : List En} {n : Nat} (h : QS w g q S n) : q ≠ some g := by
  obtain ⟨v, L, h1, h2, _⟩ := h.is
  rw [← h2]; exact owns_ne h1.row h1.blk (by decide)
theorem QS.carry {w w' : World} {g : Nat} {q : Option Nat} {S : List En} {n : Nat} (h : QS w g q S n) (hg : w'.heap[g]? = w.heap[g]?) (hq : ∀ b, q = some b → w'.heap[b]? = w.heap[b]?) : QS w' g q S n := by
  obtain ⟨v, L, h1, h2, h3⟩ := h.is
  exact ⟨⟨v, L, ⟨h1.blk.carry hg, owns_block h1.row (fun b e => hq b (h2.symm.trans e)), h1.heap⟩, h2, h3⟩, h.srt, h.turns, h.len⟩
theorem QS.keep {w w' : World} {g : Nat} {q : Option Nat} {S : List En} {n : Nat} {T : Nat → Prop} (h : QS w g q S n) (hk : Keep w w' T) (hg : ¬ T g) (hq : ∀ b, q = some b → ¬ T b) : QS w' g q S n :=
  h.carry (hk.block g h.glt hg) (fun b hb => hk.block b (h.qlt hb) (hq b hb))
theorem QS.below {w w' : World} {g : Nat} {q : Option Nat} {S : List En} {n : Nat} (h : QS w g q S n) (hb : Below w.heap.size w w') : QS w' g q S n :=
  h.carry (hb.block g h.glt) (fun b e => hb.block b (h.qlt e))

set_option maxRecDepth 100000 in
set_option maxHeartbeats 1000000 in
theorem new_any (w : World) : Calls Try.prog 7 #[] w fun e w' => ∃ g, e = .returned (.pointer (some ⟨g, 0, none⟩)) ∧ w.heap.size ≤ g ∧ QS w' g none [] 0 ∧ Below w.heap.size w w' := by
  go_enter Try.func7, Try.ntmps7
  go_wp2_with fail
  go_ret
  exact ⟨w.heap.size, rfl, Nat.le_refl _, ⟨⟨.slice none 0 0, [], ⟨Blk.new w 51 _, ⟨rfl, .inl ⟨rfl, rfl⟩⟩, fun k h0 h1 => by simp at h1⟩, rfl, List.Perm.refl _⟩, List.Pairwise.nil, fun _ h => by simp at h, by simp⟩, (Below.refl _ _).alloc (Nat.le_refl _) _⟩

theorem QS.slice {w : World} {g : Nat} {q : Option Nat} {S : List En} {n : Nat} (h : QS w g q S n) : ∃ ao cap L, QH w g n (.slice ao S.length cap) L ∧ (Value.slice ao S.length cap).ownBlock = q ∧ L.Perm S := by
  obtain ⟨v, L, h1, h2, h3⟩ := h.is
  rcases h1.row.2 with ⟨h0, h4⟩ | ⟨b, cap, cur, e, _⟩
  · subst h0
    exact ⟨none, 0, L, by rw [← h3.length_eq, h4]; exact h1, by rw [← h3.length_eq, h4]; exact h2, h3⟩
  · subst e
    exact ⟨some ⟨b, 0, none⟩, cap, L, by rw [← h3.length_eq]; exact h1, by rw [← h3.length_eq]; exact h2, h3⟩

set_option maxRecDepth 100000 in
set_option maxHeartbeats 1000000 in
theorem qlen_any (g : Nat) (q : Option Nat) (S : List En) (n : Nat) (w : World) (h : QS w g q S n) : Calls Try.prog 15 #[.pointer (some ⟨g, 0, none⟩)] w fun e w' => e = .returned (.int .i64 (S.length : Int)) ∧ w = w' := by
  obtain ⟨ao, cap, L, hH, _, _⟩ := h.slice
  have c0 := hH.blk.cell (j := 0) rfl
  go_enter Try.func15, Try.ntmps15
  go_wp2_with fail
  go_ret
  exact ⟨rfl, rfl⟩

set_option maxRecDepth 100000 in
set_option maxHeartbeats 1000000 in
theorem qlen_nil (w : World) : Calls Try.prog 15 #[.pointer none] w fun e w' => e = .returned (.int .i64 0) ∧ w = w' := by
  go_enter Try.func15, Try.ntmps15
  go_wp2_with fail
  go_ret
  exact ⟨rfl, rfl⟩

set_option maxRecDepth 100000 in
set_option maxHeartbeats 1000000 in
theorem qpush_nil (a b : Int) (w : World) : Calls Try.prog 8 #[.pointer none, .agg #[.int .i64 a, .int .i64 b]] w fun e w' => e = .returned (.int .i64 1) ∧ Below w.heap.size w w' := by
  go_enter Try.func8, Try.ntmps8
  go_wp2_with fail
  go_ret
  exact ⟨rfl, (Below.refl _ _).alloc (Nat.le_refl _) _⟩

set_option maxRecDepth 100000 in
set_option maxHeartbeats 1000000 in
theorem qpush_full (g : Nat) (q : Option Nat) (S : List En) (n : Nat) (a b : Int) (w : World) (h : QS w g q S n) (hf : S.length = 256) : Calls Try.prog 8 #[.pointer (some ⟨g, 0, none⟩), .agg #[.int .i64 a, .int .i64 b]] w fun e w' => e = .returned (.int .i64 24) ∧ Below w.heap.size w w' := by
  obtain ⟨ao, cap, L, hH, _, _⟩ := h.slice
  have lg := h.glt
  have c0 := hH.blk.cell (j := 0) rfl
  rw [hf] at c0
  clear hH
  go_enter Try.func8, Try.ntmps8
  go_wp2_with fail
  go_ret
  exact ⟨rfl, (Below.refl _ _).alloc (Nat.le_refl _) _⟩

/-- What Push leaves. -/
structure QPushed (w w' : World) (g : Nat) (q q' : Option Nat) (S : List En) (n : Nat) : Prop where
  qs : QS w' g q' S n
  own : q' = q ∨ ∃ k, q' = some k ∧ w.heap.size ≤ k
  keep : Keep w w' (fun k => k = g ∨ q = some k)

set_option maxRecDepth 100000 in
set_option maxHeartbeats 1000000 in
theorem qpush_any (g : Nat) (q : Option Nat) (S : List En) (n : Nat) (a b : Int) (w : World) (h : QS w g q S n) (hf : S.length < 256) (hn : n ≤ 1000000) :
    Calls Try.prog 8 #[.pointer (some ⟨g, 0, none⟩), .agg #[.int .i64 a, .int .i64 b]] w fun e w' => e = .returned (.int .i64 0) ∧ ∃ q', QPushed w w' g q q' (ins ⟨a, b, n⟩ S) (n + 1) := by
  obtain ⟨ao, cap, L, hH, hq, hp⟩ := h.slice
  have lg := h.glt
  obtain ⟨w1, hw1, hb1, P1, hs1⟩ := one_new w [.int .i64 a, .int .i64 b] 35
  have hH1 := hH.below hb1
  have c0 := hH1.blk.cell (j := 0) rfl
  have c1 := hH1.blk.cell (j := 1) rfl
  have p0 := P1.cell (j := 0) rfl
  have p1 := P1.cell (j := 1) rfl
  have hl := hp.length_eq
  have HL : Hid _ := hl
  clear hl
  have hnq : ¬ (Value.slice ao S.length cap).ownBlock = some w.heap.size := fun e => by have := (owns_own hH.row e).2; omega
  have hlt : ¬ (256 : Int) ≤ (S.length : Int) := by omega
  have hc := hpush_any g n (.slice ao S.length cap) L ⟨a, b, n⟩ w1.drew (hH1.below (Below.refl _ _).drew) (by have := HL.out; omega)
  unfold En.val at hc
  go_enter Try.func8, Try.ntmps8
  go_wp2_with fail
  go_region_held3 (fun w' => w'.cell? ⟨g, 1, none⟩ = some (.int .i64 (n : Int)) ∧ w'.cell? ⟨w.heap.size, 0, none⟩ = some (.int .i64 a) ∧ w'.cell? ⟨w.heap.size, 1, none⟩ = some (.int .i64 b)) (go_keep)
    ((go_at_call 16; refine hc.mono ?_; rintro e w2 ⟨rfl, v', L', hH2, hp2, ho2, hk2⟩; have d1 := hH2.blk.cell (j := 1) rfl; have f1 := hH2.blk.frozen 1; have P2 := P1.drew.keep hk2 (fun e => e.elim (by omega) hnq); have b0 := P2.cell (j := 0) rfl; have b1 := P2.cell (j := 1) rfl))
  clear hc c0 c1 p0 p1 b0 b1
  have FF : Hid (∃ q', QPushed w (w2.setCell ⟨g, 1, none⟩ (.int .i64 ((n : Int) + 1))) g q q' (ins ⟨a, b, n⟩ S) (n + 1)) := by
    have hk : Keep w w2 (fun k => k = g ∨ q = some k) := ((Keep.of_below hb1 (Nat.le_refl _)).low ((Below.refl w1.heap.size _).drew) (by omega)).trans hk2 (fun i hi e => by rw [hq] at e; exact e)
    refine ⟨v'.ownBlock, ⟨⟨v', L', ⟨hH2.blk.set 1 _, owns_block hH2.row (fun k e => Below.heap_setCell _ _ _ _ (fun e' => owns_ne hH2.row hH2.blk (by decide) (by rw [e]; exact congrArg some e'))), hH2.heap⟩, rfl, hp2.trans ((hp.cons _).trans (ins_perm _ _).symm)⟩, ins_srt h.srt h.turns, fun x hx => ?_, ?_⟩, ?_, hk.setCell (g := g) (fun _ => .inl rfl) _ _⟩
    · rcases ins_mem.1 hx with rfl | hx
      · exact Nat.lt_succ_self _
      · exact Nat.lt_succ_of_lt (h.turns x hx)
    · rw [(ins_perm _ _).length_eq]; exact hf
    · rcases ho2 with e | ⟨k, e, hk'⟩
      · exact .inl (e.trans hq)
      · exact .inr ⟨k, e, by have h9 : w1.heap.size ≤ k := hk'; omega⟩
  clear hH2 hp2 ho2 hk2
  go_wp2_with fail
  go_ret
  exact ⟨rfl, FF.out⟩
end Go.Proofs.Ytgimpolgagkffaa
