/- The walk of the gauge's enters. No condition but that the gauge and the terms lie in memory, and that few were met. -/
import Derived.Test.YtemgmphddmlmlaaG1
namespace Go.Proofs.Ytemgmphddmlmlaa
open Go.RowKit

theorem info59 : ∃ i, Try.prog.info? 61 = some i ∧ i.zero = some (.agg #[.slice none 0 0, .int .i64 0, .int .i64 0, .int .i64 0]) ∧ i.size = 4 ∧ i.bytes = 48 := by
  have h : (Try.prog.info? 61).map (fun i => (i.zero, i.size, i.bytes)) = some (some (.agg #[.slice none 0 0, .int .i64 0, .int .i64 0, .int .i64 0]), 4, 48) := by kernel_rfl
  obtain ⟨i, hi, he⟩ := Option.map_eq_some_iff.1 h
  simp only [Prod.mk.injEq] at he
  exact ⟨i, hi, he⟩

theorem enters_nil {base g left met : Nat} {sp : List Sp} {v : Value} {w : World} (h : GS base g left met sp v w) (a : Option Addr) (c : Nat) :
    Calls Try.prog 23 #[.pointer (some ⟨g, 0, none⟩), .slice a 0 c] w (Went true base (GS base g left met sp v) w) := by
  go_enter Try.func23, Try.ntmps23
  go_wp2
  go_ret
  exact ⟨rfl, Below.refl _ _, Nat.le_refl _, fun _ => h⟩

theorem owns_ne2 {w : World} {base : Nat} {e t : TypeId} {size n g : Nat} {v : Value} {xs l : List Value} (h : w.ownsRow base e size v n xs) (hb : Blk w g t l) (hne : t ≠ e) : v.ownBlock ≠ some g := fun e' => by
  rcases h.2 with ⟨rfl, _⟩ | ⟨g', cap, cur, rfl, _, hcur, _⟩
  · cases e'
  · simp [Value.ownBlock] at e'
    subst e'
    unfold Blk at hb
    rw [hcur] at hb
    simp at hb
    exact hne hb.2.symm

theorem bel_grown {base : Nat} {w w' : World} {v : Value} (h : w.grownBy w' v.ownBlock) (hv : ∀ k, v.ownBlock = some k → base ≤ k) (hB : base ≤ w.heap.size) : Below base w w' :=
  ⟨h.os, h.tape, h.output, h.size, fun k hk => h.block k (by omega) (fun e => by have := hv k e.symm; omega)⟩

/-- A gauge with one list more. -/
theorem GS.push {base g left met N : Nat} {sp : List Sp} {v v' : Value} {w w6 w7 : World} (h : GS base g left met sp v w) (hN : sp.length = N) (s : Sp) (hb6 : Below base w w6) (h6 : w6.ownsRow base 61 4 v N (Sps sp)) (hB : base ≤ w6.heap.size) (B7 : Blk w7 g 48 [.int .i64 (left : Int), .int .i64 (met : Int), v, .map none, .map none, .slice none 0 0])
    (h7 : w7.ownsRow base 61 4 v' (N + 1) (Sps sp ++ s.cells)) (hg7 : w6.grownBy w7 v.ownBlock) (hs : SpOk w base s) : GS base g left met (sp ++ [s]) v' (w7.setCell ⟨g, 2, none⟩ v') ∧ Below base w (w7.setCell ⟨g, 2, none⟩ v') := by
  have b7 : Below base w w7 := hb6.trans (bel_grown hg7 (fun k e => (owns_own h6 e).1) hB)
  have b8 : Below base w (w7.setCell ⟨g, 2, none⟩ v') := b7.setCell h.bg _
  refine ⟨⟨B7.set 2 _, ?_, h.bg, fun x hx => ?_⟩, b8⟩
  · rw [Sps_append, List.length_append, hN]
    exact owns_block (by simpa [Sps] using h7) (fun k e => Below.heap_setCell _ _ _ _ (fun e2 => owns_ne2 h7 B7 (by decide) (by rw [e]; exact congrArg some e2)))
  · rcases List.mem_append.1 hx with hx | hx
    · exact (h.ok x hx).below b8
    · simp at hx; subst hx; exact hs.below b8

set_option maxRecDepth 100000 in
set_option maxHeartbeats 2000000 in
theorem enters_any {base g left met : Nat} {sp : List Sp} {v : Value} {w : World} (h : GS base g left met sp v w) (hB : base ≤ w.heap.size) (ts : List Tr) (b off c : Nat)
    (hpos : 0 < ts.length) (hle : ts.length ≤ c) (hmx : c ≤ 9223372036854775807) (hlt : b < base) (hall : TAll w (· < base) b off ts) (hm : met + ts.length ≤ 1048576) (hn : sp.length ≤ 1073741824) :
    Calls Try.prog 23 #[.pointer (some ⟨g, 0, none⟩), .slice (some ⟨b, off, none⟩) ts.length c] w (Went true base (fun w' => ∃ v', GS base g left (met + ts.length) (sp ++ [⟨ts, some ⟨b, off, none⟩, c, b, off, 0, (left : Int)⟩]) v' w') w) := by
  have c3 := over_cell (h.blk.cell (j := 3) rfl)
  have k30 : ∀ u, Calls Try.prog 29 #[.slice (some ⟨b, off, none⟩) ts.length c] (over w u) fun e w'' => e = .returned (.agg #[.pointer (some ⟨b, off, none⟩), .int .i64 (ts.length : Int)]) ∧ ∃ u', w'' = over w u' := fun u => Calls.over (spotT_any _ _ _ _ hpos)
  have hlook := lookT
  have hd0 : ((ts.length : Int) == 0) = false := by simp; intro e; rw [e] at hpos; simp at hpos
  obtain ⟨len, hlen⟩ : ∃ len, ts.length = len := ⟨_, rfl⟩
  rw [hlen] at k30 hd0 hpos hle hm ⊢
  have HLen : Hid (ts.length = len) := hlen
  clear hlen
  go_enter Try.func23, Try.ntmps23
  go_wp2_with fail
  refine wp_region_over w (Below.refl _ _) (by kernel_rfl) (by kernel_rfl) ?_
  repeat (go_big_quiet_step (first | (go_at_call 29; exact k30 _)))
  refine wpQuiet_nil ?_
  rintro _ ⟨u, rfl⟩
  have hb1 := over_below w u
  have G1 := h.carry hb1 hB
  have hz1 := hb1.size
  have hall1 := hall.below hlt (hb1.mono hB)
  generalize over w u = w5 at *
  clear hlook k30 c3 hall h
  have gl := G1.blk.cell (j := 0) rfl
  obtain ⟨wA, hwA, hbA, PA, hsA⟩ := one_new w5 ([.slice (some ⟨b, off, none⟩) len c, .int .i64 0, .int .i64 0, .int .i64 (left : Int)] : List Value) 61
  have GA := G1.carry hbA (by omega)
  have hallA := hall1.below hlt (hbA.mono (by omega))
  have kp := pays_no GA (by omega)
  go_wp2_with (go_at_call 26; refine kp.mono ?_; rintro e w4 ⟨rfl, rfl⟩)
  clear kp hwA gl
  obtain ⟨gA, hgA⟩ : ∃ gA, w5.heap.size = gA := ⟨_, rfl⟩
  rw [hgA] at PA hsA hz1 ⊢
  have bA : Below base w wA := (hb1.mono hB).trans (hbA.mono (by omega))
  have hzA : w.heap.size ≤ wA.heap.size := bA.size
  have HGA : Hid (w5.heap.size = gA) := hgA
  clear hgA hbA G1 hall1 hb1 hsA
  have hBA : base ≤ wA.heap.size := by omega
  obtain ⟨N, hN⟩ : ∃ N, sp.length = N := ⟨_, rfl⟩
  have B5 := GA.blk
  have h5 := GA.row
  rw [hN] at h5 hn
  obtain ⟨ao, cap, rfl⟩ : ∃ ao cap, v = .slice ao N cap := by
    rcases h5.2 with ⟨h0, h1⟩ | ⟨g, cap, cur, rfl, _⟩
    · exact ⟨none, 0, by rw [h0, h1]⟩
    · exact ⟨_, _, rfl⟩
  have q0 := PA.cell (j := 0) rfl
  have q1 := PA.cell (j := 1) rfl
  have q2 := PA.cell (j := 2) rfl
  have q3 := PA.cell (j := 3) rfl
  have X6 := Blk.new wA.drew 61 [.slice (some ⟨b, off, none⟩) len c, .int .i64 0, .int .i64 0, .int .i64 (left : Int)]
  have hb6 : Below wA.heap.size wA (wA.drew.alloc (.cells #[.slice (some ⟨b, off, none⟩) len c, .int .i64 0, .int .i64 0, .int .i64 (left : Int)] 61)) := ((Below.refl _ _).drew).alloc (Nat.le_refl _) _
  have h6 := owns_below h5 hb6
  have B6 := B5.below hb6 B5.lt
  have g2 := B5.cell (j := 2) rfl
  have g2' := B6.cell (j := 2) rfl
  have g3' : (wA.alloc (.cells #[.slice (some ⟨b, off, none⟩) len c, .int .i64 0, .int .i64 0, .int .i64 (left : Int)] 61)).cell? ⟨g, 2, none⟩ = some (.slice ao N cap) := (B5.alloc _).cell (j := 2) rfl
  have hbs6 : base ≤ (wA.drew.alloc (.cells #[.slice (some ⟨b, off, none⟩) len c, .int .i64 0, .int .i64 0, .int .i64 (left : Int)] 61)).heap.size := by simp; omega
  obtain ⟨i57, hi57, hz57, hs57, hb57⟩ := info59
  have HN : Hid _ := hN
  clear hN
  go_region_law (refine step_append_own (by rfl) (.tmp 50) (.tmp 52) 38 (by rfl) base 61 i57 _ 4 48 Try.underlying38 hi57 hz57 hs57 hb57 (by rfl) (by decide) (.slice ao N cap) N (Sps sp) (by rfl) h6 ⟨wA.heap.size, 0, none⟩ 1 1 [.slice (some ⟨b, off, none⟩) len c, .int .i64 0, .int .i64 0, .int .i64 (left : Int)] (by rfl) (by rfl) (fun i u hu => by rw [Addr.add_lit, Nat.zero_add]; exact X6.cell hu) (by simp [Value.oneCell']) (by unfold maxLen; omega) (by omega) hbs6 (by decide) ?_; intro v' w7 h7 hg7 hn7; obtain ⟨g', c', rfl, _, _, _, _⟩ := owns_shape h7 (by omega); have B7 := B6.carry (hg7.block g B6.lt (fun e => owns_ne2 h6 B6 (by decide) e.symm)); have r2 := B7.cell (j := 2) rfl; have rf := B7.frozen 2)
  all_goals
    have hcells : ([.slice (some ⟨b, off, none⟩) len c, .int .i64 0, .int .i64 0, .int .i64 (left : Int)] : List Value) = Sp.cells ⟨ts, some ⟨b, off, none⟩, c, b, off, 0, (left : Int)⟩ := by unfold Sp.cells; rw [HLen.out]; rfl
    rw [hcells] at h7
    obtain ⟨G8, b8⟩ := GA.push HN.out ⟨ts, some ⟨b, off, none⟩, c, b, off, 0, (left : Int)⟩ (hb6.mono (by omega)) h6 hbs6 B7 h7 hg7 ⟨by rw [HLen.out]; exact hpos, by rw [HLen.out]; exact hle, hmx, rfl, hlt, hallA, by simp⟩
    have hz8 : wA.heap.size ≤ (w7.setCell ⟨g, 2, none⟩ (.slice (some ⟨g', 0, none⟩) (N + 1) c')).heap.size := b8.size
    obtain ⟨w8, hw8⟩ : ∃ w8, w7.setCell ⟨g, 2, none⟩ (.slice (some ⟨g', 0, none⟩) (N + 1) c') = w8 := ⟨_, rfl⟩
    rw [hw8] at G8 b8 hz8 ⊢
    have km := meets_yes G8 len (by omega) (by omega)
    clear hw8 hcells h7 hg7 hn7 B7 r2 rf h6 B6 X6 hb6 hbs6 g2 g2' g3' h5 B5 hallA q0 q1 q2 q3 PA
    go_wp2_with (go_at_call 25; refine km.mono ?_; rintro e w9 ⟨rfl, G9, b9, hz9⟩)
    go_ret
    exact ⟨rfl, (bA.trans b8).trans b9, by omega, fun _ => ⟨_, G9⟩⟩

end Go.Proofs.Ytemgmphddmlmlaa
