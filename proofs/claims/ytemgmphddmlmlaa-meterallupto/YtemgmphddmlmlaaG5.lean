/- The walks of the gauge's leave and step. No condition but that the gauge and its lists lie in memory, and that few were met. -/
import Derived.Test.YtemgmphddmlmlaaG4
namespace Go.Proofs.Ytemgmphddmlmlaa
open Go.RowKit

theorem GS.drewN {base g left met : Nat} {sp : List Sp} {v : Value} {w : World} (h : GS base g left met sp v w) (n : Nat) : GS base g left met sp v (w.drewN n) :=
  ⟨h.blk.drewN n, owns_block h.row (fun _ _ => rfl), h.bg, fun s hs => (h.ok s hs).below ⟨rfl, rfl, rfl, Nat.le_refl _, fun _ _ => rfl⟩⟩

/-- Where the last list of a gauge lies. -/
theorem GS.last {base g left met : Nat} {r : List Sp} {s : Sp} {v : Value} {w : World} (h : GS base g left met (r ++ [s]) v w) :
    ∃ g' cap, v = .slice (some ⟨g', 0, none⟩) (r.length + 1) cap ∧ r.length + 1 ≤ cap ∧ cap ≤ maxLen ∧ base ≤ g' ∧ g' < w.heap.size ∧ g' ≠ g ∧ w.cell? ⟨g', r.length * 4, none⟩ = some (.slice s.a s.ts.length s.c) ∧ w.cell? ⟨g', r.length * 4 + 2, none⟩ = some (.int .i64 (s.i : Int)) ∧ w.cell? ⟨g', r.length * 4 + 3, none⟩ = some (.int .i64 s.l) ∧ w.cell? ⟨g', r.length * 4 + 1, none⟩ = some (.int .i64 0) ∧ (∀ j, w.frozen? ⟨g', j, none⟩ = false) := by
  have hr := h.row
  rw [List.length_append, List.length_singleton] at hr
  obtain ⟨g', cap, rfl, h1, h2, h3, h4⟩ := owns_shape hr (by omega)
  have at_ : ∀ j u, s.cells[j]? = some u → w.cell? ⟨g', r.length * 4 + j, none⟩ = some u := fun j u hj => by
    obtain ⟨g2, e1, _, _, _, _, e2⟩ := owns_cell hr (i := r.length * 4 + j) (c := u) (by rw [Sps_append, List.getElem?_append_right (by rw [Sps_len]; omega), Sps_len]; simpa [Sps] using hj)
    simp only [Option.some.injEq, Addr.mk.injEq, and_true] at e1
    rw [e1]; exact e2
  refine ⟨g', cap, rfl, h3, h4, h1, h2, fun e => h.ne (by rw [e]; rfl), at_ 0 _ rfl, at_ 2 _ rfl, at_ 3 _ rfl, at_ 1 _ rfl, fun j => owns_frozen hr j⟩

/-- A gauge with one list less. -/
theorem GS.pop {base g left met g' cap : Nat} {r : List Sp} {s : Sp} {w : World} (h : GS base g left met (r ++ [s]) (.slice (some ⟨g', 0, none⟩) (r.length + 1) cap) w) :
    GS base g left met r (.slice (some ⟨g', 0, none⟩) r.length cap) (w.setCell ⟨g, 2, none⟩ (.slice (some ⟨g', 0, none⟩) r.length cap)) := by
  have hr := h.row
  rw [List.length_append, List.length_singleton, Sps_append] at hr
  have hc := owns_cut hr (m := r.length) (Sps_len r) (by omega)
  exact ⟨h.blk.set 2 _, owns_block hc (fun k hk => Below.heap_setCell _ _ _ _ (fun e => h.ne (by simp at e; subst e; exact hk))), h.bg, fun x hx => (h.ok x (by simp [hx])).below ((Below.refl _ _).setCell h.bg _)⟩

set_option maxRecDepth 100000 in
set_option maxHeartbeats 400000 in
theorem leave_any {base g left met : Nat} {r : List Sp} {s : Sp} {v : Value} {w : World} (h : GS base g left met (r ++ [s]) v w) (hB : base ≤ w.heap.size) (hm : met ≤ 1048576) (hn : r.length ≤ 1073741824) :
    Calls Try.prog 24 #[.pointer (some ⟨g, 0, none⟩)] w fun e w' => e = .returned (.tuple #[]) ∧ Below base w w' ∧ w.heap.size ≤ w'.heap.size ∧ ∃ v', GS base g left met r v' w' := by
  obtain ⟨g', cap, rfl, h1, h2, h3, h4, h5, e0, e1, e2, e3, hfz⟩ := h.last
  obtain ⟨N, hN⟩ : ∃ N, r.length = N := ⟨_, rfl⟩
  obtain ⟨w1, hw1, hb1, P1, hs1⟩ := one_new w ([.slice s.a s.ts.length s.c, .int .i64 0, .int .i64 (s.i : Int), .int .i64 s.l] : List Value) 61
  have G1 := h.carry hb1 hB
  have G2 := G1.pop
  have c2 := h.blk.cell (j := 2) rfl
  have c2' := G1.blk.cell (j := 2) rfl
  have f2 := G1.blk.frozen 2
  rw [hN] at h1 e0 e1 e2 e3 G2 c2 c2' hn
  have hpos : s.ts.length ≤ s.c := (h.ok s (by simp)).le
  have hmx : s.c ≤ 9223372036854775807 := (h.ok s (by simp)).max
  have HN : Hid _ := hN
  have hB2 : Below base w (w1.setCell ⟨g, 2, none⟩ (.slice (some ⟨g', 0, none⟩) N cap)) := (hb1.mono hB).setCell h.bg _
  have hz2 : w.heap.size ≤ (w1.setCell ⟨g, 2, none⟩ (.slice (some ⟨g', 0, none⟩) N cap)).heap.size := hB2.size
  have kp := pays_no G2 hm
  have hcap : cap ≤ 9223372036854775807 := h2
  clear hN h G1 h2
  go_enter Try.func24, Try.ntmps24
  go_wp2_with fail
  refine kp.mono ?_
  rintro e w3 ⟨rfl, rfl⟩
  clear kp
  go_wp2_with fail
  go_end0
  exact ⟨rfl, hB2, hz2, _, G2⟩

/-- A gauge whose last list has gone on by one. -/
theorem GS.go {base g left met g' cap : Nat} {r : List Sp} {s : Sp} {w : World} (h : GS base g left met (r ++ [s]) (.slice (some ⟨g', 0, none⟩) (r.length + 1) cap) w) (hi : s.i < s.ts.length) :
    GS base g left met (r ++ [{ s with i := s.i + 1 }]) (.slice (some ⟨g', 0, none⟩) (r.length + 1) cap) (w.setCell ⟨g', r.length * 4 + 2, none⟩ (.int .i64 ((s.i + 1 : Nat) : Int))) := by
  have hr := h.row
  have hg : base ≤ g' := (owns_own hr rfl).1
  have hne : g' ≠ g := fun e => h.ne (by rw [e]; rfl)
  have hbel : Below base w (w.setCell ⟨g', r.length * 4 + 2, none⟩ (.int .i64 ((s.i + 1 : Nat) : Int))) := (Below.refl _ _).setCell hg _
  rw [List.length_append, List.length_singleton] at hr
  have hs := owns_set hr (r.length * 4 + 2) (.int .i64 ((s.i + 1 : Nat) : Int))
  have hc : (Sps (r ++ [s])).set (r.length * 4 + 2) (.int .i64 ((s.i + 1 : Nat) : Int)) = Sps (r ++ [{ s with i := s.i + 1 }]) := by
    rw [Sps_append, Sps_append, List.set_append_right _ _ (by rw [Sps_len]; omega), Sps_len, show r.length * 4 + 2 - r.length * 4 = 2 by omega]
    rfl
  rw [hc] at hs
  refine ⟨h.blk.other _ (fun e => hne e.symm), by simpa using hs, h.bg, fun x hx => ?_⟩
  rcases List.mem_append.1 hx with hx | hx
  · exact (h.ok x (by simp [hx])).below hbel
  · simp at hx
    subst hx
    have := (h.ok s (by simp)).below hbel
    exact ⟨this.pos, this.le, this.max, this.at_, this.lt, this.all, hi⟩

theorem enter17 (args : Array Value) (w : World) : (callFunc 17 args).run Try.prog w = .ok (.enter 17 args) w := enter_of Try.func17 (by kernel_rfl) rfl args w

set_option maxRecDepth 100000 in
set_option maxHeartbeats 400000 in
theorem step_end {base g left met : Nat} {r : List Sp} {s : Sp} {v : Value} {w : World} (h : GS base g left met (r ++ [s]) v w) (hm : met ≤ 1048576) (hn : r.length ≤ 1073741824) (hi : s.i = s.ts.length) :
    Calls Try.prog 18 #[.pointer (some ⟨g, 0, none⟩)] w (Went true base (fun w' => ∃ v', GS base g left met r v' w') w) := by
  obtain ⟨g', cap, rfl, h1, h2, h3, h4, h5, e0, e1, e2, e3, hfz⟩ := h.last
  have c2 := h.blk.cell (j := 2) rfl
  obtain ⟨N, hN⟩ : ∃ N, r.length = N := ⟨_, rfl⟩
  rw [hN] at h1 e0 e1 e2 e3 c2 hn
  have hcap : cap ≤ 9223372036854775807 := h2
  have HN : Hid _ := hN
  rw [hi] at e1
  have hwn : IntKind.i64.wrap ((N : Int) + 1 - 1) = (N : Int) := by rw [IntKind.wrap_i64]; omega
  clear hN h2
  go_enter Try.func18, Try.ntmps18
  go_wp2_with fail
  go_quiet (fail)
  have G1 := h.drewN nq
  have b1 : Below base w (w.drewN nq) := bel_drewN (Below.refl _ _) nq
  have x0 : (w.drewN nq).cell? ⟨g', N * 4, none⟩ = _ := e0
  have x1 : (w.drewN nq).cell? ⟨g', N * 4 + 2, none⟩ = _ := e1
  have hz1 : w.heap.size ≤ (w.drewN nq).heap.size := Nat.le_refl _
  clear hwn c2 e0 e1 e2 e3
  generalize w.drewN nq = wa at *
  have kl := leave_any G1 (by omega) hm (by rw [HN.out]; exact hn)
  go_wp2_with (go_at_call 24; refine kl.mono ?_; rintro e w3 ⟨rfl, b3, hz3, hG3⟩)
  go_ret
  exact ⟨rfl, b1.trans b3, by omega, fun _ => hG3⟩

set_option maxRecDepth 100000 in
set_option maxHeartbeats 1000000 in
theorem step_next {base g left met : Nat} {r : List Sp} {s : Sp} {v : Value} {w : World} (h : GS base g left met (r ++ [s]) v w) (L : Tr) (hi : s.ts[s.i]? = some L) (hm : met + L.ls.length + L.args.length ≤ 1048576) (hn : r.length < 1073741824) (hl : left ≤ 9223372036854775807) :
    Calls Try.prog 18 #[.pointer (some ⟨g, 0, none⟩)] w (Went (decide (1 ≤ left) && L.ls.all Lv.fits) base (fun w' => ∃ v', GS base g (left - 1) (met + L.ls.length + L.args.length) (pushed (r ++ [{ s with i := s.i + 1 }]) L (left - 1)) v' w') w) := by
  obtain ⟨g', cap, rfl, h1, h2, h3, h4, h5, e0, e1, e2, e3, hfz⟩ := h.last
  have hok := h.ok s (by simp)
  have hilt : s.i < s.ts.length := (List.getElem?_eq_some_iff.1 hi).1
  have hle := hok.le
  have hmx := hok.max
  have c2 := h.blk.cell (j := 2) rfl
  obtain ⟨N, hN⟩ : ∃ N, r.length = N := ⟨_, rfl⟩
  obtain ⟨i, hi'⟩ : ∃ i, s.i = i := ⟨_, rfl⟩
  rw [hN] at h1 e0 e1 e2 e3 c2 hn
  rw [hok.at_] at e0
  have hcap : cap ≤ 9223372036854775807 := h2
  have HN : Hid _ := hN
  have HI : Hid _ := hi
  rw [hi'] at e1 hilt
  have HI' : Hid _ := hi'
  have hwn : IntKind.i64.wrap ((N : Int) + 1 - 1) = (N : Int) := by rw [IntKind.wrap_i64]; omega
  have hne : ((i : Int) == (s.ts.length : Int)) = false := by simp; omega
  clear hN h2 hi hi' hok
  go_enter Try.func18, Try.ntmps18
  go_wp2_with fail
  go_quiet (fail)
  have G1 := h.drewN nq
  have b1 : Below base w (w.drewN nq) := bel_drewN (Below.refl _ _) nq
  have z0 : (w.drewN nq).cell? ⟨g', N * 4, none⟩ = _ := e0
  have z1 : (w.drewN nq).cell? ⟨g', N * 4 + 2, none⟩ = _ := e1
  have zh : (w.drewN nq).cell? ⟨g', N * 4 + 1, none⟩ = _ := e3
  have hz2 : w.heap.size ≤ (w.drewN nq).heap.size := Nat.le_refl _
  have v1 : (w.drewN nq).frozen? ⟨g', N * 4 + 2, none⟩ = false := hfz _
  clear hwn c2 e0 e1 e2 e3 hfz
  generalize w.drewN nq = wb at *
  have G3 := G1.go (by rw [HI'.out]; exact hilt)
  have hok := G3.ok { s with i := s.i + 1 } (by simp)
  obtain ⟨L1, L2⟩ := hok.all.get i L (by rw [← HI'.out]; exact HI.out)
  have b3 : Below base w (wb.setCell ⟨g', r.length * 4 + 2, none⟩ (.int .i64 ((s.i + 1 : Nat) : Int))) := b1.setCell h3 _
  obtain ⟨g2, cap2, q1, _, _, _, _, _, q0, q4, _, _, _⟩ := G3.last
  simp only [Value.slice.injEq, Option.some.injEq, Addr.mk.injEq, and_true, true_and] at q1
  obtain ⟨rfl, rfl⟩ := q1
  have hat := hok.at_
  have hlt : s.b < base := hok.lt
  simp only at q0 q4 hat L1
  rw [hat] at q0
  rw [HN.out, HI'.out, show (((i + 1 : Nat)) : Int) = (i : Int) + 1 by omega] at q0 q4 b3
  have hW : wb.setCell ⟨g', r.length * 4 + 2, none⟩ (.int .i64 ((s.i + 1 : Nat) : Int)) = wb.setCell ⟨g', N * 4 + 2, none⟩ (.int .i64 ((i : Int) + 1)) := by rw [HN.out, HI'.out, show (((i + 1 : Nat)) : Int) = (i : Int) + 1 by omega]
  rw [hW] at G3 L1 L2
  have hz3 : wb.heap.size ≤ (wb.setCell ⟨g', N * 4 + 2, none⟩ (.int .i64 ((i : Int) + 1))).heap.size := by simp [World.setCell]
  clear hW hok hat G1
  obtain ⟨wc, hwc⟩ : ∃ wc, wb.setCell ⟨g', N * 4 + 2, none⟩ (.int .i64 ((i : Int) + 1)) = wc := ⟨_, rfl⟩
  rw [hwc] at q0 q4 b3 G3 L1 L2 hz3
  have hwi : IntKind.i64.wrap (i : Int) = (i : Int) := by rw [IntKind.wrap_i64]; omega
  have kc := takes_any G3 (by omega) L s.b (s.off + i * 5) hlt L1 L2 hm (by simp; have := HN.out; omega) hl
  clear L1 L2 G3 h
  go_wp2_with (go_at_call 17; refine kc.mono ?_; rintro e w6 ⟨rfl, hb6, hz6, hG6⟩)
  have HG : Hid _ := hG6
  clear hG6 kc
  go_wp2_with fail
  go_ret
  exact ⟨rfl, b3.trans hb6, by omega, HG.out⟩

end Go.Proofs.Ytemgmphddmlmlaa
