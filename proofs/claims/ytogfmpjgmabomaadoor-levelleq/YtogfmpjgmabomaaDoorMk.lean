/- The walks of the document's Copy, Zero, Param, Succ, Max, Imax. No condition but that what was given are levels that may be, in memory. -/
import Derived.Test.YtogfmpjgmabomaaDoorRPut2
namespace Go.Proofs.YtogfmpjgmabomaaDoor
open Go.RowKit

theorem rput_lev (by_ : List Lv) (hz : ∀ y ∈ by_, CopyAt y) (l : Lev) : RPutAt by_ l.lv := by
  induction l with
  | zero => exact rput_node by_ 0 0 [] (by decide) (by simp) (fun x hx => by cases hx)
  | succ a ih => exact rput_node by_ 1 0 [a.lv] (by decide) (by simp) (fun x hx => by simp at hx; subst hx; exact ih)
  | max a b iha ihb => exact rput_node by_ 2 0 [a.lv, b.lv] (by decide) (by simp) (fun x hx => by simp at hx; rcases hx with rfl | rfl; exact iha; exact ihb)
  | imax a b iha ihb => exact rput_node by_ 3 0 [a.lv, b.lv] (by decide) (by simp) (fun x hx => by simp at hx; rcases hx with rfl | rfl; exact iha; exact ihb)
  | par n =>
    by_cases h : (n : Int) < by_.length
    · exact rput_par by_ n [] (by omega) h hz
    · exact rput_stay by_ n (by omega) (by omega)

set_option maxRecDepth 100000 in
set_option maxHeartbeats 400000 in
theorem copy_of (x : Lv) (hx : RPutAt [] x) : CopyAt x := by
  intro w B va hB hin
  obtain ⟨k, n, args⟩ := x
  obtain ⟨a, cap, rfl, hN⟩ := hin.node
  obtain ⟨w1, hw1, hb1, P1, Q1, hs1⟩ := two_new w [.int .i64 k, .int .i64 n, .slice a args.length cap] [.int .i64 0, .int .i64 0, .slice none 0 0] 24 24
  have p0 := P1.cell (j := 0) rfl
  have p1 := P1.cell (j := 1) rfl
  have p2 := P1.cell (j := 2) rfl
  have hc := hx w1 B _ none 0 (by omega) (hin.below hb1 hB) ⟨by omega, by omega, by omega, by omega, by simp, by omega, .inl rfl⟩
  rw [Lv.put_nil] at hc
  go_enter Tryd.func45, Tryd.ntmps45
  go_wp2_with (go_at_call 29; go_must (refine hc.mono ?_); rintro e w2 ⟨v, rfl, hi, hb2⟩; obtain ⟨kv, nv, av, lv, cv, rfl⟩ := hi.shape; have Q2 := Q1.below hb2 Q1.lt; have q0 := Q2.cell (j := 0) rfl; have q1 := Q2.cell (j := 1) rfl; have q2 := Q2.cell (j := 2) rfl; have f0 := Q2.frozen 0; have f1 := Q2.frozen 1; have f2 := Q2.frozen 2)
  obtain ⟨Q3, K3⟩ := st3 Q2 (.int .i64 kv) (.int .i64 nv) (.slice av lv cv)
  have c0 := Q3.cell (j := 0) rfl
  have c1 := Q3.cell (j := 1) rfl
  have c2 := Q3.cell (j := 2) rfl
  have hz2 := hb2.size
  have hz3 := K3.size
  refine bodyPost_ret (v := .agg #[.int .i64 kv, .int .i64 nv, .slice av lv cv]) (by simp [results, Tryd.results45, go_sem, c0, c1, c2]) rfl ⟨_, rfl, ?_, ?_⟩
  · exact In.carry (fun b hb => K3.block b hb.2 (by omega)) (fun b hb => ⟨by omega, by omega⟩) _ _ hi
  · exact (hb1.trans (hb2.mono (by omega))).trans (K3.below (by omega) (by omega))
theorem copy_any (l : Lev) : CopyAt l.lv := copy_of _ (rput_lev [] (fun _ h => by cases h) l)
theorem rput_any (by_ : List Lev) (l : Lev) : RPutAt (by_.map Lev.lv) l.lv := rput_lev _ (fun y hy => by
  obtain ⟨x, _, rfl⟩ := List.mem_map.1 hy
  exact copy_any x) l

/-- A level made new. -/
def Makes (w : World) (l : Lev) (e : Ending) (w' : World) : Prop := ∃ v, e = .returned v ∧ In w' (fun b => w.heap.size ≤ b ∧ b < w'.heap.size) l.lv v ∧ Below w.heap.size w w'

set_option maxRecDepth 100000 in
theorem Zero_any (w : World) : Calls Tryd.prog 32 #[] w (Makes w .zero) := by
  go_enter Tryd.func32, Tryd.ntmps32
  go_wp2_with fail
  refine bodyPost_ret (v := .agg #[.int .i64 0, .int .i64 0, .slice none 0 0]) (by simp [results, Tryd.results32, go_sem]) rfl ⟨_, rfl, ?_, (Below.refl _ _).alloc (Nat.le_refl _) _⟩
  rw [Lev.lv, in_mk]
  exact ⟨none, 0, rfl, by omega, by omega, by simp, by decide, .inl rfl⟩
set_option maxRecDepth 100000 in
theorem Param_any (n : Nat) (hn : n ≤ 1000) (w : World) : Calls Tryd.prog 31 #[.int .i64 (n : Int)] w (Makes w (.par n)) := by
  go_enter Tryd.func31, Tryd.ntmps31
  go_wp2_with fail
  refine bodyPost_ret (v := .agg #[.int .i64 4, .int .i64 (n : Int), .slice none 0 0]) (by simp [results, Tryd.results31, go_sem]) rfl ⟨_, rfl, ?_, (Below.refl _ _).alloc (Nat.le_refl _) _⟩
  rw [Lev.lv, in_mk]
  exact ⟨none, 0, rfl, by omega, by omega, by simp, by decide, .inl rfl⟩

/-- A level of one arg, of two, in a row that was just made. -/
theorem in_one {w : World} {S : Nat → Prop} {x : Lv} {x0 x1 x2 : Value} (hx : In w S x (.agg #[x0, x1, x2])) (hS : ∀ b, S b → b < w.heap.size) (k : Int) (hk : -9223372036854775808 ≤ k ∧ k ≤ 9223372036854775807) {w' : World} (hb : Below w.heap.size w w') (hR : Blk w' w.heap.size 24 [x0, x1, x2]) :
    In w' (fun b => S b ∨ b = w.heap.size) (.mk k 0 [x]) (.agg #[.int .i64 k, .int .i64 0, .slice (some ⟨w.heap.size, 0, none⟩) 1 1]) := by
  rw [in_mk]
  refine ⟨_, 1, rfl, hk, by omega, by simp, by decide, .inr ⟨w.heap.size, 0, rfl, .inr rfl, InAll.of_get fun i L hi => ?_⟩⟩
  match i, hi with
  | 0, hi => simp at hi; subst hi; exact ⟨x0, x1, x2, hR.cell rfl, hR.cell rfl, hR.cell rfl, In.carry (fun b h => hb.block b (hS b h)) (fun b h => .inl h) _ _ hx⟩
  | i + 1, hi => simp at hi
theorem in_two {w : World} {S : Nat → Prop} {x y : Lv} {x0 x1 x2 y0 y1 y2 : Value} (hx : In w S x (.agg #[x0, x1, x2])) (hy : In w S y (.agg #[y0, y1, y2])) (hS : ∀ b, S b → b < w.heap.size) (k : Int) (hk : -9223372036854775808 ≤ k ∧ k ≤ 9223372036854775807) {w' : World} (hb : Below w.heap.size w w') (hR : Blk w' w.heap.size 24 [x0, x1, x2, y0, y1, y2]) :
    In w' (fun b => S b ∨ b = w.heap.size) (.mk k 0 [x, y]) (.agg #[.int .i64 k, .int .i64 0, .slice (some ⟨w.heap.size, 0, none⟩) 2 2]) := by
  rw [in_mk]
  refine ⟨_, 2, rfl, hk, by omega, by simp, by decide, .inr ⟨w.heap.size, 0, rfl, .inr rfl, InAll.of_get fun i L hi => ?_⟩⟩
  match i, hi with
  | 0, hi => simp at hi; subst hi; exact ⟨x0, x1, x2, hR.cell rfl, hR.cell rfl, hR.cell rfl, In.carry (fun b h => hb.block b (hS b h)) (fun b h => .inl h) _ _ hx⟩
  | 1, hi => simp at hi; subst hi; exact ⟨y0, y1, y2, hR.cell rfl, hR.cell rfl, hR.cell rfl, In.carry (fun b h => hb.block b (hS b h)) (fun b h => .inl h) _ _ hy⟩
  | i + 2, hi => simp at hi

set_option maxRecDepth 100000 in
set_option maxHeartbeats 400000 in
theorem Succ_any (l : Lev) (w : World) (B : Nat) (va : Value) (hB : B ≤ w.heap.size) (hin : In w (· < B) l.lv va) : Calls Tryd.prog 27 #[va] w (Makes w (.succ l)) := by
  obtain ⟨L, hL⟩ : ∃ L, l.lv = L := ⟨_, rfl⟩
  obtain ⟨k, m, args⟩ := L
  have hin' := hin
  rw [hL] at hin'
  obtain ⟨a, c, rfl, hN⟩ := hin'.node
  obtain ⟨w1, hw1, hb1, P1, Q1, hs1⟩ := two_new w [.int .i64 k, .int .i64 m, .slice a args.length c] [.int .i64 0, .int .i64 0, .slice none 0 0] 24 24
  have p0 := P1.cell (j := 0) rfl
  have p1 := P1.cell (j := 1) rfl
  have p2 := P1.cell (j := 2) rfl
  have HL : Hid (l.lv = .mk k m args) := hL
  clear hL
  have hc := copy_any l w1 B _ (by omega) (hin.below hb1 hB)
  go_enter Tryd.func27, Tryd.ntmps27
  go_wp2_with (go_at_call 45; go_must (refine hc.mono ?_); rintro e w2 ⟨v, rfl, hi, hb2⟩; obtain ⟨kv, nv, av, lv, cv, rfl⟩ := hi.shape; obtain ⟨w3, hw3, hb3, X3, hs3⟩ := one_new w2 [.int .i64 kv, .int .i64 nv, .slice av lv cv] 24; have hz2 := hb2.size; have Q2 := (Q1.below hb2 Q1.lt).below hb3 (by omega); have q0 := Q2.cell (j := 0) rfl; have q1 := Q2.cell (j := 1) rfl; have q2 := Q2.cell (j := 2) rfl; have f0 := Q2.frozen 0; have f1 := Q2.frozen 1; have f2 := Q2.frozen 2)
  obtain ⟨Q3, K3⟩ := st3 Q2 (.int .i64 1) (.int .i64 0) (.slice (some ⟨w2.heap.size, 0, none⟩) 1 1)
  have c0 := Q3.cell (j := 0) rfl
  have c1 := Q3.cell (j := 1) rfl
  have c2 := Q3.cell (j := 2) rfl
  have hz3 := K3.size
  have hI := in_one hi (fun b h => h.2) 1 (by omega) hb3 X3
  refine bodyPost_ret (v := .agg #[.int .i64 1, .int .i64 0, .slice (some ⟨w2.heap.size, 0, none⟩) 1 1]) (by simp [results, Tryd.results27, go_sem, c0, c1, c2]) rfl ⟨_, rfl, ?_, ?_⟩
  · exact In.carry (fun b hb => K3.block b (by omega) (by omega)) (fun b hb => ⟨by omega, by omega⟩) _ _ hI
  · exact ((hb1.trans (hb2.mono (by omega))).trans (hb3.mono (by omega))).trans (K3.below (by omega) (by omega))

set_option maxRecDepth 100000 in
set_option maxHeartbeats 1000000 in
theorem Max_any (a b : Lev) (w : World) (B : Nat) (va vb : Value) (hB : B ≤ w.heap.size) (hina : In w (· < B) a.lv va) (hinb : In w (· < B) b.lv vb) : Calls Tryd.prog 25 #[va, vb] w (Makes w (.max a b)) := by
  obtain ⟨La, hLa⟩ : ∃ L, a.lv = L := ⟨_, rfl⟩
  obtain ⟨ka, ma, argsa⟩ := La
  have hina' := hina
  rw [hLa] at hina'
  obtain ⟨aa, ca, rfl, hNa⟩ := hina'.node
  obtain ⟨Lb, hLb⟩ : ∃ L, b.lv = L := ⟨_, rfl⟩
  obtain ⟨kb, mb, argsb⟩ := Lb
  have hinb' := hinb
  rw [hLb] at hinb'
  obtain ⟨ab, cb, rfl, hNb⟩ := hinb'.node
  obtain ⟨w1, hw1, hb1, X, Y, R1, hs⟩ := three_new w [.int .i64 ka, .int .i64 ma, .slice aa argsa.length ca] [.int .i64 kb, .int .i64 mb, .slice ab argsb.length cb] [.int .i64 0, .int .i64 0, .slice none 0 0] 24 24 24
  have HL : Hid (a.lv = .mk ka ma argsa ∧ b.lv = .mk kb mb argsb) := ⟨hLa, hLb⟩
  clear hLa hLb hina' hinb'
  have x0 := X.cell (j := 0) rfl
  have x1 := X.cell (j := 1) rfl
  have x2 := X.cell (j := 2) rfl
  have y0 := Y.cell (j := 0) rfl
  have y1 := Y.cell (j := 1) rfl
  have y2 := Y.cell (j := 2) rfl
  have hca : ∀ w', Below w1.heap.size w1 w' → Calls Tryd.prog 45 #[.agg #[.int .i64 ka, .int .i64 ma, .slice aa argsa.length ca]] w' (Makes w' a) := fun w' h => copy_any a w' B _ (by have := h.size; omega) ((hina.below hb1 hB).below h (by omega))
  have hcb : ∀ w', Below w1.heap.size w1 w' → Calls Tryd.prog 45 #[.agg #[.int .i64 kb, .int .i64 mb, .slice ab argsb.length cb]] w' (Makes w' b) := fun w' h => copy_any b w' B _ (by have := h.size; omega) ((hinb.below hb1 hB).below h (by omega))
  have hkeep : ∀ w', Below w1.heap.size w1 w' → w'.cell? ⟨w.heap.size, 0, none⟩ = some (.int .i64 ka) ∧ w'.cell? ⟨w.heap.size, 1, none⟩ = some (.int .i64 ma) ∧ w'.cell? ⟨w.heap.size, 2, none⟩ = some (.slice aa argsa.length ca) ∧ w'.cell? ⟨w.heap.size + 1, 0, none⟩ = some (.int .i64 kb) ∧ w'.cell? ⟨w.heap.size + 1, 1, none⟩ = some (.int .i64 mb) ∧ w'.cell? ⟨w.heap.size + 1, 2, none⟩ = some (.slice ab argsb.length cb) := fun w' h =>
    ⟨(X.below h (by omega)).cell (j := 0) rfl, (X.below h (by omega)).cell (j := 1) rfl, (X.below h (by omega)).cell (j := 2) rfl, (Y.below h (by omega)).cell (j := 0) rfl, (Y.below h (by omega)).cell (j := 1) rfl, (Y.below h (by omega)).cell (j := 2) rfl⟩
  have hne1 : w.heap.size + 1 + 1 ≠ w.heap.size := by omega
  have hne2 : w.heap.size + 1 + 1 ≠ w.heap.size + 1 := by omega
  -- the end, whichever was first
  have fin : ∀ (wl : World) (kv nv ku nu : Int) (av au : Option Addr) (lv cv lu cu : Nat), Below w1.heap.size w1 wl → In wl (fun b => w1.heap.size ≤ b ∧ b < wl.heap.size) a.lv (.agg #[.int .i64 kv, .int .i64 nv, .slice av lv cv]) → In wl (fun b => w1.heap.size ≤ b ∧ b < wl.heap.size) b.lv (.agg #[.int .i64 ku, .int .i64 nu, .slice au lu cu]) →
      ∃ w5, wl.alloc (.cells #[.int .i64 kv, .int .i64 nv, .slice av lv cv, .int .i64 ku, .int .i64 nu, .slice au lu cu] 24) = w5 ∧ Below wl.heap.size wl w5 ∧ Blk w5 (w.heap.size + 1 + 1) 24 [.int .i64 0, .int .i64 0, .slice none 0 0] ∧
        ∀ w6, Keep w5 w6 (· = w.heap.size + 1 + 1) → In w6 (fun b => w.heap.size ≤ b ∧ b < w6.heap.size) (Lev.max a b).lv (.agg #[.int .i64 2, .int .i64 0, .slice (some ⟨wl.heap.size, 0, none⟩) 2 2]) ∧ Below w.heap.size w w6 := by
    intro wl kv nv ku nu av au lv cv lu cu hbl ha hb
    have hzl := hbl.size
    obtain ⟨w5, hw5, hb5, X5, hs5⟩ := one_new wl [.int .i64 kv, .int .i64 nv, .slice av lv cv, .int .i64 ku, .int .i64 nu, .slice au lu cu] 24
    refine ⟨w5, hw5, hb5, (R1.below hbl (by omega)).below hb5 (by omega), fun w6 K6 => ⟨?_, ?_⟩⟩
    · have hz6 := K6.size
      have hI := in_two ha hb (fun b h => h.2) 2 (by omega) hb5 X5
      exact In.carry (fun b hb => K6.block b (by omega) (by omega)) (fun b hb => ⟨by omega, by omega⟩) _ _ hI
    · exact ((hb1.trans (hbl.mono (by omega))).trans (hb5.mono (by omega))).trans (K6.below (by omega) (by omega))
  go_enter Tryd.func25, Tryd.ntmps25
  go_wp2_with fail
  go_region_held3 (fun w' => w'.cell? ⟨w.heap.size, 0, none⟩ = some (.int .i64 ka) ∧ w'.cell? ⟨w.heap.size, 1, none⟩ = some (.int .i64 ma) ∧ w'.cell? ⟨w.heap.size, 2, none⟩ = some (.slice aa argsa.length ca) ∧ w'.cell? ⟨w.heap.size + 1, 0, none⟩ = some (.int .i64 kb) ∧ w'.cell? ⟨w.heap.size + 1, 1, none⟩ = some (.int .i64 mb) ∧ w'.cell? ⟨w.heap.size + 1, 2, none⟩ = some (.slice ab argsb.length cb)) (go_keep)
    (first
    | (go_at_call_of 45 argsa.length; first
      | (refine (hca w1.drew (Below.refl _ _).drew).mono ?_; rintro e wa ⟨va, rfl, ia, ba⟩; obtain ⟨kv, nv, av, lv, cv, rfl⟩ := ia.shape; have hwa : Below w1.heap.size w1 wa := ((Below.refl w1.heap.size w1).drew).trans ba; obtain ⟨s0, s1, s2, s3, s4, s5⟩ := hkeep wa hwa)
      | (refine (hca wb hwb).mono ?_; rintro e wa ⟨va, rfl, ia, ba⟩; obtain ⟨kv, nv, av, lv, cv, rfl⟩ := ia.shape; have hwa : Below w1.heap.size w1 wa := hwb.trans (ba.mono hwb.size); obtain ⟨s0, s1, s2, s3, s4, s5⟩ := hkeep wa hwa; have hz1 := hwb.size; have hz2 := ba.size; obtain ⟨w5, hw5, hb5, Q5, hfin⟩ := fin wa kv nv ku nu av au lv cv lu cu hwa (ia.mono (fun b hb => ⟨Nat.le_trans hwb.size hb.1, hb.2⟩)) (In.carry (fun b hb => ba.block b hb.2) (fun b hb => ⟨hb.1, Nat.lt_of_lt_of_le hb.2 ba.size⟩) _ _ ib); obtain ⟨u0, u1, u2, u3, u4, u5⟩ := hkeep w5 (hwa.trans (hb5.mono hwa.size)); have q0 := Q5.cell (j := 0) rfl; have q1 := Q5.cell (j := 1) rfl; have q2 := Q5.cell (j := 2) rfl; have f0 := Q5.frozen 0; have f1 := Q5.frozen 1; have f2 := Q5.frozen 2))
    | (go_at_call_of 45 argsb.length; first
      | (refine (hcb w1.drew (Below.refl _ _).drew).mono ?_; rintro e wb ⟨vb, rfl, ib, bb⟩; obtain ⟨ku, nu, au, lu, cu, rfl⟩ := ib.shape; have hwb : Below w1.heap.size w1 wb := ((Below.refl w1.heap.size w1).drew).trans bb; obtain ⟨s0, s1, s2, s3, s4, s5⟩ := hkeep wb hwb)
      | (refine (hcb wa hwa).mono ?_; rintro e wb ⟨vb, rfl, ib, bb⟩; obtain ⟨ku, nu, au, lu, cu, rfl⟩ := ib.shape; have hwb : Below w1.heap.size w1 wb := hwa.trans (bb.mono hwa.size); obtain ⟨s0, s1, s2, s3, s4, s5⟩ := hkeep wb hwb; have hz1 := hwa.size; have hz2 := bb.size; obtain ⟨w5, hw5, hb5, Q5, hfin⟩ := fin wb kv nv ku nu av au lv cv lu cu hwb (In.carry (fun b hb => bb.block b hb.2) (fun b hb => ⟨hb.1, Nat.lt_of_lt_of_le hb.2 bb.size⟩) _ _ ia) (ib.mono (fun b hb => ⟨Nat.le_trans hwa.size hb.1, hb.2⟩)); obtain ⟨u0, u1, u2, u3, u4, u5⟩ := hkeep w5 (hwb.trans (hb5.mono hwb.size)); have q0 := Q5.cell (j := 0) rfl; have q1 := Q5.cell (j := 1) rfl; have q2 := Q5.cell (j := 2) rfl; have f0 := Q5.frozen 0; have f1 := Q5.frozen 1; have f2 := Q5.frozen 2)))
  all_goals
    go_wp2_with fail
    obtain ⟨Q6, K6⟩ := st3 Q5 (.int .i64 2) (.int .i64 0) (.slice (some ⟨_, 0, none⟩) 2 2)
    have c0 := Q6.cell (j := 0) rfl
    have c1 := Q6.cell (j := 1) rfl
    have c2 := Q6.cell (j := 2) rfl
    exact bodyPost_ret (v := .agg #[.int .i64 2, .int .i64 0, .slice (some ⟨_, 0, none⟩) 2 2]) (by simp [results, Tryd.results25, go_sem, c0, c1, c2]) rfl ⟨_, rfl, hfin _ K6⟩

set_option maxRecDepth 100000 in
set_option maxHeartbeats 1000000 in
theorem Imax_any (a b : Lev) (w : World) (B : Nat) (va vb : Value) (hB : B ≤ w.heap.size) (hina : In w (· < B) a.lv va) (hinb : In w (· < B) b.lv vb) : Calls Tryd.prog 26 #[va, vb] w (Makes w (.imax a b)) := by
  obtain ⟨La, hLa⟩ : ∃ L, a.lv = L := ⟨_, rfl⟩
  obtain ⟨ka, ma, argsa⟩ := La
  have hina' := hina
  rw [hLa] at hina'
  obtain ⟨aa, ca, rfl, hNa⟩ := hina'.node
  obtain ⟨Lb, hLb⟩ : ∃ L, b.lv = L := ⟨_, rfl⟩
  obtain ⟨kb, mb, argsb⟩ := Lb
  have hinb' := hinb
  rw [hLb] at hinb'
  obtain ⟨ab, cb, rfl, hNb⟩ := hinb'.node
  obtain ⟨w1, hw1, hb1, X, Y, R1, hs⟩ := three_new w [.int .i64 ka, .int .i64 ma, .slice aa argsa.length ca] [.int .i64 kb, .int .i64 mb, .slice ab argsb.length cb] [.int .i64 0, .int .i64 0, .slice none 0 0] 24 24 24
  have HL : Hid (a.lv = .mk ka ma argsa ∧ b.lv = .mk kb mb argsb) := ⟨hLa, hLb⟩
  clear hLa hLb hina' hinb'
  have x0 := X.cell (j := 0) rfl
  have x1 := X.cell (j := 1) rfl
  have x2 := X.cell (j := 2) rfl
  have y0 := Y.cell (j := 0) rfl
  have y1 := Y.cell (j := 1) rfl
  have y2 := Y.cell (j := 2) rfl
  have hca : ∀ w', Below w1.heap.size w1 w' → Calls Tryd.prog 45 #[.agg #[.int .i64 ka, .int .i64 ma, .slice aa argsa.length ca]] w' (Makes w' a) := fun w' h => copy_any a w' B _ (by have := h.size; omega) ((hina.below hb1 hB).below h (by omega))
  have hcb : ∀ w', Below w1.heap.size w1 w' → Calls Tryd.prog 45 #[.agg #[.int .i64 kb, .int .i64 mb, .slice ab argsb.length cb]] w' (Makes w' b) := fun w' h => copy_any b w' B _ (by have := h.size; omega) ((hinb.below hb1 hB).below h (by omega))
  have hkeep : ∀ w', Below w1.heap.size w1 w' → w'.cell? ⟨w.heap.size, 0, none⟩ = some (.int .i64 ka) ∧ w'.cell? ⟨w.heap.size, 1, none⟩ = some (.int .i64 ma) ∧ w'.cell? ⟨w.heap.size, 2, none⟩ = some (.slice aa argsa.length ca) ∧ w'.cell? ⟨w.heap.size + 1, 0, none⟩ = some (.int .i64 kb) ∧ w'.cell? ⟨w.heap.size + 1, 1, none⟩ = some (.int .i64 mb) ∧ w'.cell? ⟨w.heap.size + 1, 2, none⟩ = some (.slice ab argsb.length cb) := fun w' h =>
    ⟨(X.below h (by omega)).cell (j := 0) rfl, (X.below h (by omega)).cell (j := 1) rfl, (X.below h (by omega)).cell (j := 2) rfl, (Y.below h (by omega)).cell (j := 0) rfl, (Y.below h (by omega)).cell (j := 1) rfl, (Y.below h (by omega)).cell (j := 2) rfl⟩
  have hne1 : w.heap.size + 1 + 1 ≠ w.heap.size := by omega
  have hne2 : w.heap.size + 1 + 1 ≠ w.heap.size + 1 := by omega
  -- the end, whichever was first
  have fin : ∀ (wl : World) (kv nv ku nu : Int) (av au : Option Addr) (lv cv lu cu : Nat), Below w1.heap.size w1 wl → In wl (fun b => w1.heap.size ≤ b ∧ b < wl.heap.size) a.lv (.agg #[.int .i64 kv, .int .i64 nv, .slice av lv cv]) → In wl (fun b => w1.heap.size ≤ b ∧ b < wl.heap.size) b.lv (.agg #[.int .i64 ku, .int .i64 nu, .slice au lu cu]) →
      ∃ w5, wl.alloc (.cells #[.int .i64 kv, .int .i64 nv, .slice av lv cv, .int .i64 ku, .int .i64 nu, .slice au lu cu] 24) = w5 ∧ Below wl.heap.size wl w5 ∧ Blk w5 (w.heap.size + 1 + 1) 24 [.int .i64 0, .int .i64 0, .slice none 0 0] ∧
        ∀ w6, Keep w5 w6 (· = w.heap.size + 1 + 1) → In w6 (fun b => w.heap.size ≤ b ∧ b < w6.heap.size) (Lev.imax a b).lv (.agg #[.int .i64 3, .int .i64 0, .slice (some ⟨wl.heap.size, 0, none⟩) 2 2]) ∧ Below w.heap.size w w6 := by
    intro wl kv nv ku nu av au lv cv lu cu hbl ha hb
    have hzl := hbl.size
    obtain ⟨w5, hw5, hb5, X5, hs5⟩ := one_new wl [.int .i64 kv, .int .i64 nv, .slice av lv cv, .int .i64 ku, .int .i64 nu, .slice au lu cu] 24
    refine ⟨w5, hw5, hb5, (R1.below hbl (by omega)).below hb5 (by omega), fun w6 K6 => ⟨?_, ?_⟩⟩
    · have hz6 := K6.size
      have hI := in_two ha hb (fun b h => h.2) 3 (by omega) hb5 X5
      exact In.carry (fun b hb => K6.block b (by omega) (by omega)) (fun b hb => ⟨by omega, by omega⟩) _ _ hI
    · exact ((hb1.trans (hbl.mono (by omega))).trans (hb5.mono (by omega))).trans (K6.below (by omega) (by omega))
  go_enter Tryd.func26, Tryd.ntmps26
  go_wp2_with fail
  go_region_held3 (fun w' => w'.cell? ⟨w.heap.size, 0, none⟩ = some (.int .i64 ka) ∧ w'.cell? ⟨w.heap.size, 1, none⟩ = some (.int .i64 ma) ∧ w'.cell? ⟨w.heap.size, 2, none⟩ = some (.slice aa argsa.length ca) ∧ w'.cell? ⟨w.heap.size + 1, 0, none⟩ = some (.int .i64 kb) ∧ w'.cell? ⟨w.heap.size + 1, 1, none⟩ = some (.int .i64 mb) ∧ w'.cell? ⟨w.heap.size + 1, 2, none⟩ = some (.slice ab argsb.length cb)) (go_keep)
    (first
    | (go_at_call_of 45 argsa.length; first
      | (refine (hca w1.drew (Below.refl _ _).drew).mono ?_; rintro e wa ⟨va, rfl, ia, ba⟩; obtain ⟨kv, nv, av, lv, cv, rfl⟩ := ia.shape; have hwa : Below w1.heap.size w1 wa := ((Below.refl w1.heap.size w1).drew).trans ba; obtain ⟨s0, s1, s2, s3, s4, s5⟩ := hkeep wa hwa)
      | (refine (hca wb hwb).mono ?_; rintro e wa ⟨va, rfl, ia, ba⟩; obtain ⟨kv, nv, av, lv, cv, rfl⟩ := ia.shape; have hwa : Below w1.heap.size w1 wa := hwb.trans (ba.mono hwb.size); obtain ⟨s0, s1, s2, s3, s4, s5⟩ := hkeep wa hwa; have hz1 := hwb.size; have hz2 := ba.size; obtain ⟨w5, hw5, hb5, Q5, hfin⟩ := fin wa kv nv ku nu av au lv cv lu cu hwa (ia.mono (fun b hb => ⟨Nat.le_trans hwb.size hb.1, hb.2⟩)) (In.carry (fun b hb => ba.block b hb.2) (fun b hb => ⟨hb.1, Nat.lt_of_lt_of_le hb.2 ba.size⟩) _ _ ib); obtain ⟨u0, u1, u2, u3, u4, u5⟩ := hkeep w5 (hwa.trans (hb5.mono hwa.size)); have q0 := Q5.cell (j := 0) rfl; have q1 := Q5.cell (j := 1) rfl; have q2 := Q5.cell (j := 2) rfl; have f0 := Q5.frozen 0; have f1 := Q5.frozen 1; have f2 := Q5.frozen 2))
    | (go_at_call_of 45 argsb.length; first
      | (refine (hcb w1.drew (Below.refl _ _).drew).mono ?_; rintro e wb ⟨vb, rfl, ib, bb⟩; obtain ⟨ku, nu, au, lu, cu, rfl⟩ := ib.shape; have hwb : Below w1.heap.size w1 wb := ((Below.refl w1.heap.size w1).drew).trans bb; obtain ⟨s0, s1, s2, s3, s4, s5⟩ := hkeep wb hwb)
      | (refine (hcb wa hwa).mono ?_; rintro e wb ⟨vb, rfl, ib, bb⟩; obtain ⟨ku, nu, au, lu, cu, rfl⟩ := ib.shape; have hwb : Below w1.heap.size w1 wb := hwa.trans (bb.mono hwa.size); obtain ⟨s0, s1, s2, s3, s4, s5⟩ := hkeep wb hwb; have hz1 := hwa.size; have hz2 := bb.size; obtain ⟨w5, hw5, hb5, Q5, hfin⟩ := fin wb kv nv ku nu av au lv cv lu cu hwb (In.carry (fun b hb => bb.block b hb.2) (fun b hb => ⟨hb.1, Nat.lt_of_lt_of_le hb.2 bb.size⟩) _ _ ia) (ib.mono (fun b hb => ⟨Nat.le_trans hwa.size hb.1, hb.2⟩)); obtain ⟨u0, u1, u2, u3, u4, u5⟩ := hkeep w5 (hwb.trans (hb5.mono hwb.size)); have q0 := Q5.cell (j := 0) rfl; have q1 := Q5.cell (j := 1) rfl; have q2 := Q5.cell (j := 2) rfl; have f0 := Q5.frozen 0; have f1 := Q5.frozen 1; have f2 := Q5.frozen 2)))
  all_goals
    go_wp2_with fail
    obtain ⟨Q6, K6⟩ := st3 Q5 (.int .i64 3) (.int .i64 0) (.slice (some ⟨_, 0, none⟩) 2 2)
    have c0 := Q6.cell (j := 0) rfl
    have c1 := Q6.cell (j := 1) rfl
    have c2 := Q6.cell (j := 2) rfl
    exact bodyPost_ret (v := .agg #[.int .i64 3, .int .i64 0, .slice (some ⟨_, 0, none⟩) 2 2]) (by simp [results, Tryd.results26, go_sem, c0, c1, c2]) rfl ⟨_, rfl, hfin _ K6⟩
end Go.Proofs.YtogfmpjgmabomaaDoor
