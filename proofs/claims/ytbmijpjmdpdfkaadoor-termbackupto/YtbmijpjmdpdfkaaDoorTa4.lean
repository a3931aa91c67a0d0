/- The walks of term's listOf, spot, and of a tally's note, grow and put, where nothing is noted and no level is put in. No condition but that what they are asked of lies in memory. -/
import Derived.Test.YtbmijpjmdpdfkaaDoorNext
namespace Go.Proofs.YtbmijpjmdpdfkaaDoor
open Go.RowKit

set_option maxRecDepth 100000 in
theorem listOf_any (b off n c : Nat) (w : World) (hn : 0 < n) :
    Calls Tryd.prog 99 #[.slice (some ⟨b, off, none⟩) n c] w fun e w' => e = .returned (.agg #[.pointer (some ⟨b, off, none⟩), .int .i64 (n : Int)]) ∧ Below w.heap.size w w' := by
  go_enter Tryd.func99, Tryd.ntmps99
  go_wp2_with fail
  exact bodyPost_ret (v := .agg #[.pointer (some ⟨b, off, none⟩), .int .i64 (n : Int)]) (by simp [results, Tryd.results99, go_sem]) rfl ⟨rfl, below_alloc _ _⟩

set_option maxRecDepth 100000 in
set_option maxHeartbeats 1000000 in
theorem spot_any (sb so b off n c : Nat) (p : Bool) (w : World) (c0 : w.cell? ⟨sb, so, none⟩ = some (.slice (some ⟨b, off, none⟩) n c)) (c1 : w.cell? ⟨sb, so + 1, none⟩ = some (.bool p)) (hn : 0 < n) :
    Calls Tryd.prog 95 #[.pointer (some ⟨sb, so, none⟩)] w fun e w' => e = .returned (.agg #[.pointer (some ⟨b, off, none⟩), .int .i64 (n : Int), .bool p]) ∧ Below w.heap.size w w' := by
  have hsb : sb < w.heap.size := World.block_lt_of_cell? w _ c0
  obtain ⟨w1, hw1, hb1, P1, hs1⟩ := one_new w [.pointer none, .int .i64 0, .bool false] 143
  have hne : sb ≠ w.heap.size := by omega
  have hne' : w.heap.size ≠ sb := by omega
  have d0 := ((bcell hb1).1 sb so hsb).trans c0
  have d1 := ((bcell hb1).1 sb (so + 1) hsb).trans c1
  have hcall := listOf_any b off n c w1.drew hn
  go_enter Tryd.func95, Tryd.ntmps95
  go_wp2_with fail
  go_region_held3 (fun w' => w'.cell? ⟨sb, so, none⟩ = some (.slice (some ⟨b, off, none⟩) n c) ∧ w'.cell? ⟨sb, so + 1, none⟩ = some (.bool p)) (go_keep)
    ((go_at_call 99; refine hcall.mono ?_; rintro e w2 ⟨rfl, hb2'⟩; have hb2 : Below w1.heap.size w1 w2 := Below.trans (Below.refl _ _).drew hb2'; have e0 := ((bcell hb2).1 sb so (by omega)).trans d0; have e1 := ((bcell hb2).1 sb (so + 1) (by omega)).trans d1; have P2 := P1.below hb2 P1.lt; have x0 := P2.cell (j := 0) rfl; have x1 := P2.cell (j := 1) rfl; have x2 := P2.cell (j := 2) rfl; have f0 := P2.frozen 0; have f1 := P2.frozen 1; have f2 := P2.frozen 2))
  go_wp2_with fail
  obtain ⟨Q, K⟩ := st3 P2 (.pointer (some ⟨b, off, none⟩)) (.int .i64 (n : Int)) (.bool p)
  have z0 := Q.cell (j := 0) rfl
  have z1 := Q.cell (j := 1) rfl
  have z2 := Q.cell (j := 2) rfl
  have hs2 := hb2.size
  exact bodyPost_ret (v := .agg #[.pointer (some ⟨b, off, none⟩), .int .i64 (n : Int), .bool p]) (by simp [results, Tryd.results95, go_sem, z0, z1, z2]) rfl ⟨rfl, (hb1.trans (hb2.mono (by omega))).trans (K.below (by omega) (by omega))⟩

set_option maxRecDepth 100000 in
theorem note_few (tg : Nat) (x0 x2 x3 y0 y1 y2 : Value) (met size : Int) (w : World) (hB : Blk w tg 105 [x0, .int .i64 met, x2, x3]) (hm : met ≤ 262144) :
    Calls Tryd.prog 96 #[.pointer (some ⟨tg, 0, none⟩), .agg #[y0, y1, y2], .int .i64 size] w fun e w' => e = .returned (.tuple #[]) ∧ Below w.heap.size w w' := by
  have B1 := hB.alloc (.cells #[y0, y1, y2] 143)
  have c1 := B1.cell (j := 1) rfl
  have hd : decide (met ≤ 262144) = true := by simpa using hm
  go_enter Tryd.func96, Tryd.ntmps96
  go_wp2_with fail
  exact bodyPost_ret (v := .tuple #[]) (by simp [results, Tryd.results96, go_sem]) rfl ⟨rfl, below_alloc _ _⟩

set_option maxRecDepth 100000 in
set_option maxHeartbeats 1000000 in
theorem grow_any (tg g n cap : Nat) (x0 x1 x3 : Value) (sz parts : Nat) (w : World) (hB : Blk w tg 105 [x0, x1, .slice (some ⟨g, 0, none⟩) (n + 1) cap, x3]) (hc : w.cell? ⟨g, n * 4 + 3, none⟩ = some (.int .i64 (sz : Int))) (hf : w.frozen? ⟨g, n * 4 + 3, none⟩ = false) (hn : n ≤ 1073741824) (hs : sz + parts ≤ 67108865) :
    Calls Tryd.prog 97 #[.pointer (some ⟨tg, 0, none⟩), .int .i64 (parts : Int)] w fun e w' => e = .returned (.tuple #[]) ∧ ∃ q, w' = (w.drewN q).setCell ⟨g, n * 4 + 3, none⟩ (.int .i64 ((sz : Int) + (parts : Int))) := by
  have c2 := hB.cell (j := 2) rfl
  have hmin : min ((sz : Int) + (parts : Int)) 67108865 = (sz : Int) + (parts : Int) := by omega
  go_enter Tryd.func97, Tryd.ntmps97
  go_wp2_with fail
  go_quiet (fail)
  go_wp2_with fail
  go_end0
  exact ⟨rfl, _, rfl⟩

set_option maxRecDepth 100000 in
set_option maxHeartbeats 1000000 in
theorem tput_any (tg b off : Nat) (x1 x2 x3 s : Value) (k n : Int) (w : World) (hB : Blk w tg 105 [.slice none 0 0, x1, x2, x3]) (c0 : w.cell? ⟨b, off, none⟩ = some (.int .i64 k)) (c1 : w.cell? ⟨b, off + 1, none⟩ = some (.int .i64 n)) (c2 : w.cell? ⟨b, off + 2, none⟩ = some s) :
    Calls Tryd.prog 90 #[.pointer (some ⟨tg, 0, none⟩), .pointer (some ⟨b, off, none⟩), .bool true] w fun e w' => e = .returned (.tuple #[s, .bool true]) ∧ ∃ q, w' = w.drewN q := by
  have d0 := hB.cell (j := 0) rfl
  by_cases h4 : k = 4
  · have hk : (k == 4) = true := by simpa using h4
    by_cases h0 : 0 ≤ n
    · have hn : decide (0 ≤ n) = true := by simpa using h0
      have hl : decide (n < 0) = false := by simp; omega
      go_enter Tryd.func90, Tryd.ntmps90
      go_wp2_with fail
      go_quiet (fail)
      go_wp2_with fail
      go_ret2
      exact ⟨rfl, _, rfl⟩
    · have hn : decide (0 ≤ n) = false := by simpa using h0
      go_enter Tryd.func90, Tryd.ntmps90
      go_wp2_with fail
      go_quiet (fail)
      go_wp2_with fail
      go_ret2
      exact ⟨rfl, _, rfl⟩
  · have hk : (k == 4) = false := by simpa using h4
    go_enter Tryd.func90, Tryd.ntmps90
    go_wp2_with fail
    go_quiet (fail)
    go_wp2_with fail
    go_ret2
    exact ⟨rfl, _, rfl⟩
end Go.Proofs.YtbmijpjmdpdfkaaDoor

/- The walk of a tally's enter, where nothing is noted. No condition but that the tally and its list lie in memory and few parts are met. -/
namespace Go.Proofs.YtbmijpjmdpdfkaaDoor
open Go.RowKit

theorem look_none (a : Value) (n : Int) (p : Bool) (w : World) : (Instr.lookup 103 (.map none) (.agg #[a, .int .i64 n, .bool p]) true).run Tryd.prog w = .ok (.tuple #[.int .i64 0, .bool false]) w := by kernel_rfl

theorem info131 : ∃ i, Tryd.prog.info? 131 = some i ∧ i.zero = some (.agg #[.slice none 0 0, .bool false, .int .i64 0, .int .i64 0]) ∧ i.size = 4 ∧ i.bytes = 48 := by
  have h : (Tryd.prog.info? 131).map (fun i => (i.zero, i.size, i.bytes)) = some (some (.agg #[.slice none 0 0, .bool false, .int .i64 0, .int .i64 0]), 4, 48) := by kernel_rfl
  obtain ⟨i, hi, he⟩ := Option.map_eq_some_iff.1 h
  simp only [Prod.mk.injEq] at he
  exact ⟨i, hi, he⟩

theorem Keep.of_grownS {w w' : World} {v : Value} (h : w.grownBy w' v.ownBlock) : Keep w w' (fun k => v.ownBlock = some k) := ⟨h.os, h.tape, h.output, h.size, fun k hk hn => h.block k hk (fun e => hn e.symm)⟩
/-- What enter leaves. -/
structure Ent (w w' : World) (B tg : Nat) (v v' : Value) (met n : Nat) (xs : List Value) : Prop where
  blk : Blk w' tg 105 [.slice none 0 0, .int .i64 (met : Int), v', .map none]
  row : w'.ownsRow B 131 4 v' n xs
  own : v'.ownBlock = v.ownBlock ∨ ∃ k, v'.ownBlock = some k ∧ w.heap.size ≤ k
  keep : Keep w w' (fun k => k = tg ∨ v.ownBlock = some k)

set_option maxRecDepth 100000 in
theorem enter_nil (tg c : Nat) (a : Option Addr) (w : World) :
    Calls Tryd.prog 89 #[.pointer (some ⟨tg, 0, none⟩), .slice a 0 c, .bool true] w fun e w' => e = .returned (.tuple #[]) ∧ w = w' := by
  go_enter Tryd.func89, Tryd.ntmps89
  go_wp2_with fail
  exact bodyPost_ret (v := .tuple #[]) (by simp [results, Tryd.results89, go_sem]) rfl ⟨rfl, rfl⟩

set_option maxRecDepth 100000 in
set_option maxHeartbeats 2000000 in
theorem enter_new (B tg n met b off len c : Nat) (v : Value) (xs : List Value) (w : World) (hB : Blk w tg 105 [.slice none 0 0, .int .i64 (met : Int), v, .map none]) (hO : w.ownsRow B 131 4 v n xs) (hlen : 0 < len) (hm : met + len ≤ 262144) (hbase : B ≤ w.heap.size) (hn : n ≤ 1073741824) :
    Calls Tryd.prog 89 #[.pointer (some ⟨tg, 0, none⟩), .slice (some ⟨b, off, none⟩) len c, .bool true] w fun e w' => e = .returned (.tuple #[]) ∧ ∃ v', Ent w w' B tg v v' (met + len) (n + 1) (xs ++ [.slice (some ⟨b, off, none⟩) len c, .bool true, .int .i64 0, .int .i64 (len : Int)]) := by
  have hl0 : ((len : Int) == 0) = false := by simp; omega
  obtain ⟨w1, hw1, hb1, P1, hs1⟩ := one_new w [.slice (some ⟨b, off, none⟩) len c, .bool true, .int .i64 0, .int .i64 (len : Int)] 131
  have p0 := P1.cell (j := 0) rfl
  have p1 := P1.cell (j := 1) rfl
  have p2 := P1.cell (j := 2) rfl
  have p3 := P1.cell (j := 3) rfl
  have B1 := hB.below hb1 hB.lt
  have t1 := B1.cell (j := 1) rfl
  have t3 := B1.cell (j := 3) rfl
  have lg := hB.lt
  have hcall := spot_any w.heap.size 0 b off len c true w1.drew (P1.drew.cell (j := 0) rfl) (P1.drew.cell (j := 1) rfl) hlen
  have hlook := look_none
  go_enter Tryd.func89, Tryd.ntmps89
  go_wp2_with fail
  go_region_held3 (fun w' => w'.cell? ⟨tg, 3, none⟩ = some (.map none)) (go_keep)
    ((go_at_call 95; refine hcall.mono ?_; rintro e w2 ⟨rfl, hb2'⟩; have hb2 : Below w1.heap.size w1 w2 := Below.trans (Below.refl _ _).drew hb2'; have B2 := B1.below hb2 B1.lt; have e1 := B2.cell (j := 1) rfl; have e3 := B2.cell (j := 3) rfl; have f1 := B2.frozen 1))
  have hb12 := hb1.trans (hb2.mono (by omega))
  have hz2 := hb2.size
  have hne : w.heap.size ≠ tg := by omega
  obtain ⟨w3, hw3, K3⟩ : ∃ w3, w2.setCell ⟨tg, 1, none⟩ (.int .i64 ((met : Int) + (len : Int))) = w3 ∧ Keep w2 w3 (fun k => k = tg) := ⟨_, rfl, (Keep.refl w2 (fun k => k = tg)).setCell (g := tg) (fun _ => rfl) _ _⟩
  have B3 : Blk w3 tg 105 [.slice none 0 0, .int .i64 ((met : Int) + (len : Int)), v, .map none] := by rw [← hw3]; exact B2.set 1 _
  have P3 := (P1.below hb2 P1.lt).keep K3 hne
  have hz3 := K3.size
  have hcall3 := spot_any w.heap.size 0 b off len c true w3 (P3.cell (j := 0) rfl) (P3.cell (j := 1) rfl) hlen
  have HW : Hid (w2.setCell ⟨tg, 1, none⟩ (.int .i64 ((met : Int) + (len : Int))) = w3) := hw3
  clear hw3 hcall
  go_wp2_with fail
  rw [HW.out]
  refine hcall3.mono ?_
  rintro e w4 ⟨rfl, hb4⟩
  have B4 := B3.below hb4 B3.lt
  have P4 := P3.below hb4 P3.lt
  have hcall4 := note_few tg (.slice none 0 0) v (.map none) (.pointer (some ⟨b, off, none⟩)) (.int .i64 (len : Int)) (.bool true) ((met : Int) + (len : Int)) 0 w4 B4 (by omega)
  go_wp2_with (go_at_call 96; refine hcall4.mono ?_; rintro e w5 ⟨rfl, hb5⟩)
  have h2 := owns_below hO hb12
  have h3 := owns_block h2 (fun g e => K3.block g (owns_own h2 e).2 (fun h => owns_ne h2 B2 (by decide) (by rw [e, h])))
  have h5 := owns_below (owns_below h3 hb4) hb5
  have B5 := B4.below hb5 B4.lt
  have P5 := P4.below hb5 P4.lt
  have hz4 := hb4.size
  have hz5 := hb5.size
  have X6 := Blk.new w5.drew 131 [.slice (some ⟨b, off, none⟩) len c, .bool true, .int .i64 0, .int .i64 (len : Int)]
  have hb6 : Below w5.heap.size w5 (w5.drew.alloc (.cells #[.slice (some ⟨b, off, none⟩) len c, .bool true, .int .i64 0, .int .i64 (len : Int)] 131)) := ((Below.refl _ _).drew).alloc (Nat.le_refl _) _
  have h6 := owns_below h5 hb6
  have B6 := B5.below hb6 B5.lt
  have P6 := P5.below hb6 P5.lt
  have g2 := B5.cell (j := 2) rfl
  have g2' := B6.cell (j := 2) rfl
  have q0 := P5.cell (j := 0) rfl
  have q1 := P5.cell (j := 1) rfl
  have q2 := P5.cell (j := 2) rfl
  have q3 := P5.cell (j := 3) rfl
  have hbs6 : B ≤ (w5.drew.alloc (.cells #[.slice (some ⟨b, off, none⟩) len c, .bool true, .int .i64 0, .int .i64 (len : Int)] 131)).heap.size := by simp; omega
  obtain ⟨i131, hi131, hz131, hs131, hb131⟩ := info131
  obtain ⟨ao, cap, rfl⟩ : ∃ ao cap, v = .slice ao n cap := by
    rcases hO.2 with ⟨h0, h1⟩ | ⟨g, cap, cur, rfl, _⟩
    · exact ⟨none, 0, by rw [h0, h1]⟩
    · exact ⟨_, _, rfl⟩
  have g3' : (w5.alloc (.cells #[.slice (some ⟨b, off, none⟩) len c, .bool true, .int .i64 0, .int .i64 (len : Int)] 131)).cell? ⟨tg, 2, none⟩ = some (.slice ao n cap) := (B5.alloc _).cell (j := 2) rfl
  clear hcall3 hcall4
  go_region_law (refine step_append_own (by rfl) (.tmp 48) (.tmp 50) 102 (by rfl) B 131 i131 _ 4 48 Tryd.underlying102 hi131 hz131 hs131 hb131 (by rfl) (by decide) (.slice ao n cap) n xs (by rfl) h6 ⟨w5.heap.size, 0, none⟩ 1 1 [.slice (some ⟨b, off, none⟩) len c, .bool true, .int .i64 0, .int .i64 (len : Int)] (by rfl) (by rfl) (fun i u hu => by rw [Addr.add_lit, Nat.zero_add]; exact X6.cell hu) (by simp [Value.oneCell']) (by unfold maxLen; omega) (by omega) hbs6 (by decide) ?_; intro v' w7 h7 hg7 hn7; obtain ⟨g', c', rfl, _, _, _, _⟩ := owns_shape h7 (by omega); have B7 := B6.carry (hg7.block tg B6.lt (fun e => owns_ne h6 B6 (by decide) e.symm)); have r2 := B7.cell (j := 2) rfl; have rf := B7.frozen 2)
  all_goals
    go_wp2_with fail
    go_end0
    have K6 : Keep w w5 (fun k => k = tg ∨ (Value.slice ao n cap).ownBlock = some k) := ((Keep.of_below hb12 (Nat.le_refl _)).trans (K3.mono (fun k e => .inl e)) (fun _ _ h => h)).low (hb4.trans (hb5.mono hb4.size)) (by omega)
    have K7 := K6.low hb6 (by omega)
    have K8 := K7.trans (Keep.of_grownS hg7) (fun k hk e => .inr e)
    refine ⟨rfl, _, B7.set 2 _, owns_block h7 (fun g e => Below.heap_setCell _ _ _ _ (fun h => owns_ne h7 B7 (by decide) (by rw [e]; exact congrArg some h))), ?_, K8.setCell (g := tg) (fun _ => .inl rfl) _ _⟩
    rcases hn7 with h | ⟨k, h, hk⟩
    · exact .inl h
    · exact .inr ⟨k, h, by have h9 : w5.heap.size ≤ k := Nat.le_trans hb6.size hk; omega⟩
end Go.Proofs.YtbmijpjmdpdfkaaDoor

/- The walk of a tally's leave, where nothing is noted. No condition but that the tally and its list lie in memory and few parts are met. -/
namespace Go.Proofs.YtbmijpjmdpdfkaaDoor
open Go.RowKit

set_option maxRecDepth 100000 in
set_option maxHeartbeats 2000000 in
theorem leave_any (B tg n met b off len c g cap sz bsz : Nat) (p : Bool) (x0 x1 x2 : Value) (i : Int) (xs : List Value) (w : World) (hB : Blk w tg 105 [.slice none 0 0, .int .i64 (met : Int), .slice (some ⟨g, 0, none⟩) (n + 2) cap, .map none])
    (hO : w.ownsRow B 131 4 (.slice (some ⟨g, 0, none⟩) (n + 2) cap) (n + 2) ((xs ++ [x0, x1, x2, .int .i64 (bsz : Int)]) ++ [.slice (some ⟨b, off, none⟩) len c, .bool p, .int .i64 i, .int .i64 (sz : Int)])) (hlen : 0 < len) (hm : met ≤ 262144) (hn : n ≤ 1073741824) (hs : bsz + sz ≤ 67108865) :
    Calls Tryd.prog 91 #[.pointer (some ⟨tg, 0, none⟩)] w fun e w' => e = .returned (.tuple #[]) ∧ Ent w w' B tg (.slice (some ⟨g, 0, none⟩) (n + 2) cap) (.slice (some ⟨g, 0, none⟩) (n + 1) cap) met (n + 1) (xs ++ [x0, x1, x2, .int .i64 ((bsz + sz : Nat) : Int)]) := by
  have hxl : xs.length = n * 4 := by have := hO.1; simp at this; omega
  have at_ : ∀ j u, ([.slice (some ⟨b, off, none⟩) len c, .bool p, .int .i64 i, .int .i64 (sz : Int)] : List Value)[j]? = some u → w.cell? ⟨g, (n + 1) * 4 + j, none⟩ = some u := fun j u hj => by
    obtain ⟨g2, h1, _, _, _, _, h2⟩ := owns_cell hO (i := (n + 1) * 4 + j) (c := u) (by rw [List.getElem?_append_right (by simp; omega)]; rw [← hj]; congr 1; simp; omega)
    simp only [Option.some.injEq, Addr.mk.injEq, and_true] at h1
    rw [h1]; exact h2
  have a0 : w.cell? ⟨g, (n + 1) * 4, none⟩ = _ := at_ 0 _ rfl
  have a1 := at_ 1 _ rfl
  have a2 := at_ 2 _ rfl
  have a3 := at_ 3 _ rfl
  obtain ⟨g2, cap2, e2, hg1, hg2, hg3, hg4⟩ := owns_shape hO (by omega)
  simp only [Value.slice.injEq, Option.some.injEq, Addr.mk.injEq, and_true, true_and] at e2
  obtain ⟨rfl, rfl⟩ := e2
  have t2 := hB.cell (j := 2) rfl
  have lg := hB.lt
  have hgt : g ≠ tg := fun e => owns_ne hO hB (by decide) (by rw [e]; rfl)
  obtain ⟨w1, hw1, hb1, P1, hs1⟩ := one_new w [.slice (some ⟨b, off, none⟩) len c, .bool p, .int .i64 i, .int .i64 (sz : Int)] 131
  have B1 := hB.below hb1 hB.lt
  have t2' := B1.cell (j := 2) rfl
  have tf := B1.frozen 2
  have e12 : ((n : Int) + 2 - 1) = (n : Int) + 1 := by omega
  have hne : w.heap.size ≠ tg := by omega
  go_enter Tryd.func91, Tryd.ntmps91
  go_wp2_with fail
  obtain ⟨w2, hw2, K2⟩ : ∃ w2, w1.setCell ⟨tg, 2, none⟩ (.slice (some ⟨g, 0, none⟩) (n + 1) cap) = w2 ∧ Keep w1 w2 (fun k => k = tg) := ⟨_, rfl, (Keep.refl w1 (fun k => k = tg)).setCell (g := tg) (fun _ => rfl) _ _⟩
  have B2 : Blk w2 tg 105 [.slice none 0 0, .int .i64 (met : Int), .slice (some ⟨g, 0, none⟩) (n + 1) cap, .map none] := by rw [← hw2]; exact B1.set 2 _
  have P2 := P1.keep K2 hne
  have hz2 := K2.size
  rw [hw2]
  have p0 := P2.cell (j := 0) rfl
  have p3 := P2.cell (j := 3) rfl
  have hcall := spot_any w.heap.size 0 b off len c p w2.drew (P2.drew.cell (j := 0) rfl) (P2.drew.cell (j := 1) rfl) hlen
  clear hw1 hw2
  go_region_held3 (fun w' => w'.cell? ⟨w.heap.size, 3, none⟩ = some (.int .i64 (sz : Int))) (go_keep)
    (first
      | (go_at_call 95; refine hcall.mono ?_; rintro e w3 ⟨rfl, hb3'⟩; have hb3 : Below w2.heap.size w2 w3 := Below.trans (Below.refl _ _).drew hb3'; have B3 := B2.below hb3 B2.lt; have P3 := P2.below hb3 P2.lt; have q3 := P3.cell (j := 3) rfl; have hcall3 := note_few tg (.slice none 0 0) (.slice (some ⟨g, 0, none⟩) (n + 1) cap) (.map none) (.pointer (some ⟨b, off, none⟩)) (.int .i64 (len : Int)) (.bool p) (met : Int) (sz : Int) w3 B3 (by omega))
      | (go_at_call 96; refine hcall3.mono ?_; rintro e w4 ⟨rfl, hb4⟩; have B4 := B3.below hb4 B3.lt; have P4 := P3.below hb4 P3.lt; have r3 := P4.cell (j := 3) rfl))
  have h1 := owns_cut (owns_below hO hb1) (m := n + 1) (by simp; omega) (by omega)
  have h2 := owns_block h1 (fun k e => K2.block k (owns_own h1 e).2 (fun h => owns_ne h1 B1 (by decide) (by rw [e, h])))
  have h4 := owns_below (owns_below h2 hb3) hb4
  obtain ⟨g3, e3, _, _, _, _, hg5⟩ := owns_cell h4 (i := n * 4 + 3) (c := .int .i64 (bsz : Int)) (by rw [List.getElem?_append_right (by omega), hxl, show n * 4 + 3 - n * 4 = 3 from by omega]; rfl)
  simp only [Option.some.injEq, Addr.mk.injEq, and_true] at e3
  subst e3
  have hcall5 := grow_any tg g n cap (.slice none 0 0) (.int .i64 (met : Int)) (.map none) bsz sz w4 B4 hg5 (owns_frozen h4 _) hn hs
  clear hcall hcall3
  go_wp2_with fail
  refine hcall5.mono ?_
  rintro e w5 ⟨rfl, q, rfl⟩
  go_wp2_with fail
  go_end0
  have hb34 := hb3.trans (hb4.mono hb3.size)
  have K4 : Keep w w4 (fun k => k = tg ∨ (Value.slice (some ⟨g, 0, none⟩) (n + 2) cap).ownBlock = some k) := ((Keep.of_below hb1 (Nat.le_refl _)).trans (K2.mono (fun k e => .inl e)) (fun _ _ h => h)).low hb34 (by omega)
  have h5 : (w4.drewN q).ownsRow B 131 4 (.slice (some ⟨g, 0, none⟩) (n + 1) cap) (n + 1) (xs ++ [x0, x1, x2, .int .i64 (bsz : Int)]) := owns_block h4 (fun _ _ => rfl)
  have h6 := owns_set h5 (n * 4 + 3) (.int .i64 ((bsz : Int) + (sz : Int)))
  rw [List.set_append_right _ _ (by omega), hxl, show n * 4 + 3 - n * 4 = 3 from by omega] at h6
  exact ⟨rfl, (B4.drewN q).other _ (fun e => hgt e.symm), h6, .inl rfl, (K4.drewN q).setCell (g := g) (fun _ => .inr rfl) _ _⟩
end Go.Proofs.YtbmijpjmdpdfkaaDoor

/- A tally's stack of lists that are being counted. Plain facts, of no program. -/
namespace Go.Proofs.YtbmijpjmdpdfkaaDoor
open Go.RowKit

/-- A list that is being counted. -/
structure Sp where
  ls : List Lv
  b : Nat
  off : Nat
  c : Nat
  i : Nat
  sz : Nat
def Sp.cells (s : Sp) : List Value := [.slice (some ⟨s.b, s.off, none⟩) s.ls.length s.c, .bool true, .int .i64 (s.i : Int), .int .i64 (s.sz : Int)]
/-- The stack's cells, the last one first in the list. -/
def spCells (bsz : Nat) : List Sp → List Value
  | [] => [.slice none 0 0, .bool false, .int .i64 0, .int .i64 (bsz : Int)]
  | s :: r => spCells bsz r ++ s.cells
theorem spCells_len (bsz : Nat) (st : List Sp) : (spCells bsz st).length = (st.length + 1) * 4 := by
  induction st with
  | nil => rfl
  | cons s r ih => simp [spCells, Sp.cells, ih]; omega

/-- The parts that lie below. -/
def Lv.belows : List Lv → Nat
  | [] => 0
  | .mk _ _ args :: r => Lv.sizes args + Lv.belows r
theorem Lv.belows_drop {l : List Lv} {i : Nat} {k n : Int} {args : List Lv} (h : l[i]? = some (.mk k n args)) : Lv.belows (l.drop i) = Lv.sizes args + Lv.belows (l.drop (i + 1)) := by
  have hi := (List.getElem?_eq_some_iff.1 h).1
  rw [List.drop_eq_getElem_cons hi, (List.getElem?_eq_some_iff.1 h).2, Lv.belows]
theorem Lv.sizes_belows (l : List Lv) : Lv.sizes l = l.length + Lv.belows l := by
  induction l with
  | nil => rfl
  | cons x r ih => obtain ⟨k, n, args⟩ := x; simp only [Lv.sizes, Lv.belows, Lv.size_mk, List.length_cons, ih]; omega

def Sp.left (s : Sp) : Nat := Lv.belows (s.ls.drop s.i)
def spLeft : List Sp → Nat
  | [] => 0
  | s :: r => s.left + spLeft r
def spSum : List Sp → Nat
  | [] => 0
  | s :: r => s.sz + spSum r
def spMeas : List Sp → Nat
  | [] => 0
  | s :: r => 1 + 2 * Lv.sizes (s.ls.drop s.i) + spMeas r

/-- The next one's size grows. -/
def spAdd (n : Nat) : Nat → List Sp → Nat × List Sp
  | bsz, [] => (bsz + n, [])
  | bsz, s :: r => (bsz, { s with sz := s.sz + n } :: r)

theorem spAdd_cells (n bsz : Nat) (st : List Sp) : ∃ xs x0 x1 x2 s, spCells bsz st = xs ++ [x0, x1, x2, .int .i64 (s : Int)] ∧ spCells (spAdd n bsz st).1 (spAdd n bsz st).2 = xs ++ [x0, x1, x2, .int .i64 ((s + n : Nat) : Int)] ∧ s ≤ bsz + spSum st := by
  cases st with
  | nil => exact ⟨[], _, _, _, bsz, rfl, rfl, by omega⟩
  | cons s r => exact ⟨spCells bsz r, _, _, _, s.sz, rfl, rfl, by simp only [spSum]; omega⟩
theorem spAdd_sum (n bsz : Nat) (st : List Sp) : (spAdd n bsz st).1 + spSum (spAdd n bsz st).2 = bsz + spSum st + n := by
  cases st with
  | nil => simp [spAdd, spSum]
  | cons s r => simp only [spAdd, spSum]; omega
theorem spAdd_left (n bsz : Nat) (st : List Sp) : spLeft (spAdd n bsz st).2 = spLeft st := by
  cases st with
  | nil => rfl
  | cons s r => rfl
theorem spAdd_meas (n bsz : Nat) (st : List Sp) : spMeas (spAdd n bsz st).2 = spMeas st := by
  cases st with
  | nil => rfl
  | cons s r => rfl
theorem spAdd_len (n bsz : Nat) (st : List Sp) : (spAdd n bsz st).2.length = st.length := by
  cases st with
  | nil => rfl
  | cons s r => rfl

/-- A list of the stack lies in memory. -/
structure SpOk (w : World) (B : Nat) (s : Sp) : Prop where
  lt : s.b < B
  all : InAll w (· < B) s.b s.off s.ls
  le : s.i ≤ s.ls.length
  pos : 0 < s.ls.length
  cap : s.ls.length ≤ s.c
  max : s.c ≤ 9223372036854775807
theorem SpOk.same {w : World} {B : Nat} {s : Sp} (h : SpOk w B s) {i sz : Nat} (hi : i ≤ s.ls.length) : SpOk w B { s with i := i, sz := sz } := ⟨h.lt, h.all, hi, h.pos, h.cap, h.max⟩
theorem spAdd_ok {w : World} {B n bsz : Nat} {st : List Sp} (h : ∀ s ∈ st, SpOk w B s) : ∀ s ∈ (spAdd n bsz st).2, SpOk w B s := by
  cases st with
  | nil => exact h
  | cons x r =>
    intro s hs
    rcases List.mem_cons.1 hs with rfl | hs
    · exact (h x (List.mem_cons_self ..)).same (h x (List.mem_cons_self ..)).le
    · exact h s (List.mem_cons_of_mem _ hs)

/-- The tally's state. -/
structure TS (w0 wr : World) (B tg : Nat) (v0 : Value) (N M bsz met : Nat) (st : List Sp) (v : Value) : Prop where
  blk : Blk wr tg 105 [.slice none 0 0, .int .i64 (met : Int), v, .map none]
  row : wr.ownsRow B 131 4 v (st.length + 1) (spCells bsz st)
  own : v.ownBlock = v0.ownBlock ∨ ∃ k, v.ownBlock = some k ∧ w0.heap.size ≤ k
  keep : Keep w0 wr (fun k => k = tg ∨ v0.ownBlock = some k)
  spans : ∀ s ∈ st, SpOk w0 B s
  tot : bsz + spSum st + spLeft st = N
  met : met + spLeft st = M

theorem Keep.own {w0 wr w' : World} {tg : Nat} {v0 v : Value} (hk : Keep w0 wr (fun k => k = tg ∨ v0.ownBlock = some k)) (ho : v.ownBlock = v0.ownBlock ∨ ∃ k, v.ownBlock = some k ∧ w0.heap.size ≤ k) (h : Keep wr w' (fun k => k = tg ∨ v.ownBlock = some k)) : Keep w0 w' (fun k => k = tg ∨ v0.ownBlock = some k) :=
  hk.trans h (fun k hk' e => by
    rcases e with e | e
    · exact .inl e
    · rcases ho with h1 | ⟨j, h1, h2⟩
      · exact .inr (h1 ▸ e)
      · rw [h1] at e; cases e; omega)
theorem own_trans {v0 v v' : Value} {n m : Nat} (hn : n ≤ m) (h1 : v.ownBlock = v0.ownBlock ∨ ∃ k, v.ownBlock = some k ∧ n ≤ k) (h2 : v'.ownBlock = v.ownBlock ∨ ∃ k, v'.ownBlock = some k ∧ m ≤ k) : v'.ownBlock = v0.ownBlock ∨ ∃ k, v'.ownBlock = some k ∧ n ≤ k := by
  rcases h2 with h | ⟨k, h, hk⟩
  · rw [h]; exact h1
  · exact .inr ⟨k, h, by omega⟩
end Go.Proofs.YtbmijpjmdpdfkaaDoor
