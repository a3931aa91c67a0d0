/- The walk of a tally's enter, where nothing is noted. No condition but that the tally and its list lie in memory and few parts are met. -/
import Derived.Test.YtbmijpjmdpdfkaaDoorTa1
namespace Go.Proofs.YtbmijpjmdpdfkaaDoor
open Go.RowKit

theorem look_none (a : Value) (n : Int) (p : Bool) (w : World) : (Instr.lookup 103 (.map none) (.agg #[a, .int .i64 n, .bool p]) true).run Tryd.prog w = .ok (.tuple #[.int .i64 0, .bool false]) w := by kernel_rfl

theorem info131 : ∃ i, Tryd.prog.info? 131 = some i ∧ i.zero = some (.agg #[.slice none 0 0, .bool false, .int .i64 0, .int .i64 0]) ∧ i.size = 4 ∧ i.bytes = 48 := by
  have h : (Tryd.prog.info? 131).map (fun i => (i.zero, i.size, i.bytes)) = some (some (.agg #[.slice none 0 0, .bool false, .int .i64 0, .int .i64 0]), 4, 48) := by kernel_rfl
  obtain ⟨i, hi, he⟩ := Option.map_eq_some_iff.1 h
  simp only [Prod.mk.injEq] at he
  exact ⟨i, hi, he⟩

theorem Keep.of_grownS {w w' : World} {v : Value} (h : w.grownBy w' v.ownBlock) : Keep w w' (fun k => v.ownBlock = some k) := ⟨h.os, h.tape, h.output, h.size, fun k hk hn => h.block k hk (fun e => hn e.symm)⟩
/-- What enter leaves. -/
structure Ent (w w' : World) (B tg : Nat) (v v' : Value) (met n : Nat) (xs : List Value) : Prop where
  blk : Blk w' tg 105 [.slice none 0 0, .int .i64 (met : Int), v', .map none]
  row : w'.ownsRow B 131 4 v' n xs
  own : v'.ownBlock = v.ownBlock ∨ ∃ k, v'.ownBlock = some k ∧ w.heap.size ≤ k
  keep : Keep w w' (fun k => k = tg ∨ v.ownBlock = some k)

set_option maxRecDepth 100000 in
theorem enter_nil (tg c : Nat) (a : Option Addr) (w : World) :
    Calls Tryd.prog 89 #[.pointer (some ⟨tg, 0, none⟩), .slice a 0 c, .bool true] w fun e w' => e = .returned (.tuple #[]) ∧ w = w' := by
  go_enter Tryd.func89, Tryd.ntmps89
  go_wp2_with fail
  exact bodyPost_ret (v := .tuple #[]) (by simp [results, Tryd.results89, go_sem]) rfl ⟨rfl, rfl⟩

set_option maxRecDepth 100000 in
set_option maxHeartbeats 2000000 in
theorem enter_new (B tg n met b off len c : Nat) (v : Value) (xs : List Value) (w : World) (hB : Blk w tg 105 [.slice none 0 0, .int .i64 (met : Int), v, .map none]) (hO : w.ownsRow B 131 4 v n xs) (hlen : 0 < len) (hm : met + len ≤ 262144) (hbase : B ≤ w.heap.size) (hn : n ≤ 1073741824) :
    Calls Tryd.prog 89 #[.pointer (some ⟨tg, 0, none⟩), .slice (some ⟨b, off, none⟩) len c, .bool true] w fun e w' => e = .returned (.tuple #[]) ∧ ∃ v', Ent w w' B tg v v' (met + len) (n + 1) (xs ++ [.slice (some ⟨b, off, none⟩) len c, .bool true, .int .i64 0, .int .i64 (len : Int)]) := by
  have hl0 : ((len : Int) == 0) = false := by simp; omega
  obtain ⟨w1, hw1, hb1, P1, hs1⟩ := one_new w [.slice (some ⟨b, off, none⟩) len c, .bool true, .int .i64 0, .int .i64 (len : Int)] 131
  have p0 := P1.cell (j := 0) rfl
  have p1 := P1.cell (j := 1) rfl
  have p2 := P1.cell (j := 2) rfl
  have p3 := P1.cell (j := 3) rfl
  have B1 := hB.below hb1 hB.lt
  have t1 := B1.cell (j := 1) rfl
  have t3 := B1.cell (j := 3) rfl
  have lg := hB.lt
  have hcall := spot_any w.heap.size 0 b off len c true w1.drew (P1.drew.cell (j := 0) rfl) (P1.drew.cell (j := 1) rfl) hlen
  have hlook := look_none
  go_enter Tryd.func89, Tryd.ntmps89
  go_wp2_with fail
  go_region_held3 (fun w' => w'.cell? ⟨tg, 3, none⟩ = some (.map none)) (go_keep)
    ((go_at_call 95; refine hcall.mono ?_; rintro e w2 ⟨rfl, hb2'⟩; have hb2 : Below w1.heap.size w1 w2 := Below.trans (Below.refl _ _).drew hb2'; have B2 := B1.below hb2 B1.lt; have e1 := B2.cell (j := 1) rfl; have e3 := B2.cell (j := 3) rfl; have f1 := B2.frozen 1))
  have hb12 := hb1.trans (hb2.mono (by omega))
  have hz2 := hb2.size
  have hne : w.heap.size ≠ tg := by omega
  obtain ⟨w3, hw3, K3⟩ : ∃ w3, w2.setCell ⟨tg, 1, none⟩ (.int .i64 ((met : Int) + (len : Int))) = w3 ∧ Keep w2 w3 (fun k => k = tg) := ⟨_, rfl, (Keep.refl w2 (fun k => k = tg)).setCell (g := tg) (fun _ => rfl) _ _⟩
  have B3 : Blk w3 tg 105 [.slice none 0 0, .int .i64 ((met : Int) + (len : Int)), v, .map none] := by rw [← hw3]; exact B2.set 1 _
  have P3 := (P1.below hb2 P1.lt).keep K3 hne
  have hz3 := K3.size
  have hcall3 := spot_any w.heap.size 0 b off len c true w3 (P3.cell (j := 0) rfl) (P3.cell (j := 1) rfl) hlen
  have HW : Hid (w2.setCell ⟨tg, 1, none⟩ (.int .i64 ((met : Int) + (len : Int))) = w3) := hw3
  clear hw3 hcall
  go_wp2_with fail
  rw [HW.out]
  refine hcall3.mono ?_
  rintro e w4 ⟨rfl, hb4⟩
  have B4 := B3.below hb4 B3.lt
  have P4 := P3.below hb4 P3.lt
  have hcall4 := note_few tg (.slice none 0 0) v (.map none) (.pointer (some ⟨b, off, none⟩)) (.int .i64 (len : Int)) (.bool true) ((met : Int) + (len : Int)) 0 w4 B4 (by omega)
  go_wp2_with (go_at_call 96; refine hcall4.mono ?_; rintro e w5 ⟨rfl, hb5⟩)
  have h2 := owns_below hO hb12
  have h3 := owns_block h2 (fun g e => K3.block g (owns_own h2 e).2 (fun h => owns_ne h2 B2 (by decide) (by rw [e, h])))
  have h5 := owns_below (owns_below h3 hb4) hb5
  have B5 := B4.below hb5 B4.lt
  have P5 := P4.below hb5 P4.lt
  have hz4 := hb4.size
  have hz5 := hb5.size
  have X6 := Blk.new w5.drew 131 [.slice (some ⟨b, off, none⟩) len c, .bool true, .int .i64 0, .int .i64 (len : Int)]
  have hb6 : Below w5.heap.size w5 (w5.drew.alloc (.cells #[.slice (some ⟨b, off, none⟩) len c, .bool true, .int .i64 0, .int .i64 (len : Int)] 131)) := ((Below.refl _ _).drew).alloc (Nat.le_refl _) _
  have h6 := owns_below h5 hb6
  have B6 := B5.below hb6 B5.lt
  have P6 := P5.below hb6 P5.lt
  have g2 := B5.cell (j := 2) rfl
  have g2' := B6.cell (j := 2) rfl
  have q0 := P5.cell (j := 0) rfl
  have q1 := P5.cell (j := 1) rfl
  have q2 := P5.cell (j := 2) rfl
  have q3 := P5.cell (j := 3) rfl
  have hbs6 : B ≤ (w5.drew.alloc (.cells #[.slice (some ⟨b, off, none⟩) len c, .bool true, .int .i64 0, .int .i64 (len : Int)] 131)).heap.size := by simp; omega
  obtain ⟨i131, hi131, hz131, hs131, hb131⟩ := info131
  obtain ⟨ao, cap, rfl⟩ : ∃ ao cap, v = .slice ao n cap := by
    rcases hO.2 with ⟨h0, h1⟩ | ⟨g, cap, cur, rfl, _⟩
    · exact ⟨none, 0, by rw [h0, h1]⟩
    · exact ⟨_, _, rfl⟩
  have g3' : (w5.alloc (.cells #[.slice (some ⟨b, off, none⟩) len c, .bool true, .int .i64 0, .int .i64 (len : Int)] 131)).cell? ⟨tg, 2, none⟩ = some (.slice ao n cap) := (B5.alloc _).cell (j := 2) rfl
  clear hcall3 hcall4
  go_region_law (refine step_append_own (by rfl) (.tmp 48) (.tmp 50) 102 (by rfl) B 131 i131 _ 4 48 Tryd.underlying102 hi131 hz131 hs131 hb131 (by rfl) (by decide) (.slice ao n cap) n xs (by rfl) h6 ⟨w5.heap.size, 0, none⟩ 1 1 [.slice (some ⟨b, off, none⟩) len c, .bool true, .int .i64 0, .int .i64 (len : Int)] (by rfl) (by rfl) (fun i u hu => by rw [Addr.add_lit, Nat.zero_add]; exact X6.cell hu) (by simp [Value.oneCell']) (by unfold maxLen; omega) (by omega) hbs6 (by decide) ?_; intro v' w7 h7 hg7 hn7; obtain ⟨g', c', rfl, _, _, _, _⟩ := owns_shape h7 (by omega); have B7 := B6.carry (hg7.block tg B6.lt (fun e => owns_ne h6 B6 (by decide) e.symm)); have r2 := B7.cell (j := 2) rfl; have rf := B7.frozen 2)
  all_goals
    go_wp2_with fail
    go_end0
    have K6 : Keep w w5 (fun k => k = tg ∨ (Value.slice ao n cap).ownBlock = some k) := ((Keep.of_below hb12 (Nat.le_refl _)).trans (K3.mono (fun k e => .inl e)) (fun _ _ h => h)).low (hb4.trans (hb5.mono hb4.size)) (by omega)
    have K7 := K6.low hb6 (by omega)
    have K8 := K7.trans (Keep.of_grownS hg7) (fun k hk e => .inr e)
    refine ⟨rfl, _, B7.set 2 _, owns_block h7 (fun g e => Below.heap_setCell _ _ _ _ (fun h => owns_ne h7 B7 (by decide) (by rw [e]; exact congrArg some h))), ?_, K8.setCell (g := tg) (fun _ => .inl rfl) _ _⟩
    rcases hn7 with h | ⟨k, h, hk⟩
    · exact .inl h
    · exact .inr ⟨k, h, by have h9 : w5.heap.size ≤ k := Nat.le_trans hb6.size hk; omega⟩
end Go.Proofs.YtbmijpjmdpdfkaaDoor
