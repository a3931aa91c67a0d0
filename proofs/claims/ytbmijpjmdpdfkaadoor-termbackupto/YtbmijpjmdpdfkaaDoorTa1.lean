/- The walks of term's listOf, spot, and of a tally's note, grow and put, where nothing is noted and no level is put in. No condition but that what they are asked of lies in memory. -/
import Derived.Test.YtbmijpjmdpdfkaaDoorNext
namespace Go.Proofs.YtbmijpjmdpdfkaaDoor
open Go.RowKit

set_option maxRecDepth 100000 in
theorem listOf_any (b off n c : Nat) (w : World) (hn : 0 < n) :
    Calls Tryd.prog 99 #[.slice (some ⟨b, off, none⟩) n c] w fun e w' => e = .returned (.agg #[.pointer (some ⟨b, off, none⟩), .int .i64 (n : Int)]) ∧ Below w.heap.size w w' := by
  go_enter Tryd.func99, Tryd.ntmps99
  go_wp2_with fail
  exact bodyPost_ret (v := .agg #[.pointer (some ⟨b, off, none⟩), .int .i64 (n : Int)]) (by simp [results, Tryd.results99, go_sem]) rfl ⟨rfl, below_alloc _ _⟩

set_option maxRecDepth 100000 in
set_option maxHeartbeats 1000000 in
theorem spot_any (sb so b off n c : Nat) (p : Bool) (w : World) (c0 : w.cell? ⟨sb, so, none⟩ = some (.slice (some ⟨b, off, none⟩) n c)) (c1 : w.cell? ⟨sb, so + 1, none⟩ = some (.bool p)) (hn : 0 < n) :
    Calls Tryd.prog 95 #[.pointer (some ⟨sb, so, none⟩)] w fun e w' => e = .returned (.agg #[.pointer (some ⟨b, off, none⟩), .int .i64 (n : Int), .bool p]) ∧ Below w.heap.size w w' := by
  have hsb : sb < w.heap.size := World.block_lt_of_cell? w _ c0
  obtain ⟨w1, hw1, hb1, P1, hs1⟩ := one_new w [.pointer none, .int .i64 0, .bool false] 143
  have hne : sb ≠ w.heap.size := by omega
  have hne' : w.heap.size ≠ sb := by omega
  have d0 := ((bcell hb1).1 sb so hsb).trans c0
  have d1 := ((bcell hb1).1 sb (so + 1) hsb).trans c1
  have hcall := listOf_any b off n c w1.drew hn
  go_enter Tryd.func95, Tryd.ntmps95
  go_wp2_with fail
  go_region_held3 (fun w' => w'.cell? ⟨sb, so, none⟩ = some (.slice (some ⟨b, off, none⟩) n c) ∧ w'.cell? ⟨sb, so + 1, none⟩ = some (.bool p)) (go_keep)
    ((go_at_call 99; refine hcall.mono ?_; rintro e w2 ⟨rfl, hb2'⟩; have hb2 : Below w1.heap.size w1 w2 := Below.trans (Below.refl _ _).drew hb2'; have e0 := ((bcell hb2).1 sb so (by omega)).trans d0; have e1 := ((bcell hb2).1 sb (so + 1) (by omega)).trans d1; have P2 := P1.below hb2 P1.lt; have x0 := P2.cell (j := 0) rfl; have x1 := P2.cell (j := 1) rfl; have x2 := P2.cell (j := 2) rfl; have f0 := P2.frozen 0; have f1 := P2.frozen 1; have f2 := P2.frozen 2))
  go_wp2_with fail
  obtain ⟨Q, K⟩ := st3 P2 (.pointer (some ⟨b, off, none⟩)) (.int .i64 (n : Int)) (.bool p)
  have z0 := Q.cell (j := 0) rfl
  have z1 := Q.cell (j := 1) rfl
  have z2 := Q.cell (j := 2) rfl
  have hs2 := hb2.size
  exact bodyPost_ret (v := .agg #[.pointer (some ⟨b, off, none⟩), .int .i64 (n : Int), .bool p]) (by simp [results, Tryd.results95, go_sem, z0, z1, z2]) rfl ⟨rfl, (hb1.trans (hb2.mono (by omega))).trans (K.below (by omega) (by omega))⟩

set_option maxRecDepth 100000 in
theorem note_few (tg : Nat) (x0 x2 x3 y0 y1 y2 : Value) (met size : Int) (w : World) (hB : Blk w tg 105 [x0, .int .i64 met, x2, x3]) (hm : met ≤ 262144) :
    Calls Tryd.prog 96 #[.pointer (some ⟨tg, 0, none⟩), .agg #[y0, y1, y2], .int .i64 size] w fun e w' => e = .returned (.tuple #[]) ∧ Below w.heap.size w w' := by
  have B1 := hB.alloc (.cells #[y0, y1, y2] 143)
  have c1 := B1.cell (j := 1) rfl
  have hd : decide (met ≤ 262144) = true := by simpa using hm
  go_enter Tryd.func96, Tryd.ntmps96
  go_wp2_with fail
  exact bodyPost_ret (v := .tuple #[]) (by simp [results, Tryd.results96, go_sem]) rfl ⟨rfl, below_alloc _ _⟩

set_option maxRecDepth 100000 in
set_option maxHeartbeats 1000000 in
theorem grow_any (tg g n cap : Nat) (x0 x1 x3 : Value) (sz parts : Nat) (w : World) (hB : Blk w tg 105 [x0, x1, .slice (some ⟨g, 0, none⟩) (n + 1) cap, x3]) (hc : w.cell? ⟨g, n * 4 + 3, none⟩ = some (.int .i64 (sz : Int))) (hf : w.frozen? ⟨g, n * 4 + 3, none⟩ = false) (hn : n ≤ 1073741824) (hs : sz + parts ≤ 67108865) :
    Calls Tryd.prog 97 #[.pointer (some ⟨tg, 0, none⟩), .int .i64 (parts : Int)] w fun e w' => e = .returned (.tuple #[]) ∧ ∃ q, w' = (w.drewN q).setCell ⟨g, n * 4 + 3, none⟩ (.int .i64 ((sz : Int) + (parts : Int))) := by
  have c2 := hB.cell (j := 2) rfl
  have hmin : min ((sz : Int) + (parts : Int)) 67108865 = (sz : Int) + (parts : Int) := by omega
  go_enter Tryd.func97, Tryd.ntmps97
  go_wp2_with fail
  go_quiet (fail)
  go_wp2_with fail
  go_end0
  exact ⟨rfl, _, rfl⟩

set_option maxRecDepth 100000 in
set_option maxHeartbeats 1000000 in
theorem tput_any (tg b off : Nat) (x1 x2 x3 s : Value) (k n : Int) (w : World) (hB : Blk w tg 105 [.slice none 0 0, x1, x2, x3]) (c0 : w.cell? ⟨b, off, none⟩ = some (.int .i64 k)) (c1 : w.cell? ⟨b, off + 1, none⟩ = some (.int .i64 n)) (c2 : w.cell? ⟨b, off + 2, none⟩ = some s) :
    Calls Tryd.prog 90 #[.pointer (some ⟨tg, 0, none⟩), .pointer (some ⟨b, off, none⟩), .bool true] w fun e w' => e = .returned (.tuple #[s, .bool true]) ∧ ∃ q, w' = w.drewN q := by
  have d0 := hB.cell (j := 0) rfl
  by_cases h4 : k = 4
  · have hk : (k == 4) = true := by simpa using h4
    by_cases h0 : 0 ≤ n
    · have hn : decide (0 ≤ n) = true := by simpa using h0
      have hl : decide (n < 0) = false := by simp; omega
      go_enter Tryd.func90, Tryd.ntmps90
      go_wp2_with fail
      go_quiet (fail)
      go_wp2_with fail
      go_ret2
      exact ⟨rfl, _, rfl⟩
    · have hn : decide (0 ≤ n) = false := by simpa using h0
      go_enter Tryd.func90, Tryd.ntmps90
      go_wp2_with fail
      go_quiet (fail)
      go_wp2_with fail
      go_ret2
      exact ⟨rfl, _, rfl⟩
  · have hk : (k == 4) = false := by simpa using h4
    go_enter Tryd.func90, Tryd.ntmps90
    go_wp2_with fail
    go_quiet (fail)
    go_wp2_with fail
    go_ret2
    exact ⟨rfl, _, rfl⟩
end Go.Proofs.YtbmijpjmdpdfkaaDoor
