/- The walks of term's weigh and mayBeTold, where few parts of Levels are met. No condition but that the term lies in memory, is formed all through, has fewer than 2^20 parts, and its Levels few, and that the tables hold what the program's text lays. -/
import Derived.Test.YtbmijpjmdpdfkaaDoorWg
namespace Go.Proofs.YtbmijpjmdpdfkaaDoor
open Go.RowKit

set_option maxRecDepth 100000 in
theorem weigh_few (b off : Nat) (T : Tr) (w : World) (B : Nat) (hT : Tabs w) (h3 : 3 ≤ B) (hB : B ≤ w.heap.size) (hc : TCells w b off T) (hin : TIn w (· < B) T) (hsz : T.size < 1048576) (hpl : Formed (Pt.mk b off T 1 0).seq) (hlv : lvs (Pt.mk b off T 1 0).seq ≤ 262144) :
    Calls Tryd.prog 40 #[.pointer (some ⟨b, off, none⟩)] w fun e w' => e = .returned (.tuple #[.agg #[.int .i64 (T.size : Int), .int .i64 (lvs (Pt.mk b off T 1 0).seq : Int)], .bool true]) ∧ Below w.heap.size w w' := by
  have hmf : ∀ (fn : Fn) (first cap : Array Value) (w : World), (Instr.makeFunc fn first cap).run Tryd.prog w = .ok (.func fn first cap) w := fun _ _ _ _ => rfl
  obtain ⟨w1, hw1, hb1, P1, Q1, hs1⟩ := two_new w [.int .i64 0, .int .i64 0] [.slice none 0 0, .int .i64 0, .slice none 0 0, .map none] 60 105
  have hlb := hc.lt
  have hcall := weighBy_few b off (w.heap.size + 1) T w1 B (hT.on hb1) h3 (by omega) (hc.on hb1) (hin.below hb1 hB) hsz hpl Q1 (by omega) (by omega) hlv
  generalize (T.size : Int) = sz at *
  generalize (lvs (Pt.mk b off T 1 0).seq : Int) = lv at *
  go_enter Tryd.func40, Tryd.ntmps40
  go_wp2_with (go_at_call 47; refine hcall.mono ?_; rintro e w2 ⟨rfl, hk2⟩; have P2 := P1.keep hk2 (by omega); have a0 := P2.cell (j := 0) rfl; have a1 := P2.cell (j := 1) rfl; have f0 := P2.frozen 0; have f1 := P2.frozen 1)
  have P3 := (P2.set 0 (.int .i64 sz)).set 1 (.int .i64 lv)
  have z0 := P3.cell (j := 0) rfl
  have z1 := P3.cell (j := 1) rfl
  exact bodyPost_ret (v := .tuple #[.agg #[.int .i64 sz, .int .i64 lv], .bool true]) (by simp [results, Tryd.results40, go_sem, z0, z1]) rfl ⟨rfl, ((hb1.trans (hk2.below (by omega) (fun k e => by omega))).setCell (p := ⟨w.heap.size, 0, none⟩) (Nat.le_refl _) _).setCell (p := ⟨w.heap.size, 1, none⟩) (Nat.le_refl _) _⟩

set_option maxRecDepth 100000 in
set_option maxHeartbeats 400000 in
theorem told_any (n m : Nat) (w : World) (hn : n ≤ 33554432) (hm : m ≤ 67108864) : Calls Tryd.prog 75 #[.agg #[.int .i64 (n : Int), .int .i64 (m : Int)]] w fun e w' => e = .returned (.bool true) ∧ Below w.heap.size w w' := by
  obtain ⟨w1, hw1, hb1, P1, hs1⟩ := one_new w [.int .i64 (n : Int), .int .i64 (m : Int)] 60
  have p0 := P1.cell (j := 0) rfl
  have p1 := P1.cell (j := 1) rfl
  have hd : decide ((n : Int) ≤ 33554432) = true := by simp; omega
  have hd2 : decide ((m : Int) ≤ 67108864) = true := by simp; omega
  go_enter Tryd.func75, Tryd.ntmps75
  go_wp2_with fail
  go_ret
  exact ⟨rfl, hb1⟩
end Go.Proofs.YtbmijpjmdpdfkaaDoor
