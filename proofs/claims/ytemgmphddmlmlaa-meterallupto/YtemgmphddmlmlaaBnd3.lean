/- The walks of bounds' lend and of areWithin. No condition but that the levels lie in memory. -/
import Derived.Test.YtemgmphddmlmlaaBnd2
namespace Go.Proofs.Ytemgmphddmlmlaa
open Go.RowKit

theorem spend_any (L : Lv) : UseAt 39 Lv.size L := Lv.ind (P := fun L => UseAt 39 Lv.size L) (fun k n args ih => spend_node k n args ih) L

set_option maxRecDepth 100000 in
set_option maxHeartbeats 400000 in
theorem lend_any (L : Lv) : UseAt 36 (fun _ => 0) L := by
  intro p d w B b off k n args a cap he hp hd hB hL
  obtain ⟨w1, hw1, hb1, P0, P1, hs1⟩ := two_new w ([.int .i64 (p : Int), .int .i64 (d : Int)] : List Value) ([.int .i64 0, .int .i64 0] : List Value) 75 75
  have hlt := hL.lt
  have mv1 : ∀ o : Nat, w1.cell? ⟨b, o, none⟩ = w.cell? ⟨b, o, none⟩ := fun o => hb1.cell (p := ⟨b, o, none⟩) (by show b < w.heap.size; omega)
  have kc := spend_any L p d w1 B b off k n args a cap he hp hd (by omega) ⟨hL.lt, (mv1 _).trans hL.c0, (mv1 _).trans hL.c1, (mv1 _).trans hL.c2, hL.node.below hb1 hB⟩
  have p0 := P0.cell (j := 0) rfl
  have p1 := P0.cell (j := 1) rfl
  clear hL mv1 he
  generalize decide (L.size ≤ p ∧ L.deep ≤ d) = ok at kc ⊢
  go_enter Try.func36, Try.ntmps36
  go_wp2_with (go_at_call 39; refine kc.mono ?_; rintro e w6 ⟨hb6, x, y, rfl, hxy⟩; clear hxy; have P6 := P0.below hb6 P0.lt; have p6 := P6.cell (j := 0) rfl; have q6 := P6.cell (j := 1) rfl; have Q6 := P1.below hb6 P1.lt; have q0 := Q6.cell (j := 0) rfl; have q1 := Q6.cell (j := 1) rfl; have g0 := Q6.frozen 0; have g1 := Q6.frozen 1)
  obtain ⟨R8, K8⟩ := st2 Q6 (.int .i64 (p : Int)) (.int .i64 (d : Int))
  have z0 := R8.cell (j := 0) rfl
  have z1 := R8.cell (j := 1) rfl
  have hz := hb6.size
  exact bodyPost_ret (v := .tuple #[.agg #[.int .i64 (p : Int), .int .i64 (d : Int)], .bool ok]) (by simp [results, Try.results36, go_sem, z0, z1]) rfl ⟨(hb1.trans (hb6.mono (by omega))).trans (K8.below (by omega) (by omega)), _, _, rfl, fun _ => ⟨by simp, rfl⟩⟩

set_option maxRecDepth 100000 in
set_option maxHeartbeats 400000 in
theorem within_any (ls : List Lv) (w : World) (B : Nat) (a : Option Addr) (cap : Nat) (k n : Int) (hB : B ≤ w.heap.size) (hN : Node w (· < B) k n ls a cap) :
    Calls Try.prog 28 #[.slice a ls.length cap] w fun e w' => e = .returned (.bool (ls.all Lv.fits)) ∧ Below w.heap.size w w' := by
  have kc := each_any 36 enter36 (fun _ => 0) ls (fun L _ => lend_any L) 64 32 w B a cap (by omega) (by omega) hB k n hN
  rw [roomB_none] at kc
  have hle := hN.le
  have hmx := hN.max
  clear hN
  generalize ls.all Lv.fits = ok at kc ⊢
  go_enter Try.func28, Try.ntmps28
  go_wp2_with (go_at_call 35; refine kc.mono ?_; rintro e w6 ⟨hb6, x, y, rfl, hxy⟩; clear hxy)
  go_ret
  exact ⟨rfl, hb6.alloc hb6.size _⟩

end Go.Proofs.Ytemgmphddmlmlaa
