/- The walk of env's sheet.with, onto nothing, of one declaration named "a". No condition but that it has no lists. -/
import Derived.Test.YtekdalbhgdkckaaGreatDoorE12
import Derived.Test.YtekdalbhgdkckaaGreatDoorE13
namespace Go.Proofs.YtekdalbhgdkckaaGreatDoor
open Go.RowKit

set_option maxRecDepth 100000 in
theorem with_any (q o : Nat) (k own : Int) (w : World) (hQ : Blk w q 43 [.pointer (some ⟨o, 0, none⟩)]) (hO : Blk w o 32 (dcl k aB)) :
    Calls Tryz.prog 17 #[.pointer none, .slice (some ⟨q, 0, none⟩) 1 1, .int .i64 own] w fun e w' => ∃ sh, e = .returned (.pointer (some ⟨sh, 0, none⟩)) ∧ Sheet w' sh o k ∧ w.heap.size ≤ sh ∧ Below w.heap.size w w' := by
  have hmk := make52
  obtain ⟨w1, hw1⟩ : ∃ w1, w.alloc (.map #[] 0) = w1 := ⟨_, rfl⟩
  have hs1 : w1.heap.size = w.heap.size + 1 := by rw [← hw1]; simp
  have hb1 : Below w.heap.size w w1 := by rw [← hw1]; exact (Below.refl _ _).alloc (Nat.le_refl _) _
  have m1 : w1.heap[w.heap.size]? = some (.map #[] 0) := by rw [← hw1]; exact (MapKept.heap_alloc w _).1
  obtain ⟨w2, hw2, hb2, S2, hs2⟩ := new_oneE w1 [.pointer none, .int .i64 0, .slice (some ⟨q, 0, none⟩) 1 1, .map (some w.heap.size)] 54
  rw [hs1] at S2 hs2
  have bel2 : Below w.heap.size w w2 := hb1.trans (hb2.mono hb1.size)
  have m2 : w2.heap[w.heap.size]? = some (.map #[] 0) := (hb2.block w.heap.size (by omega)).trans m1
  have Q2 := (hQ.on bel2).drew
  have O2 := (hO.on bel2).drew
  have lq := hQ.lt
  have lo := hO.lt
  obtain ⟨w3, hw3⟩ : ∃ w3, w2.drew = w3 := ⟨_, rfl⟩
  have S3 := S2.drew
  have m3 : w2.drew.heap[w.heap.size]? = some (.map #[] 0) := m2
  have bel3 : Below w.heap.size w w2.drew := bel2.drew
  have hs3 : w2.drew.heap.size = w.heap.size + 1 + 1 := hs2
  rw [hw3] at S3 m3 bel3 Q2 O2 hs3
  have H : Hid (((w.alloc (.map #[] 0)).alloc (.cells #[.pointer none, .int .i64 0, .slice (some ⟨q, 0, none⟩) 1 1, .map (some w.heap.size)] 54)).drew = w3) := by
    show _ = _
    rw [hw1]
    rw [← hw3, ← hw2]
  clear hw1 hw2 hw3 m1 m2 hQ hO hb1 hb2 hs1 hs2 S2 bel2
  obtain ⟨n, HN⟩ : ∃ n, Hid (w.heap.size = n) := ⟨_, rfl⟩
  rw [HN.out] at S3 m3 bel3 lq lo hs3 H ⊢
  go_enter Tryz.func17, Tryz.ntmps17
  go_wp2_with fail
  go_loopw [0, 1] (fun v0 v1 wr => v0 = .pointer none ∧ v1 = .slice (some ⟨q, 0, none⟩) 1 1 ∧ wr = w) (fun _ _ _ => 0)
  case atStart => exact ⟨rfl, rfl, rfl⟩
  case round =>
    obtain ⟨rfl, rfl, hwr⟩ := hrel
    subst hwr
    go_wp2_with fail
    go_region_with (go_at_call 19; refine (end_nil _).mono ?_; rintro e _ ⟨rfl, rfl⟩)
    all_goals
      rw [HN.out]
      rw [H.out]
      clear hmk
      go_wp2_with fail
      obtain ⟨wo, hwo⟩ : ∃ wo, wo = wr := ⟨_, rfl⟩
      subst hwo
      go_loopw [53] (fun v wr => (v = .int .i64 0 ∧ wr = w3) ∨ (v = .int .i64 1 ∧ Hid (Sheet wr (n + 1) o k ∧ Below n wo wr))) (fun v _ => 1 - (intOf v).toNat)
      case atStart => exact .inl ⟨rfl, rfl⟩
      case round =>
        rcases hrel with ⟨rfl, hh⟩ | ⟨rfl, hF⟩
        · subst hh
          have q0 := Q2.cell (j := 0) rfl
          have x3 := S3.cell (j := 3) rfl
          have x1 := S3.cell (j := 1) rfl
          have n3 := O2.cell (j := 3) rfl
          have md : wr.drew.heap[n]? = some (.map #[] 0) := m3
          have hmu := put_first52 (v := .int .i64 0) md
          obtain ⟨w5, hw5⟩ : ∃ w5, ({ wr.drew with heap := wr.drew.heap.setIfInBounds n (.map #[⟨.string aB, .int .i64 0, 0⟩] (0 + 1)) } : World) = w5 := ⟨_, rfl⟩
          rw [hw5] at hmu
          have k5 : Keep wr w5 (· = n) := by
            rw [← hw5]
            exact ⟨rfl, rfl, rfl, by simp, fun j hj hS => by show (wr.heap.setIfInBounds n _)[j]? = _; simp [Ne.symm hS]⟩
          have m5 : w5.heap[n]? = some (.map #[⟨.string aB, .int .i64 0, 0⟩] (0 + 1)) := by rw [← hw5]; exact (MapKept.heap_set (w := wr) m3).1
          have SH : Sheet w5 (n + 1) o k := ⟨⟨q, n, _, S3.keep k5 (by omega), Q2.keep k5 (by omega), m5⟩, O2.keep k5 (by omega)⟩
          have B5 : Below n wo w5 := bel3.trans (k5.below (by omega) (fun j e => by omega))
          have FF : Hid (Sheet w5 (n + 1) o k ∧ Below n wo w5) := ⟨SH, B5⟩
          clear hw5 m5 k5 SH B5 m3 md S3 O2 Q2
          go_wp2_with fail
          go_region
          all_goals
            go_wp2_with fail
            go_roundw
            case rel => exact .inr ⟨rfl, FF⟩
            case measure => simp [intOf]
        · clear Q2 S3 O2 m3
          go_wp2_with fail
          go_ret
          exact ⟨n + 1, rfl, hF.out.1, by omega, hF.out.2⟩
end Go.Proofs.YtekdalbhgdkckaaGreatDoor
