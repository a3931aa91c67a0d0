/- DigestEnds, the walk. -/
import Derived.Test.YtpibpjbeedcefaaDoorCuts
import Derived.Test.YtpibpjbeedcefaaDoorOne
namespace Go.Proofs.YtpibpjbeedcefaaDoor
open Go.RowKit

def endsF (c : Nat) (j : Nat) : UInt8 := (c + j).toUInt8
def endsRow (c p k : Nat) : List Value := half p k (fun j => bval (endsF c j)) bz

theorem ends_zero (c p : Nat) : endsRow c p 0 = (zrow p).toList := by
  unfold endsRow
  rw [half_zero, zrow_list]
  apply List.ext_getElem
  · simp
  · intro i h1 h2
    simp [bz]
theorem ends_all (c p : Nat) : endsRow c p p = ((List.range p).map (endsF c)).map bval := by
  unfold endsRow
  rw [half_all, List.map_map]
  rfl

set_option maxRecDepth 100000 in
set_option maxHeartbeats 1000000 in
theorem ends_walk (c : Nat) (z : Int) (w : World) (hk : Keys w) :
    Calls Tryd.prog 5 #[.int .u8 (c : Int), .int .i64 z] w fun e w' => e = .returned (.bool true) ∧ Below w.heap.size w w' := by
  obtain ⟨i5, hi, hz0, hz1, hz2⟩ := info_parts Tryd.info5
  go_enter Tryd.func5, Tryd.ntmps5
  go_wp2_with fail
  refine (begun_any w hk).mono ?_
  rintro e w1 ⟨rfl, hb1⟩
  have hk1 := hk.below hb1 hk.lt
  go_wp2_with fail
  refine (place_any z 300 w1 (by decide) (by decide)).mono ?_
  rintro e w1' ⟨p, hp, rfl, rfl⟩
  have hmk : ∀ w : World, (Instr.makeSlice 23 (.int .i64 (p : Int)) (.int .i64 (p : Int))).run Tryd.prog w = .ok (.slice (some ⟨w.heap.size, 0, none⟩) p p) (w.alloc (.cells (zrow p) 5)) := fun w => by
    rw [run_make_bytes (P := Tryd.prog) w 23 5 i5 Tryd.underlying23 hi hz0 hz1 hz2 .i64 .i64 (p : Int) (p : Int) (by omega) (by omega) (by omega)]
    rfl
  have hR0 : Blk (w1.alloc (.cells (zrow p) 5)) w1.heap.size 5 (endsRow c p 0) := by
    rw [ends_zero]
    unfold Blk
    simpa using heap_alloc_new w1 (.cells (zrow p) 5)
  have hB0 : Below w1.heap.size w1 (w1.alloc (.cells (zrow p) 5)) := (Below.refl _ _).alloc (Nat.le_refl _) _
  go_wp2_with fail
  clear hmk
  go_loopw [6] (fun s6 wr => ∃ k : Nat, k ≤ p ∧ s6 = .int .i64 (k : Int) ∧ Blk wr w1.heap.size 5 (endsRow c p k) ∧ Below w1.heap.size w1 wr) (fun s6 _ => p - (intOf s6).toNat)
  case atStart => exact ⟨0, by omega, rfl, hR0, hB0⟩
  case round =>
    clear hR0 hB0
    obtain ⟨k, hkp, rfl, hR, hB⟩ := hrel
    by_cases hlt : k < p
    · have hc0 : wr.cell? ⟨w1.heap.size, k, none⟩ = some (.int .u8 0) := hR.cell (half_ge hlt (Nat.le_refl _))
      have hf := hR.frozen k
      have HS : Hid ((endsRow c p k).set k (.int .u8 ((((c + k) % 256 : Nat)) : Int)) = endsRow c p (k + 1)) := by
        unfold Hid endsRow
        rw [← half_set hlt]
        simp [bval, endsF]
      go_wp2_with fail
      refine ⟨⟨k + 1, by omega, by go_num, hR.setTo (z' := (((c + k) % 256 : Nat) : Int)) (by omega) HS.out, hB.setCell (Nat.le_refl w1.heap.size) _⟩, by simp [intOf]; omega⟩
    · obtain rfl : k = p := by omega
      rw [ends_all] at hR
      have hr : Rd wr (some ⟨w1.heap.size, 0, none⟩) k k ((List.range k).map (endsF c)) :=
        ⟨by simp, Nat.le_refl _, by unfold maxLen; omega, (fun h0 => by cases h0), fun a ha j u hu => by
          obtain rfl : ⟨w1.heap.size, 0, none⟩ = a := by simpa using ha
          rw [Addr.add_lit, Nat.zero_add]
          exact hR.cell (by rw [List.getElem?_map, hu]; rfl)⟩
      generalize (List.range k).map (endsF c) = bs at hr
      have hk2 := hk1.below hB hk1.lt
      have hB2 := hb1.trans (hB.mono hb1.size)
      go_wp2_with fail
      refine (sum_one _ k k bs wr hr hk2 (by omega)).mono ?_
      rintro e w3 ⟨rfl, hb3⟩
      have hr3 := hr.below hb3 (Nat.le_refl _)
      have hB3 := hB2.trans (hb3.mono hB2.size)
      go_wp2_with fail
      refine (one_any _ k k bs w3 hr3 (by omega)).mono ?_
      rintro e w4 ⟨rfl, hb4⟩
      have heq := fun w => eql_same w (sha bs) (sha_length bs)
      have heq2 := fun w => equalIn_same w (sha bs) (sha_length bs)
      generalize (sha bs).map bval = cs at heq heq2 ⊢
      go_wp2_with fail
      go_ret
      exact ⟨rfl, hB3.trans (hb4.mono hB3.size)⟩
end Go.Proofs.YtpibpjbeedcefaaDoor
