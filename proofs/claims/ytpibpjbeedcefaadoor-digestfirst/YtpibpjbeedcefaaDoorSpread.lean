/- The walk of digest.spread: the words of a block. No condition but that the block has 64 bytes. -/
import Derived.Test.YtpibpjbeedcefaaDoorBlk
import Derived.BigRegion
namespace Go.Proofs.YtpibpjbeedcefaaDoor
open Go.RowKit

theorem or_low32 (a c : Nat) (ha : a < 16777216) (hc : c < 256) : bits .or .u32 ((a : Int) * 256 % 4294967296) (c : Int) = ((a * 256 + c : Nat) : Int) := by
  have h1 : (a : Int) * 256 % 4294967296 = (a : Int) * 256 := by omega
  rw [h1, bits_join .u32 32 (by decide) wraps_u32 8 ((a : Int) * 256) (c : Int) (by omega) (by omega) (by omega) (by omega) (by omega) (by omega)]
  omega

def wz (_ : Nat) : Value := .int .u32 0
def wf (f : Nat → Nat) (j : Nat) : Value := .int .u32 (f j : Int)

theorem half_same {n i : Nat} {f g : Nat → Value} (hi : i < n) : (half n i f g).set i (g i) = half n i f g := by
  apply List.ext_getElem?
  intro j
  by_cases e : i = j
  · subst e
    rw [List.getElem?_set_self (by rw [half_length]; exact hi), half_ge hi (Nat.le_refl _)]
  · rw [List.getElem?_set_ne e]

theorem sliceAt_lh (g o l h : Nat) (zl zh : Int) (hzl : zl = l) (hzh : zh = h) (h1 : l ≤ h) (h2 : h ≤ 64) (h3 : l < 64) (w : World) :
    (Instr.sliceAt 47 (.pointer (some ⟨g, o, none⟩)) (some (.int .i64 zl)) (some (.int .i64 zh)) none).run Tryd.prog w = .ok (.slice (some ⟨g, o + l, none⟩) (h - l) (64 - l)) w := by
  subst hzl hzh
  have hal : Tryd.prog.arrayLen 47 = 64 := by simp [Program.arrayLen, Tryd.underlying47]
  have hel : Tryd.prog.elem 47 = 5 := by simp [Program.elem, Tryd.underlying47]
  obtain ⟨i5, hi, _, hz1, _⟩ := info_parts Tryd.info5
  rw [run_sliceAt_array_lh w 47 ⟨g, o, none⟩ (by rw [hal, hel]; exact Tryd.underlying47) .i64 .i64 l h (by omega) (by omega) (by rw [hal]; omega), hal, hel]
  simp [slicedAt, sizeOf, typeInfo, hi, hz1, Addr.add_lit, show ¬ 64 = l by omega]

theorem sliceAt_l (g o l : Nat) (zl : Int) (hzl : zl = l) (h3 : l < 64) (w : World) :
    (Instr.sliceAt 47 (.pointer (some ⟨g, o, none⟩)) (some (.int .i64 zl)) none none).run Tryd.prog w = .ok (.slice (some ⟨g, o + l, none⟩) (64 - l) (64 - l)) w := by
  subst hzl
  have hal : Tryd.prog.arrayLen 47 = 64 := by simp [Program.arrayLen, Tryd.underlying47]
  have hel : Tryd.prog.elem 47 = 5 := by simp [Program.elem, Tryd.underlying47]
  obtain ⟨i5, hi, _, hz1, _⟩ := info_parts Tryd.info5
  rw [run_sliceAt_array_l w 47 ⟨g, o, none⟩ (by rw [hal, hel]; exact Tryd.underlying47) .i64 l (by omega) (by rw [hal]; omega), hal, hel]
  simp [slicedAt, sizeOf, typeInfo, hi, hz1, Addr.add_lit, show ¬ 64 = l by omega]

set_option maxRecDepth 100000 in
set_option maxHeartbeats 400000 in
theorem spread_fun (f : Nat → Nat) (blk : List UInt8) (w : World) (hl : blk.length = 64) (hf : ∀ j, f j < 4294967296) (h16 : ∀ j, j < 16 → f j = n8 ((blk.drop (4 * j)).take 4))
    (hst : ∀ i, 16 ≤ i → i < 64 → f i = (f (i - 16) + lo0 (f (i - 15)) + f (i - 7) + lo1 (f (i - 2))) % 4294967296) :
    Calls Tryd.prog 30 #[.agg (blk.map bval).toArray] w fun e w' => e = .returned (.agg ((List.range 64).map (wf f)).toArray) ∧ Below w.heap.size w w' := by
  have HL : Hid (blk.length = 64) := hl
  have HF : Hid (∀ j, f j < 4294967296) := hf
  have H16 : Hid _ := h16
  have HST : Hid _ := hst
  clear hl hf h16 hst
  go_enter Tryd.func30, Tryd.ntmps30
  go_wp2_with fail
  go_loopw [11] (fun i wr => ∃ k : Nat, k ≤ 16 ∧ i = .int .i64 (k : Int) ∧ Blk wr (w.heap.size + 1) 64 (half 64 k (wf f) wz) ∧ Blk wr w.heap.size 47 (blk.map bval) ∧ Below w.heap.size w wr) (fun i _ => 16 - (intOf i).toNat)
  case atStart =>
    refine ⟨0, by omega, rfl, ?_, (Blk.new w 47 (blk.map bval)).alloc _, ((Below.refl _ _).alloc (Nat.le_refl _) _).alloc (by simp) _⟩
    rw [half_zero]
    have := Blk.new (w.alloc (.cells (blk.map bval).toArray 47)) 64 ((List.range 64).map wz)
    rw [show (w.alloc (.cells (blk.map bval).toArray 47)).heap.size = w.heap.size + 1 by simp] at this
    exact this
  case round =>
    obtain ⟨k, hk, rfl, hB, hb, hbel⟩ := hrel
    by_cases hlt : k < 16
    · have hsl := sliceAt_lh w.heap.size 0 (k * 4) ((k + 1) * 4) ((k : Int) * 4) (((k : Int) + 1) * 4) (by omega) (by omega) (by omega) (by omega) (by omega)
      rw [show 0 + k * 4 = k * 4 by omega, show (k + 1) * 4 - k * 4 = 4 by omega] at hsl
      go_wp2_with fail
      go_loopw [21] (fun j wq => ∃ m : Nat, m ≤ 4 ∧ j = .int .i64 (m : Int) ∧ Blk wq (w.heap.size + 1) 64 ((half 64 k (wf f) wz).set k (.int .u32 (n8 ((blk.drop (4 * k)).take m) : Int))) ∧ Blk wq w.heap.size 47 (blk.map bval) ∧ Below w.heap.size w wq) (fun j _ => 4 - (intOf j).toNat)
      case atStart =>
        refine ⟨0, by omega, rfl, ?_, hb, hbel⟩
        have : (half 64 k (wf f) wz).set k (.int .u32 (n8 ((blk.drop (4 * k)).take 0) : Int)) = half 64 k (wf f) wz := half_same (f := wf f) (g := wz) (show k < 64 by omega)
        rw [this]; exact hB
      case round =>
        clear hB hb hbel hsl
        obtain ⟨m, hm, rfl, hB, hb, hbel⟩ := hrel
        by_cases hlm : m < 4
        · have hkl : 4 * k + m < blk.length := by rw [HL.out]; omega
          have hsn : n8 ((blk.drop (4 * k)).take (m + 1)) = n8 ((blk.drop (4 * k)).take m) * 256 + (blk[4 * k + m]).toNat := by
            rw [List.take_succ_eq_append_getElem (by simp; omega), n8_snoc]
            simp
          have hac := n8_lt ((blk.drop (4 * k)).take m)
          have hkk : ((blk.drop (4 * k)).take m).length = m := by simp; omega
          rw [hkk] at hac
          have hp : 256 ^ m ≤ 256 ^ 3 := Nat.pow_le_pow_right (by decide) (by omega)
          have hc256 : (blk[4 * k + m]).toNat < 256 := (blk[4 * k + m]).toNat_lt
          have hc : wr.cell? ⟨w.heap.size, k * 4 + m, none⟩ = some (.int .u8 ((blk[4 * k + m]).toNat : Int)) := hb.cell (by
            rw [show k * 4 + m = 4 * k + m by omega, List.getElem?_map, List.getElem?_eq_getElem hkl]; rfl)
          have hc1 : wr.cell? ⟨w.heap.size + 1, k, none⟩ = some (.int .u32 (n8 ((blk.drop (4 * k)).take m) : Int)) := hB.cell (by
            rw [List.getElem?_set_self (by rw [half_length]; omega)])
          have hfr := hB.frozen k
          generalize (blk[4 * k + m]).toNat = c at hc hsn hc256
          generalize n8 ((blk.drop (4 * k)).take m) = acc at hac hsn hc1 hB
          have HV : Hid _ := or_low32 acc c (by omega) hc256
          have HS : Hid _ := hsn
          clear hsn hac hkk hp hkl
          go_wp2
          go_roundw
          case rel =>
            refine ⟨m + 1, by omega, by go_num, ?_, hb.other _ (by omega), hbel.setCell (Nat.le_succ _) _⟩
            refine hB.setTo HV.out ?_
            rw [List.set_set, HS.out]
          case measure => simp [intOf]; omega
        · obtain rfl : m = 4 := by omega
          have hB' : Blk wr (w.heap.size + 1) 64 (half 64 (k + 1) (wf f) wz) := by
            rw [← half_set (show k < 64 by omega), wf, H16.out k hlt]; exact hB
          go_wp2
          go_roundw
          case rel => exact ⟨k + 1, by omega, by go_num, hB', hb, hbel⟩
          case measure => simp [intOf]; omega
    · have hz : (k : Int) = 16 := by omega
      have hz' : k = 16 := by omega
      rw [hz'] at hB
      clear hz' hb
      go_wp2_with fail
      clear hz hk hlt
      go_loopw [6] (fun i wq => ∃ k : Nat, 16 ≤ k ∧ k ≤ 64 ∧ i = .int .i64 (k : Int) ∧ Blk wq (w.heap.size + 1) 64 (half 64 k (wf f) wz) ∧ Below w.heap.size w wq) (fun i _ => 64 - (intOf i).toNat)
      case atStart => exact ⟨16, by omega, by omega, rfl, hB, hbel⟩
      case round =>
        clear hB hbel
        obtain ⟨k, hk16, hk, rfl, hB, hbel⟩ := hrel
        by_cases hlt : k < 64
        · have c16 : wr.cell? ⟨w.heap.size + 1, k - 16, none⟩ = some (.int .u32 (f (k - 16) : Int)) := hB.cell (half_lt (by omega) (by omega))
          have c15 : wr.cell? ⟨w.heap.size + 1, k - 15, none⟩ = some (.int .u32 (f (k - 15) : Int)) := hB.cell (half_lt (by omega) (by omega))
          have c7 : wr.cell? ⟨w.heap.size + 1, k - 7, none⟩ = some (.int .u32 (f (k - 7) : Int)) := hB.cell (half_lt (by omega) (by omega))
          have c2 : wr.cell? ⟨w.heap.size + 1, k - 2, none⟩ = some (.int .u32 (f (k - 2) : Int)) := hB.cell (half_lt (by omega) (by omega))
          have c0 : wr.cell? ⟨w.heap.size + 1, k, none⟩ = some (.int .u32 0) := hB.cell (half_ge (by omega) (by omega))
          have hfr := hB.frozen k
          have HS : Hid _ := HST.out k hk16 hlt
          have b16 := HF.out (k - 16)
          have b15 := HF.out (k - 15)
          have b7 := HF.out (k - 7)
          have b2 := HF.out (k - 2)
          generalize f (k - 16) = x16 at c16 HS b16
          generalize f (k - 15) = x15 at c15 HS b15
          generalize f (k - 7) = x7 at c7 HS b7
          generalize f (k - 2) = x2 at c2 HS b2
          go_wp2_with fail
          go_quiet (fail)
          have L0 := lo0_32 b15
          have L1 := lo1_32 b2
          go_wp2_with fail
          refine (turn7 x15 _ b15).mono ?_
          rintro e w' ⟨rfl, rfl⟩
          go_wp2_with fail
          refine (turn18 x15 _ b15).mono ?_
          rintro e w' ⟨rfl, rfl⟩
          go_wp2_with fail
          refine (turn17 x2 _ b2).mono ?_
          rintro e w' ⟨rfl, rfl⟩
          go_wp2_with fail
          refine (turn19 x2 _ b2).mono ?_
          rintro e w' ⟨rfl, rfl⟩
          go_wp2_with fail
          go_region
          go_wp2_with fail
          go_roundw
          case rel =>
            refine ⟨k + 1, by omega, by omega, by go_num, ?_, (bel_drewN hbel _).setCell (Nat.le_succ _) _⟩
            refine Blk.setTo (l := half 64 k (wf f) wz) (hB.drewN _) (z' := (f k : Int)) ?_ (half_set hlt)
            rw [HS.out]
            omega
          case measure => simp [intOf]; omega
        · obtain rfl : k = 64 := by omega
          rw [half_all] at hB
          have hlen : ((List.range 64).map (wf f)).length = 64 := by simp
          have hone : ((List.range 64).map (wf f)).toArray.all (·.oneCell') = true := all_oneCell_toArray (by
            intro v hv
            obtain ⟨j, _, rfl⟩ := List.mem_map.1 hv
            rfl)
          have hsz : (Tryd.prog.info? 64).map (·.size) = some ((List.range 64).map (wf f)).length := by rw [hlen]; exact Tryd.size64
          have HSz : Hid _ := hsz
          have HOne : Hid _ := hone
          clear hlen hsz hone
          obtain ⟨cs, HCS⟩ : ∃ cs, Hid (cs = (List.range 64).map (wf f)) := ⟨_, rfl⟩
          rw [← HCS.out] at hB HSz HOne
          go_wp2_with (first
            | (refine wpList_load_mid (by rfl) 64 (.tmp 2) (by rfl) (w.heap.size + 1) 0 (by rfl) cs (.array 64 45) hB.whole Tryd.underlying64 rfl HSz.out ?_)
            | (refine wpList_store_mid (by rfl) 64 (.tmp 2) (.tmp 79) (by rfl) (w.heap.size + 1) 0 cs.toArray (by rfl) (by rfl) (hB.there 0 _ (by simp)) HSz.out HOne.out ?_))
          refine bodyPost_ret (v := .agg cs.toArray) (results_cell_row (p := 2) (ty := 64) rfl _ _ (w.heap.size + 1) 64 cs.toArray (0, 0) (.array 64 45) rfl (hB.store cs rfl) Tryd.underlying64 rfl (by simpa using HSz.out)) rfl ?_
          rw [HCS.out]
          exact ⟨rfl, below_setCells hbel _ (Nat.le_succ _) _ _⟩
end Go.Proofs.YtpibpjbeedcefaaDoor
