/- The walk of digest.(*state).end: the mark, zeros, the length; the sum. No condition but that the state is one, and that there are at most 2^41 bytes. -/
import Derived.Test.YtpibpjbeedcefaaDoorTake
import Derived.Deep.WholeRow
namespace Go.Proofs.YtpibpjbeedcefaaDoor
open Go.RowKit

def bz (_ : Nat) : Value := .int .u8 0
theorem put_nil (X : List UInt8) (o : Nat) : put X o [] = X := splice_nil X o
theorem put_length (X cs : List UInt8) (o : Nat) (h : o + cs.length ≤ X.length) : (put X o cs).length = X.length := splice_length X cs o h
theorem put_snoc (X : List UInt8) (x k : Nat) (hk : k < 8) (hX : X.length = 64) : (put X 56 ((e8 x).take k)).set (56 + k) ((x / 2 ^ (8 * (7 - k))).toUInt8) = put X 56 ((e8 x).take (k + 1)) := by
  have hl := e8_length x
  have h1 : ((e8 x).take k).length = k := by rw [List.length_take]; omega
  have h2 : ((e8 x).take (k + 1)).length = k + 1 := by rw [List.length_take]; omega
  have h3 : (X.take 56).length = 56 := by rw [List.length_take]; omega
  have h4 : ((e8 x).take k ++ X.drop (56 + k)).set k ((x / 2 ^ (8 * (7 - k))).toUInt8) = (e8 x).take (k + 1) ++ X.drop (56 + (k + 1)) := by
    rw [List.set_append_right _ _ (by omega), h1, Nat.sub_self, e8_step x k hk, List.append_assoc]
    congr 1
    have hd : X.drop (56 + k) = X[56 + k] :: X.drop (56 + k + 1) := List.drop_eq_getElem_cons (by omega)
    rw [hd]
    rfl
  unfold put splice
  rw [h1, h2, List.set_append_right _ _ (by omega), h3, show 56 + k - 56 = k by omega, h4]

/-- The first block of the end, where bytes, the mark and zeros fill it. -/
def marked (rest : List UInt8) : List UInt8 := rest ++ (128 :: zeros (63 - rest.length))
theorem marked_of {blk rest : List UInt8} {r : Nat} (hl : blk.length = 64) (hr : r < 64) (h : blk.take r = rest) : put (blk.set r 128) (r + 1) (zeros (63 - r)) = marked rest := by
  have hrl : rest.length = r := by rw [← h, List.length_take]; omega
  unfold put splice marked zeros
  rw [hrl, List.drop_eq_nil_of_le (by rw [List.length_set, List.length_replicate]; omega), List.append_nil, List.take_succ_eq_append_getElem (by rw [List.length_set]; omega), List.take_set_of_le (Nat.le_refl r), h, List.getElem_set_self, List.append_assoc]
  rfl

theorem zeros_map (n : Nat) : (zeros n).map bval = List.replicate n (.int .u8 0) := by simp [zeros, bval]
theorem bytes_range {l : List UInt8} {n : Nat} (h : l.length = n) : (List.range n).map (fun i => bval (l.getD i 0)) = l.map bval := by
  subst h
  apply List.ext_getElem
  · simp
  · intro i h1 h2
    simp at h1
    simp [h1]
theorem sliceAt_le (g o l : Nat) (hl : l ≤ 64) : ∃ ao : Option Addr, (∀ zl : Int, zl = l → ∀ w, (Instr.sliceAt 47 (.pointer (some ⟨g, o, none⟩)) (some (.int .i64 zl)) none none).run Tryd.prog w = .ok (.slice ao (64 - l) (64 - l)) w) ∧ (0 < 64 - l → ao = some ⟨g, o + l, none⟩) := by
  by_cases h : l < 64
  · exact ⟨some ⟨g, o + l, none⟩, fun zl hz w => sliceAt_l g o l zl hz h w, fun _ => rfl⟩
  · obtain rfl : l = 64 := by omega
    refine ⟨some ⟨g, o, none⟩, fun zl hz w => ?_, fun h0 => by omega⟩
    subst hz
    have hal : Tryd.prog.arrayLen 47 = 64 := by simp [Program.arrayLen, Tryd.underlying47]
    have hel : Tryd.prog.elem 47 = 5 := by simp [Program.elem, Tryd.underlying47]
    obtain ⟨i5, hi, _, hz1, _⟩ := info_parts Tryd.info5
    rw [run_sliceAt_array_l w 47 ⟨g, o, none⟩ (by rw [hal, hel]; exact Tryd.underlying47) .i64 _ (by omega) (by rw [hal]; omega), hal, hel]
    simp [slicedAt, sizeOf, typeInfo, hi, hz1]

theorem pad_length (bs : List UInt8) : (pad bs).length = bs.length + 9 + (119 - bs.length % 64) % 64 := by
  unfold pad zeros
  simp only [List.length_append, List.length_replicate, e8_length, List.length_cons, List.length_nil]
  omega

/-- One block more. -/
theorem pad_one {bs rest : List UInt8} (hr : bs.length % 64 + 1 ≤ 56) (hrest : rest = bs.drop (64 * (bs.length / 64))) :
    comp (absorb (bs.length / 64) bs) (put (marked rest) 56 (e8 (bs.length * 8))) = absorb ((pad bs).length / 64) (pad bs) := by
  have hl := pad_length bs
  have e1 : (pad bs).length / 64 = bs.length / 64 + 1 := by omega
  have hrl : rest.length = bs.length % 64 := by rw [hrest, List.length_drop]; omega
  rw [e1]
  show _ = comp (absorb (bs.length / 64) (pad bs)) _
  have e2 : absorb (bs.length / 64) (pad bs) = absorb (bs.length / 64) bs := absorb_append _ _ _ (by omega)
  rw [e2]
  congr 1
  rw [List.take_of_length_le (by rw [List.length_drop]; omega)]
  have eR : (pad bs).drop (64 * (bs.length / 64)) = rest ++ ([128] ++ (zeros (55 - bs.length % 64) ++ e8 (bs.length * 8))) := by
    unfold pad
    rw [List.drop_append_of_le_length (by omega), ← hrest, show (119 - bs.length % 64) % 64 = 55 - bs.length % 64 by omega]
  have hm : (marked rest).length = 64 := by simp [marked, zeros, hrl]; omega
  have eL : (marked rest).take 56 = rest ++ ([128] ++ zeros (55 - bs.length % 64)) := by
    unfold marked zeros
    rw [List.take_append, List.take_of_length_le (by omega), hrl]
    congr 1
    rw [show 56 - bs.length % 64 = (55 - bs.length % 64) + 1 by omega, List.take_succ_cons, List.take_replicate, Nat.min_eq_left (by omega)]
    rfl
  rw [eR]
  unfold put splice
  rw [eL, e8_length, List.drop_eq_nil_of_le (by omega), List.append_nil]
  simp

/-- Two blocks more. -/
theorem pad_two {bs rest : List UInt8} (hr : 56 < bs.length % 64 + 1) (hrest : rest = bs.drop (64 * (bs.length / 64))) :
    comp (comp (absorb (bs.length / 64) bs) (marked rest)) (put (zeros 64) 56 (e8 (bs.length * 8))) = absorb ((pad bs).length / 64) (pad bs) := by
  have hl := pad_length bs
  have e1 : (pad bs).length / 64 = bs.length / 64 + 1 + 1 := by omega
  have hrl : rest.length = bs.length % 64 := by rw [hrest, List.length_drop]; omega
  rw [e1]
  show _ = comp (comp (absorb (bs.length / 64) (pad bs)) _) _
  have e2 : absorb (bs.length / 64) (pad bs) = absorb (bs.length / 64) bs := absorb_append _ _ _ (by omega)
  have e3 : pad bs = bs ++ (128 :: zeros (63 - bs.length % 64)) ++ (zeros 56 ++ e8 (bs.length * 8)) := by
    unfold pad zeros
    rw [show (119 - bs.length % 64) % 64 = (63 - bs.length % 64) + 56 by omega, ← List.replicate_append_replicate]
    simp
  have e4 : ((pad bs).drop (64 * (bs.length / 64))).take 64 = marked rest := by
    rw [e3, List.append_assoc, List.drop_append_of_le_length (by omega), ← hrest, ← List.append_assoc, List.take_append_of_le_length (by simp [zeros, hrl]; omega), List.take_of_length_le (by simp [zeros, hrl]; omega)]
    unfold marked
    rw [hrl]
  have e5 : ((pad bs).drop (64 * (bs.length / 64 + 1))).take 64 = zeros 56 ++ e8 (bs.length * 8) := by
    have h1 : (bs ++ (128 :: zeros (63 - bs.length % 64))).length = 64 * (bs.length / 64 + 1) := by simp [zeros]; omega
    rw [e3, ← h1, List.drop_left, List.take_of_length_le (by simp [zeros, e8_length])]
  have e6 : put (zeros 64) 56 (e8 (bs.length * 8)) = zeros 56 ++ e8 (bs.length * 8) := by
    unfold put splice zeros
    rw [e8_length, List.take_replicate, List.drop_eq_nil_of_le (by simp), List.append_nil]
    rfl
  rw [e2, e4, e5, e6]

set_option maxRecDepth 100000 in
set_option maxHeartbeats 2000000 in
theorem end_any (g : Nat) (bs blk : List UInt8) (len : Nat) (w : World) (h : Taken w g bs len blk) (hk : Keys w) (hg : 0 < g) (hlen : len ≤ 2199023255552) (hbl : bs.length = len) :
    Calls Tryd.prog 22 #[.pointer (some ⟨g, 0, none⟩)] w fun e w' => e = .returned (.agg ((sha bs).map bval).toArray) ∧ Below g w w' := by
  obtain ⟨r, Hr⟩ : ∃ r, Hid (r = bs.length % 64) := ⟨_, rfl⟩
  have hr64 : r < 64 := by rw [Hr.out]; omega
  have hS := h.st
  have HT : Hid _ := h.is
  rw [← Hr.out] at hS
  have hglt := hS.lt
  obtain ⟨zs, Hzs⟩ : ∃ zs, Hid (zs = (List.range 32).map bz) := ⟨_, rfl⟩
  have hO0 : Blk (w.alloc (.cells zs.toArray 27)) w.heap.size 27 zs := Blk.new _ _ _
  have hB0 : Below g w (w.alloc (.cells zs.toArray 27)) := (Below.refl _ _).alloc (Nat.le_of_lt hglt) _
  have hS1 : St (w.alloc (.cells zs.toArray 27)) g (absorb (bs.length / 64) bs) blk r len := hS.carry (Below.heap_alloc w _ g hglt)
  clear hS
  have hz27 : ∀ w : World, (zeroValue 27).run Tryd.prog w = .ok (.agg zs.toArray) w := by rw [Hzs.out]; exact (zero_of_info (n := 32) (by kernel_rfl)).1
  clear h
  go_enter Tryd.func22, Tryd.ntmps22
  go_wp2_with fail
  generalize w.alloc (.cells zs.toArray 27) = w1 at hO0 hB0 hS1 ⊢
  clear hz27
  have hc72 := hS1.heldAt
  have hf72 := hS1.row.frozen 72
  have hcb := hS1.byte hr64
  have hfb := hS1.row.frozen (8 + r)
  unfold bval at hcb
  generalize ((blk.getD r 0).toNat : Int) = old at hcb
  go_region
  clear hcb hfb old hc72 hf72
  have hS2 : St (w1.setCell ⟨g, 8 + r, none⟩ (.int .u8 128)).drew g (absorb (bs.length / 64) bs) (blk.set r 128) r len := (hS1.setByte hr64 rfl).carry rfl
  have hB2 : Below g w (w1.setCell ⟨g, 8 + r, none⟩ (.int .u8 128)).drew := (hB0.setCell (Nat.le_refl g) _).trans ⟨rfl, rfl, rfl, Nat.le_refl _, fun _ _ => rfl⟩
  have hO2 : Blk (w1.setCell ⟨g, 8 + r, none⟩ (.int .u8 128)).drew w.heap.size 27 zs := hO0.other _ (by omega)
  generalize (w1.setCell ⟨g, 8 + r, none⟩ (.int .u8 128)).drew = w2 at hS2 hB2 hO2 ⊢
  clear hS1 hB0 hO0
  have hc72 := hS2.heldAt
  have hf72 := hS2.row.frozen 72
  obtain ⟨rest, Hrest⟩ : ∃ rest, Hid (rest = bs.drop (64 * (bs.length / 64))) := ⟨_, rfl⟩
  have HM : Hid (put (blk.set r 128) (r + 1) (zeros (63 - r)) = marked rest) := by
    have h64 := hS2.l64
    rw [List.length_set] at h64
    exact marked_of h64 hr64 (by rw [Hrest.out, Hr.out]; exact HT.out)
  obtain ⟨ao4, hsl0, hao4⟩ := sliceAt_le g 8 (r + 1) (by omega)
  have hsl : ∀ w : World, (Instr.sliceAt 47 (.pointer (some ⟨g, 8, none⟩)) (some (.int .i64 ((r : Int) + 1))) none none).run Tryd.prog w = .ok (.slice ao4 (63 - r) (63 - r)) w := by
    rw [show 64 - (r + 1) = 63 - r by omega] at hsl0
    exact hsl0 _ (by omega)
  rw [show 64 - (r + 1) = 63 - r by omega] at hao4
  have HA4 : Hid _ := hao4
  clear hsl0 hao4
  have hS3 : St (w2.setCell ⟨g, 72, none⟩ (.int .i64 ((r : Int) + 1))) g (absorb (bs.length / 64) bs) (blk.set r 128) (r + 1) len := hS2.setHeld (by omega)
  have hB3 : Below g w (w2.setCell ⟨g, 72, none⟩ (.int .i64 ((r : Int) + 1))) := hB2.setCell (Nat.le_refl g) _
  have hO3 : Blk (w2.setCell ⟨g, 72, none⟩ (.int .i64 ((r : Int) + 1))) w.heap.size 27 zs := hO2.other _ (by omega)
  clear hS2 hB2 hO2
  have hc3 := hS3.heldAt
  have HC6 : Hid (Blk (w2.setCell ⟨g, 72, none⟩ (.int .i64 ((r : Int) + 1))).drew g 49 (stCells (absorb (bs.length / 64) bs) (blk.set r 128) (r + 1) len)) := hS3.row.drew
  have HC3 : Hid (8 + (r + 1) + (63 - r) ≤ (stCells (absorb (bs.length / 64) bs) (blk.set r 128) (r + 1) len).length) := by unfold Hid; rw [stCells_length hS3.l64]; omega
  by_cases hbig : 56 < r + 1
  · go_wp2_with fail
    go_region_law ((refine step_clear rfl (.tmp 33) 23 rfl 5 Tryd.underlying23 zero5 ao4 (63 - r) (63 - r) (by rfl) g (8 + (r + 1)) 49 _ HC6.out HC3.out HA4.out ?_; intro w4 hb4 hg4))
    have hS4 : St w4 g (absorb (bs.length / 64) bs) (marked rest) (r + 1) len := by
      have := hS3.splice (r + 1) (zeros (63 - r)) (by simp [zeros]; omega) (by rw [zeros_map]; exact hb4)
      rw [HM.out] at this
      exact this
    have hB4 : Below g w w4 := hB3.trans (grownTo (show (w2.setCell ⟨g, 72, none⟩ (.int .i64 ((r : Int) + 1))).grownBy w4 (some g) from ⟨hg4.os, hg4.tape, hg4.output, hg4.size, hg4.block⟩) (Nat.le_refl g) (Nat.le_of_lt hS3.lt))
    have hO4 : Blk w4 w.heap.size 27 zs := hO3.carry (hg4.block w.heap.size hO3.lt (by simp; omega))
    clear hb4 hg4 hS3 hB3 hO3 hc3 HC6 HC3 HA4 hsl hc72 hf72 HM
    go_wp2_with fail
    refine (mix_any g _ _ _ _ _ hS4 (hk.below hB4 hg)).mono ?_
    rintro e w5 ⟨rfl, hS5, hG5⟩
    have hB5 : Below g w w5 := hB4.trans (grownTo hG5 (Nat.le_refl g) (Nat.le_of_lt hS4.lt))
    have hO5 : Blk w5 w.heap.size 27 zs := hO4.carry (hG5.block w.heap.size hO4.lt (by simp; omega))
    have HFin : Hid (comp (comp (absorb (bs.length / 64) bs) (marked rest)) (put (zeros 64) 56 (e8 (len * 8))) = absorb ((pad bs).length / 64) (pad bs)) := by
      rw [← hbl]
      exact pad_two (by rw [← Hr.out]; omega) Hrest.out
    clear hS4 hB4 hO4 hG5
    have hc5 : w5.cell? ⟨g, 72, none⟩ = some (.int .i64 0) := hS5.heldAt
    have hsl0 : ∀ w : World, (Instr.sliceAt 47 (.pointer (some ⟨g, 8, none⟩)) (some (.int .i64 0)) none none).run Tryd.prog w = .ok (.slice (some ⟨g, 8, none⟩) 64 64) w := fun w => sliceAt_l g 8 0 0 rfl (by decide) w
    have HC6 : Hid (Blk w5.drew g 49 (stCells (comp (absorb (bs.length / 64) bs) (marked rest)) (marked rest) 0 len)) := hS5.row.drew
    have HC3 : Hid (8 + 0 + 64 ≤ (stCells (comp (absorb (bs.length / 64) bs) (marked rest)) (marked rest) 0 len).length) := by unfold Hid; rw [stCells_length hS5.l64]; omega
    go_wp2_with fail
    go_region_law ((refine step_clear rfl (.tmp 43) 23 rfl 5 Tryd.underlying23 zero5 (some ⟨g, 8, none⟩) 64 64 (by rfl) g (8 + 0) 49 _ HC6.out HC3.out (fun _ => rfl) ?_; intro w4 hb4 hg4))
    have hX : St w4 g (comp (absorb (bs.length / 64) bs) (marked rest)) (zeros 64) 0 len := by
      have := hS5.splice 0 (zeros 64) (by simp [zeros]) (by rw [zeros_map]; exact hb4)
      rw [show put (marked rest) 0 (zeros 64) = zeros 64 from splice_all _ _ (by rw [hS5.l64]; simp [zeros])] at this
      exact this
    have hBX : Below g w w4 := hB5.trans (grownTo (show w5.grownBy w4 (some g) from ⟨hg4.os, hg4.tape, hg4.output, hg4.size, hg4.block⟩) (Nat.le_refl g) (Nat.le_of_lt hS5.lt))
    have hOX : Blk w4 w.heap.size 27 zs := hO5.carry (hg4.block w.heap.size hO5.lt (by simp; omega))
    have HX64 : Hid ((zeros 64).length = 64) := hX.l64
    clear hb4 hg4 hS5 hB5 hO5 hc5 HC6 HC3 hsl0
    generalize zeros 64 = X at hX HX64 HFin
    obtain ⟨hd, Hhd⟩ : ∃ hd : Nat, Hid (hd = 0) := ⟨0, rfl⟩
    rw [← Hhd.out] at hX
    generalize comp (absorb (bs.length / 64) bs) (marked rest) = v1 at hX HFin
    have hcl := hX.lenAt
    go_wp2_with fail
    go_loopw [49] (fun s49 wr => ∃ k : Nat, k ≤ 8 ∧ s49 = .int .i64 (k : Int) ∧ St wr g v1 (put X 56 ((e8 (len * 8)).take k)) hd len ∧ Below g w wr ∧ Blk wr w.heap.size 27 zs) (fun s49 _ => 8 - (intOf s49).toNat)
    case atStart => exact ⟨0, by omega, rfl, by rw [List.take_zero, put_nil]; exact hX, hBX, hOX⟩
    case round =>
      clear hX hBX hOX hcl
      obtain ⟨k, hk8, rfl, hS, hB, hO⟩ := hrel
      by_cases hlt : k < 8
      · have hcb := hS.byte (show 56 + k < 64 by omega)
        have hfb := hS.row.frozen (8 + (56 + k))
        have HS2 : Hid (∀ z : Int, z = (((len * 8 / 2 ^ (8 * (7 - k))).toUInt8.toNat : Nat) : Int) → St (wr.setCell ⟨g, 8 + (56 + k), none⟩ (.int .u8 z)) g v1 (put X 56 ((e8 (len * 8)).take (k + 1))) hd len) := fun z hz => by
          have := hS.setByte (show 56 + k < 64 by omega) hz
          rw [put_snoc X (len * 8) k hlt HX64.out] at this
          exact this
        have HZ : Hid ((len : Int) * 8 / 2 ^ (8 * (7 - k)) % 256 = (((len * 8 / 2 ^ (8 * (7 - k))).toUInt8.toNat : Nat) : Int)) := by unfold Hid; simp
        unfold bval at hcb
        generalize (((put X 56 ((e8 (len * 8)).take k)).getD (56 + k) 0).toNat : Int) = old at hcb
        go_wp2_with fail
        go_region
        go_wp2_with fail
        refine ⟨⟨k + 1, by omega, by go_num, (HS2.out _ HZ.out).carry rfl, (hB.setCell (Nat.le_refl g) _).trans ⟨rfl, rfl, rfl, Nat.le_refl _, fun _ _ => rfl⟩, hO.other _ (by omega)⟩, by simp [intOf]; omega⟩
      · have hz : (k : Int) = 8 := by omega
        rw [show k = 8 by omega, List.take_of_length_le (by rw [e8_length]; exact Nat.le_refl _)] at hS
        go_wp2_with fail
        clear hz
        refine (mix_any g _ _ _ _ _ hS (hk.below hB hg)).mono ?_
        rintro e w6 ⟨rfl, hS6, hG6⟩
        rw [HFin.out] at hS6
        have HSha : Hid (outs (absorb ((pad bs).length / 64) (pad bs)) = sha bs) := rfl
        generalize absorb ((pad bs).length / 64) (pad bs) = vv at hS6 HSha
        have hB6 : Below g w w6 := hB.trans (grownTo hG6 (Nat.le_refl g) (Nat.le_of_lt hS.lt))
        have hO6 : Blk w6 w.heap.size 27 (half 32 0 (fun i => bval ((outs vv).getD i 0)) bz) := by
          rw [half_zero, ← Hzs.out]
          exact hO.carry (hG6.block w.heap.size hO.lt (by simp; omega))
        clear hS hB hO hG6 hk8 hlt
        go_wp2_with fail
        go_loopw [67] (fun s67 wr => ∃ k : Nat, k ≤ 32 ∧ s67 = .int .i64 (k : Int) ∧ St wr g vv (put X 56 (e8 (len * 8))) 0 len ∧ Below g w wr ∧ Blk wr w.heap.size 27 (half 32 k (fun i => bval ((outs vv).getD i 0)) bz)) (fun s67 _ => 32 - (intOf s67).toNat)
        case atStart => exact ⟨0, by omega, rfl, hS6, hB6, hO6⟩
        case round =>
          clear hS6 hB6 hO6
          obtain ⟨k, hk32, rfl, hS, hB, hO⟩ := hrel
          by_cases hlt : k < 32
          · have hcw := hS.word (show k / 4 < 8 by omega)
            have hco : wr.cell? ⟨w.heap.size, k, none⟩ = some (.int .u8 0) := hO.cell (half_ge hlt (Nat.le_refl _))
            have hfo := hO.frozen k
            have hbw := V8.ok_get hS.ok (k / 4)
            have HO : Hid (bval ((outs vv).getD k 0) = .int .u8 ((vv.list.getD (k / 4) 0 : Int) / 2 ^ (8 * (3 - k % 4)) % 256)) := by
              unfold Hid bval outs
              simp [hlt]
            generalize vv.list.getD (k / 4) 0 = wk at hcw hbw HO
            go_wp2_with fail
            refine ⟨⟨k + 1, by omega, by go_num, hS.carry (Below.heap_setCell _ _ _ _ (fun e => absurd e (by simp; omega))), hB.setCell (Nat.le_of_lt hglt) _, ?_⟩, by simp [intOf]; omega⟩
            rw [← HO.out, ← half_set hlt]
            exact hO.set k _
          · rw [show k = 32 by omega, half_all, bytes_range (outs_length vv), HSha.out] at hO
            have hz : (k : Int) = 32 := by omega
            have HSz : Hid ((Tryd.prog.info? 27).map (·.size) = some ((sha bs).map bval).length) := by unfold Hid; rw [List.length_map, sha_length]; exact Tryd.size27
            go_wp2_with (first
              | (refine wpList_load_blk (by rfl) 27 (.tmp 2) (by rfl) w.heap.size 27 _ hO (by rfl) (.array 32 5) Tryd.underlying27 rfl HSz.out ?_)
              | (refine wpList_store_blk (by rfl) 27 (.tmp 2) (.tmp 86) (by rfl) w.heap.size 27 _ _ hO (by rfl) (by rfl) rfl HSz.out (one_bytes _) ?_; intro w9 hO9 hG9))
            refine bodyPost_ret (v := .agg ((sha bs).map bval).toArray) (results_cell_row (p := 2) (ty := 27) rfl _ _ w.heap.size 27 _ (0, 0) (.array 32 5) rfl hO9 Tryd.underlying27 rfl (by simpa using HSz.out)) rfl ?_
            exact ⟨rfl, hB.trans (grownTo hG9 (Nat.le_of_lt hglt) (Nat.le_of_lt hS.lt))⟩
  · go_wp2_with fail
    go_region_law ((refine step_clear rfl (.tmp 43) 23 rfl 5 Tryd.underlying23 zero5 ao4 (63 - r) (63 - r) (by rfl) g (8 + (r + 1)) 49 _ HC6.out HC3.out HA4.out ?_; intro w4 hb4 hg4))
    have hX : St w4 g (absorb (bs.length / 64) bs) (marked rest) (r + 1) len := by
      have := hS3.splice (r + 1) (zeros (63 - r)) (by simp [zeros]; omega) (by rw [zeros_map]; exact hb4)
      rw [HM.out] at this
      exact this
    have hBX : Below g w w4 := hB3.trans (grownTo (show (w2.setCell ⟨g, 72, none⟩ (.int .i64 ((r : Int) + 1))).grownBy w4 (some g) from ⟨hg4.os, hg4.tape, hg4.output, hg4.size, hg4.block⟩) (Nat.le_refl g) (Nat.le_of_lt hS3.lt))
    have hOX : Blk w4 w.heap.size 27 zs := hO3.carry (hg4.block w.heap.size hO3.lt (by simp; omega))
    have HX64 : Hid ((marked rest).length = 64) := hX.l64
    have HFin : Hid (comp (absorb (bs.length / 64) bs) (put (marked rest) 56 (e8 (len * 8))) = absorb ((pad bs).length / 64) (pad bs)) := by
      rw [← hbl]
      exact pad_one (by rw [← Hr.out]; omega) Hrest.out
    clear hb4 hg4 hS3 hB3 hO3 hc3 HC6 HC3 HA4 hsl hc72 hf72 HM
    generalize marked rest = X at hX HX64 HFin
    obtain ⟨hd, Hhd⟩ : ∃ hd, Hid (hd = r + 1) := ⟨_, rfl⟩
    rw [← Hhd.out] at hX
    generalize absorb (bs.length / 64) bs = v1 at hX HFin

    have hcl := hX.lenAt
    go_wp2_with fail
    go_loopw [49] (fun s49 wr => ∃ k : Nat, k ≤ 8 ∧ s49 = .int .i64 (k : Int) ∧ St wr g v1 (put X 56 ((e8 (len * 8)).take k)) hd len ∧ Below g w wr ∧ Blk wr w.heap.size 27 zs) (fun s49 _ => 8 - (intOf s49).toNat)
    case atStart => exact ⟨0, by omega, rfl, by rw [List.take_zero, put_nil]; exact hX, hBX, hOX⟩
    case round =>
      clear hX hBX hOX hcl
      obtain ⟨k, hk8, rfl, hS, hB, hO⟩ := hrel
      by_cases hlt : k < 8
      · have hcb := hS.byte (show 56 + k < 64 by omega)
        have hfb := hS.row.frozen (8 + (56 + k))
        have HS2 : Hid (∀ z : Int, z = (((len * 8 / 2 ^ (8 * (7 - k))).toUInt8.toNat : Nat) : Int) → St (wr.setCell ⟨g, 8 + (56 + k), none⟩ (.int .u8 z)) g v1 (put X 56 ((e8 (len * 8)).take (k + 1))) hd len) := fun z hz => by
          have := hS.setByte (show 56 + k < 64 by omega) hz
          rw [put_snoc X (len * 8) k hlt HX64.out] at this
          exact this
        have HZ : Hid ((len : Int) * 8 / 2 ^ (8 * (7 - k)) % 256 = (((len * 8 / 2 ^ (8 * (7 - k))).toUInt8.toNat : Nat) : Int)) := by unfold Hid; simp
        unfold bval at hcb
        generalize (((put X 56 ((e8 (len * 8)).take k)).getD (56 + k) 0).toNat : Int) = old at hcb
        go_wp2_with fail
        go_region
        go_wp2_with fail
        refine ⟨⟨k + 1, by omega, by go_num, (HS2.out _ HZ.out).carry rfl, (hB.setCell (Nat.le_refl g) _).trans ⟨rfl, rfl, rfl, Nat.le_refl _, fun _ _ => rfl⟩, hO.other _ (by omega)⟩, by simp [intOf]; omega⟩
      · have hz : (k : Int) = 8 := by omega
        rw [show k = 8 by omega, List.take_of_length_le (by rw [e8_length]; exact Nat.le_refl _)] at hS
        go_wp2_with fail
        clear hz
        refine (mix_any g _ _ _ _ _ hS (hk.below hB hg)).mono ?_
        rintro e w6 ⟨rfl, hS6, hG6⟩
        rw [HFin.out] at hS6
        have HSha : Hid (outs (absorb ((pad bs).length / 64) (pad bs)) = sha bs) := rfl
        generalize absorb ((pad bs).length / 64) (pad bs) = vv at hS6 HSha
        have hB6 : Below g w w6 := hB.trans (grownTo hG6 (Nat.le_refl g) (Nat.le_of_lt hS.lt))
        have hO6 : Blk w6 w.heap.size 27 (half 32 0 (fun i => bval ((outs vv).getD i 0)) bz) := by
          rw [half_zero, ← Hzs.out]
          exact hO.carry (hG6.block w.heap.size hO.lt (by simp; omega))
        clear hS hB hO hG6 hk8 hlt
        go_wp2_with fail
        go_loopw [67] (fun s67 wr => ∃ k : Nat, k ≤ 32 ∧ s67 = .int .i64 (k : Int) ∧ St wr g vv (put X 56 (e8 (len * 8))) 0 len ∧ Below g w wr ∧ Blk wr w.heap.size 27 (half 32 k (fun i => bval ((outs vv).getD i 0)) bz)) (fun s67 _ => 32 - (intOf s67).toNat)
        case atStart => exact ⟨0, by omega, rfl, hS6, hB6, hO6⟩
        case round =>
          clear hS6 hB6 hO6
          obtain ⟨k, hk32, rfl, hS, hB, hO⟩ := hrel
          by_cases hlt : k < 32
          · have hcw := hS.word (show k / 4 < 8 by omega)
            have hco : wr.cell? ⟨w.heap.size, k, none⟩ = some (.int .u8 0) := hO.cell (half_ge hlt (Nat.le_refl _))
            have hfo := hO.frozen k
            have hbw := V8.ok_get hS.ok (k / 4)
            have HO : Hid (bval ((outs vv).getD k 0) = .int .u8 ((vv.list.getD (k / 4) 0 : Int) / 2 ^ (8 * (3 - k % 4)) % 256)) := by
              unfold Hid bval outs
              simp [hlt]
            generalize vv.list.getD (k / 4) 0 = wk at hcw hbw HO
            go_wp2_with fail
            refine ⟨⟨k + 1, by omega, by go_num, hS.carry (Below.heap_setCell _ _ _ _ (fun e => absurd e (by simp; omega))), hB.setCell (Nat.le_of_lt hglt) _, ?_⟩, by simp [intOf]; omega⟩
            rw [← HO.out, ← half_set hlt]
            exact hO.set k _
          · rw [show k = 32 by omega, half_all, bytes_range (outs_length vv), HSha.out] at hO
            have hz : (k : Int) = 32 := by omega
            have HSz : Hid ((Tryd.prog.info? 27).map (·.size) = some ((sha bs).map bval).length) := by unfold Hid; rw [List.length_map, sha_length]; exact Tryd.size27
            go_wp2_with (first
              | (refine wpList_load_blk (by rfl) 27 (.tmp 2) (by rfl) w.heap.size 27 _ hO (by rfl) (.array 32 5) Tryd.underlying27 rfl HSz.out ?_)
              | (refine wpList_store_blk (by rfl) 27 (.tmp 2) (.tmp 86) (by rfl) w.heap.size 27 _ _ hO (by rfl) (by rfl) rfl HSz.out (one_bytes _) ?_; intro w9 hO9 hG9))
            refine bodyPost_ret (v := .agg ((sha bs).map bval).toArray) (results_cell_row (p := 2) (ty := 27) rfl _ _ w.heap.size 27 _ (0, 0) (.array 32 5) rfl hO9 Tryd.underlying27 rfl (by simpa using HSz.out)) rfl ?_
            exact ⟨rfl, hB.trans (grownTo hG9 (Nat.le_of_lt hglt) (Nat.le_of_lt hS.lt))⟩

end Go.Proofs.YtpibpjbeedcefaaDoor
