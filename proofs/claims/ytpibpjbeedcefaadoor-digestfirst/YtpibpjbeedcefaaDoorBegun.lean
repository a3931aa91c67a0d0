/- Two sums that are alike are told so; the walks of the statements' own 'begun' and 'Place'. No condition but that roundWords holds the table. -/
import Derived.Test.YtpibpjbeedcefaaDoorSum
import Derived.ChangeKeysEq
import Derived.Lib.SlBytesConst
namespace Go.Proofs.YtpibpjbeedcefaaDoor
open Go.RowKit

theorem Tryd.cells5 : Tryd.prog.cellsOf 5 = 1 := by kernel_rfl

theorem eqItems_same (w : World) (d : Nat) (bs : List UInt8) (is : List Nat) (h : ∀ i ∈ is, i < bs.length) : (Op.eqItems (d + 1) 5 1 (bs.map bval).toArray (bs.map bval).toArray is).run Tryd.prog w = .ok true w := by
  induction is with
  | nil => rfl
  | cons i is ih =>
    have hi := h i (by simp)
    have hp : (part 5 (bs.map bval).toArray (i * 1)).run Tryd.prog w = .ok (.int .u8 (bs[i].toNat : Int)) w := by
      simp [part, hi, bval]
    simp only [Op.eqItems, Sem.run_bind, hp, Result.andThen_ok, run_equalIn_int w d 5 .u8 .u8 _ _ Tryd.underlying5, beq_self_eq_true, Bool.not_true, Bool.false_eq_true, if_false]
    exact ih fun j hj => h j (by simp [hj])

theorem eql_same (w : World) (bs : List UInt8) (hl : bs.length = 32) : (binOp .eql 27 (.agg (bs.map bval).toArray) (.agg (bs.map bval).toArray)).run Tryd.prog w = .ok (.bool true) w := by
  obtain ⟨i5, hi, _, _, _⟩ := info_parts Tryd.info5
  rw [run_eql_struct, run_equalIn_array w 9999 _ _ Tryd.underlying27 hi, Tryd.cells5, eqItems_same w 9998 bs _ (by intro i hi; rw [hl]; simpa using hi)]
  rfl

theorem parts_nil (w : World) (g : Nat) : Parts w g none 0 0 [] := ⟨rfl, Nat.le_refl _, by decide, fun i l h => by simp at h⟩

theorem sha_nilc (w : World) (g : Nat) (h : Blk w g 27 ((sha []).map bval)) : w.cell? ⟨g, 0, none⟩ = some (.int .u8 227) ∧ w.cell? ⟨g, 31, none⟩ = some (.int .u8 85) := by
  have h1 := sha_nil0
  have h2 := sha_nil31
  have hl := sha_length []
  generalize sha [] = s at h h1 h2 hl
  rw [List.getD_eq_getElem?_getD, List.getElem?_eq_getElem (by omega), Option.getD_some] at h1 h2
  exact ⟨h.cell (by rw [List.getElem?_map, List.getElem?_eq_getElem (by omega), h1]; rfl), h.cell (by rw [List.getElem?_map, List.getElem?_eq_getElem (by omega), h2]; rfl)⟩
theorem sha_abcc (w : World) (g : Nat) (h : Blk w g 27 ((sha [97, 98, 99]).map bval)) : w.cell? ⟨g, 0, none⟩ = some (.int .u8 186) ∧ w.cell? ⟨g, 31, none⟩ = some (.int .u8 173) := by
  have h1 := sha_abc0
  have h2 := sha_abc31
  have hl := sha_length [97, 98, 99]
  generalize sha [97, 98, 99] = s at h h1 h2 hl
  rw [List.getD_eq_getElem?_getD, List.getElem?_eq_getElem (by omega), Option.getD_some] at h1 h2
  exact ⟨h.cell (by rw [List.getElem?_map, List.getElem?_eq_getElem (by omega), h1]; rfl), h.cell (by rw [List.getElem?_map, List.getElem?_eq_getElem (by omega), h2]; rfl)⟩

/-- A part that was just laid. -/
theorem part_of {w : World} {g : Nat} {a : Option Addr} {n c : Nat} {bs : List UInt8} (h : Rd w a n c bs) (hl : Low n a g) : Part w g (.slice a n c) bs := ⟨a, n, c, rfl, h, hl⟩

theorem parts_cells {w : World} {g b : Nat} {t : TypeId} {vs : List Value} {ls : List (List UInt8)} {cap : Nat} (hb : Blk w b t vs) (hg : b < g) (hlen : ls.length = vs.length) (hc : vs.length ≤ cap) (hm : cap ≤ maxLen) (hp : ∀ i (hi : i < ls.length), Part w g (vs[i]'(by omega)) ls[i]) : Parts w g (some ⟨b, 0, none⟩) vs.length cap ls :=
  ⟨hlen, hc, hm, fun i l hl => by
    obtain ⟨hi, rfl⟩ := List.getElem?_eq_some_iff.1 hl
    refine ⟨b, 0, _, rfl, hg, ?_, hp i hi⟩
    rw [Nat.zero_add]
    exact hb.cell (List.getElem?_eq_getElem (by omega))⟩

theorem rd_marked (e : TypeId) (w : World) (bs : List UInt8) (fr : Nat × Nat) (hb : bs.length ≤ maxLen) : Rd (w.alloc (.cells (bs.map bval).toArray e fr)) (some ⟨w.heap.size, 0, none⟩) bs.length bs.length bs :=
  ⟨rfl, Nat.le_refl _, hb, (fun h => by cases h), fun a ha j u hu => by
    obtain rfl : ⟨w.heap.size, 0, none⟩ = a := by simpa using ha
    rw [Addr.add_lit, Nat.zero_add, cell_of_row _ w.heap.size j _ e fr (heap_alloc_new w _)]
    simp [hu, bval]⟩

theorem parts_abc (w : World) :
    Parts (((w.alloc (.cells #[.int .u8 97, .int .u8 98] 5 (2, 3))).alloc (.cells #[.int .u8 99] 5 (1, 2))).alloc (.cells #[.slice (some ⟨w.heap.size, 0, none⟩) 2 2, .slice (some ⟨w.heap.size + 1, 0, none⟩) 1 1] 23))
      (((w.alloc (.cells #[.int .u8 97, .int .u8 98] 5 (2, 3))).alloc (.cells #[.int .u8 99] 5 (1, 2))).alloc (.cells #[.slice (some ⟨w.heap.size, 0, none⟩) 2 2, .slice (some ⟨w.heap.size + 1, 0, none⟩) 1 1] 23)).heap.size
      (some ⟨w.heap.size + 1 + 1, 0, none⟩) 2 2 [[97, 98], [99]] ∧
    Below w.heap.size w (((w.alloc (.cells #[.int .u8 97, .int .u8 98] 5 (2, 3))).alloc (.cells #[.int .u8 99] 5 (1, 2))).alloc (.cells #[.slice (some ⟨w.heap.size, 0, none⟩) 2 2, .slice (some ⟨w.heap.size + 1, 0, none⟩) 1 1] 23)) := by
  refine ⟨?_, (((Below.refl _ _).alloc (Nat.le_refl _) _).alloc (by simp) _).alloc (by simp; omega) _⟩
  have r1 := ((rd_marked 5 w [97, 98] (2, 3) (by decide)).alloc (.cells #[.int .u8 99] 5 (1, 2))).alloc (.cells #[.slice (some ⟨w.heap.size, 0, none⟩) 2 2, .slice (some ⟨w.heap.size + 1, 0, none⟩) 1 1] 23)
  have r2 := (rd_marked 5 (w.alloc (.cells #[.int .u8 97, .int .u8 98] 5 (2, 3))) [99] (1, 2) (by decide)).alloc (.cells #[.slice (some ⟨w.heap.size, 0, none⟩) 2 2, .slice (some ⟨w.heap.size + 1, 0, none⟩) 1 1] 23)
  have e1 : (w.alloc (.cells #[.int .u8 97, .int .u8 98] 5 (2, 3))).heap.size = w.heap.size + 1 := by simp
  rw [e1] at r2
  have hb := Blk.new ((w.alloc (.cells #[.int .u8 97, .int .u8 98] 5 (2, 3))).alloc (.cells #[.int .u8 99] 5 (1, 2))) 23 [.slice (some ⟨w.heap.size, 0, none⟩) 2 2, .slice (some ⟨w.heap.size + 1, 0, none⟩) 1 1]
  rw [show ((w.alloc (.cells #[.int .u8 97, .int .u8 98] 5 (2, 3))).alloc (.cells #[.int .u8 99] 5 (1, 2))).heap.size = w.heap.size + 1 + 1 by simp] at hb
  refine parts_cells (cap := 2) hb (by simp) rfl (Nat.le_refl _) (by decide) (fun i hi => ?_)
  match i, hi with
  | 0, _ => exact part_of r1 r1.lowSize
  | 1, _ => exact part_of r2 r2.lowSize

set_option maxRecDepth 100000 in
set_option maxHeartbeats 1000000 in
theorem begun_any (w : World) (hk : Keys w) : Calls Tryd.prog 7 #[] w fun e w' => e = .returned (.bool true) ∧ Below w.heap.size w w' := by
  obtain ⟨zs, Hzs⟩ : ∃ zs, Hid (zs = (List.range 32).map bz) := ⟨_, rfl⟩
  have hz27 : ∀ w : World, (zeroValue 27).run Tryd.prog w = .ok (.agg zs.toArray) w := by rw [Hzs.out]; exact (zero_of_info (n := 32) (by kernel_rfl)).1
  have HL : ∀ bs : List UInt8, Hid (((sha bs).map bval).length = zs.length) := fun bs => by unfold Hid; rw [Hzs.out, List.length_map, sha_length]; simp
  have HSz : ∀ bs : List UInt8, Hid ((Tryd.prog.info? 27).map (·.size) = some ((sha bs).map bval).length) := fun bs => by unfold Hid; rw [List.length_map, sha_length]; exact Tryd.size27
  go_enter Tryd.func7, Tryd.ntmps7
  go_wp2_with fail
  refine (sum_any none 0 0 [] w (parts_nil _ _) hk (by decide) (by decide)).mono ?_
  rintro e w1 ⟨rfl, hb1⟩
  rw [List.flatten_nil]
  have L1 := HL []
  have S1 := HSz []
  have hcs := sha_nilc
  have O1 : Hid (∀ v ∈ (sha []).map bval, v.oneCell' = true) := one_bytes _
  generalize (sha []).map bval = cs at L1 S1 hcs O1 ⊢
  go_wp2_with (refine wpList_store_new (by rfl) 27 (.tmp 1) (.tmp 3) (by rfl) w1 zs cs (by rfl) (by rfl) L1.out S1.out O1.out ?_; intro w2 hW2 hb2)
  obtain ⟨c0, c31⟩ := hcs w2 _ hW2
  have hB2 : Below w.heap.size w w2 := hb1.trans (hb2.mono hb1.size)
  have hz1 := hb1.size
  have hlt2 := hW2.lt
  generalize w1.heap.size = g1 at c0 c31 hz1 hlt2 ⊢
  clear hW2 hb2 hb1 hcs L1 S1 O1
  have hcv1 := Lib.run_convert_bytes_const (P := Tryd.prog) w2 23 5 #[.int .u8 97, .int .u8 98] 2 2 Tryd.underlying23 Tryd.underlying5
  have hcv2 := Lib.run_convert_bytes_const (P := Tryd.prog) (w2.alloc (.cells #[.int .u8 97, .int .u8 98] 5 (2, 3))) 23 5 #[.int .u8 99] 1 1 Tryd.underlying23 Tryd.underlying5
  have hs2 : (w2.alloc (.cells #[.int .u8 97, .int .u8 98] 5 (2, 3))).heap.size = w2.heap.size + 1 := by simp
  rw [hs2] at hcv2
  clear hs2
  go_wp2_with fail
  rw [hcv1]
  go_wp2_with fail
  clear hcv1 hcv2
  obtain ⟨hP, hB3⟩ := parts_abc w2
  generalize ((w2.alloc (.cells #[.int .u8 97, .int .u8 98] 5 (2, 3))).alloc (.cells #[.int .u8 99] 5 (1, 2))).alloc (.cells #[.slice (some ⟨w2.heap.size, 0, none⟩) 2 2, .slice (some ⟨w2.heap.size + 1, 0, none⟩) 1 1] 23) = w3 at hP hB3 ⊢
  have hB3' : Below w.heap.size w w3 := hB2.trans (hB3.mono hB2.size)
  refine (sum_any _ 2 2 [[97, 98], [99]] w3 hP (hk.below hB3' hk.lt) (by decide) (by decide)).mono ?_
  rintro e w4 ⟨rfl, hb4⟩
  have hz3 := hB3.size
  have hB4 : Below w2.heap.size w2 w4 := hB3.trans (hb4.mono hz3)
  have hz4 := hB4.size
  rw [show [[97, 98], [99]].flatten = ([97, 98, 99] : List UInt8) from rfl]
  have L1 := HL [97, 98, 99]
  have S1 := HSz [97, 98, 99]
  have hcs := sha_abcc
  have O1 : Hid (∀ v ∈ (sha [97, 98, 99]).map bval, v.oneCell' = true) := one_bytes _
  generalize (sha [97, 98, 99]).map bval = ds at L1 S1 hcs O1 ⊢
  clear hP hB3 hB3' hb4
  go_wp2_with (refine wpList_store_new (by rfl) 27 (.tmp 2) (.tmp 9) (by rfl) w4 zs ds (by rfl) (by rfl) L1.out S1.out O1.out ?_; intro w5 hW5 hb5; obtain ⟨d0, d31⟩ := hcs w5 _ hW5; have hB5 : Below w2.heap.size w2 w5 := hB4.trans (hb5.mono hz4); have e0 := (World.cell?_of_block (a := ⟨g1, 0, none⟩) (hB5.block g1 hlt2)).trans c0; have e31 := (World.cell?_of_block (a := ⟨g1, 31, none⟩) (hB5.block g1 hlt2)).trans c31)
  go_ret
  exact ⟨rfl, hB2.trans (hB5.mono hB2.size)⟩

set_option maxRecDepth 100000 in
set_option maxHeartbeats 1000000 in
theorem place_any (k : Int) (n : Nat) (w : World) (hn : 0 < n) (hn1 : n ≤ 1099511627776) :
    Calls Tryd.prog 16 #[.int .i64 k, .int .i64 (n : Int)] w fun e w' => ∃ m : Nat, m < n ∧ e = .returned (.int .i64 (m : Int)) ∧ w = w' := by
  have h1 := Int.tmod_lt_of_pos k (show (0 : Int) < n by omega)
  have h2 : -(n : Int) < k.tmod n := by
    have := Int.tmod_lt_of_pos (-k) (show (0 : Int) < n by omega)
    rw [Int.neg_tmod] at this
    omega
  obtain ⟨t, ht⟩ : ∃ t, k.tmod (n : Int) = t := ⟨_, rfl⟩
  rw [ht] at h1 h2
  by_cases h : t < 0
  · go_enter Tryd.func16, Tryd.ntmps16
    go_wp2
    go_ret
    refine ⟨(t + n).toNat, by omega, ?_, rfl⟩
    rw [show ((t + (n : Int)).toNat : Int) = t + n by omega]
    rfl
  · go_enter Tryd.func16, Tryd.ntmps16
    go_wp2
    go_ret
    refine ⟨t.toNat, by omega, ?_, rfl⟩
    rw [show (t.toNat : Int) = t by omega]
    rfl
end Go.Proofs.YtpibpjbeedcefaaDoor
