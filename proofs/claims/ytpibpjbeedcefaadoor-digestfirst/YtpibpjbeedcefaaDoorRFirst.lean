/- The walks of the document's own First and Sum. No condition but that what is given can be read and is no longer than 2^20. -/
import Derived.Test.YtpibpjbeedcefaaDoorOne
import Derived.Test.YtpibpjbeedcefaaDoorFirst
namespace Go.Proofs.YtpibpjbeedcefaaDoor
open Go.RowKit

theorem slice27 (g l h : Nat) (zl : Option Int) (hzl : zl = none ∧ l = 0 ∨ zl = some (l : Int)) (h1 : l ≤ h) (h2 : h ≤ 32) (h3 : l < 32) (w : World) :
    (Instr.sliceAt 27 (.pointer (some ⟨g, 0, none⟩)) (zl.map (.int .i64)) (some (.int .i64 (h : Int))) none).run Tryd.prog w = .ok (.slice (some ⟨g, l, none⟩) (h - l) (32 - l)) w := by
  have hal : Tryd.prog.arrayLen 27 = 32 := by simp [Program.arrayLen, Tryd.underlying27]
  have hel : Tryd.prog.elem 27 = 5 := by simp [Program.elem, Tryd.underlying27]
  obtain ⟨i5, hi, _, hz1, _⟩ := info_parts Tryd.info5
  rcases hzl with ⟨rfl, rfl⟩ | rfl
  · rw [Option.map_none, run_sliceAt_array_h w 27 ⟨g, 0, none⟩ (by rw [hal, hel]; exact Tryd.underlying27) .i64 h (by omega) (by rw [hal]; omega), hal, hel]
    simp [slicedAt, sizeOf, typeInfo, hi, hz1, Addr.add_lit]
  · rw [Option.map_some, run_sliceAt_array_lh w 27 ⟨g, 0, none⟩ (by rw [hal, hel]; exact Tryd.underlying27) .i64 .i64 l h (by omega) (by omega) (by rw [hal]; omega), hal, hel]
    simp [slicedAt, sizeOf, typeInfo, hi, hz1, Addr.add_lit, show ¬ 32 = l by omega]

theorem Blk.piece {w : World} {g : Nat} {s : List UInt8} (h : Blk w g 27 (s.map bval)) (hs : s.length = 32) (l m c : Nat) (hl : l + m ≤ 32) (hm : m ≤ c) (hc : c ≤ 32) : Rd w (some ⟨g, l, none⟩) m c ((s.drop l).take m) :=
  ⟨by simp; omega, hm, by unfold maxLen; omega, (fun h0 => by cases h0), fun a ha j u hu => by
    obtain rfl : ⟨g, l, none⟩ = a := by simpa using ha
    have hj : j < m := by have := (List.getElem?_eq_some_iff.1 hu).1; simp at this; omega
    rw [List.getElem?_take_of_lt hj, List.getElem?_drop] at hu
    rw [Addr.add_lit]
    exact h.cell (by rw [List.getElem?_map, hu]; rfl)⟩

set_option maxRecDepth 100000 in
set_option maxHeartbeats 1000000 in
theorem rfirst_any (ao : Option Addr) (n cap : Nat) (bs : List UInt8) (w : World) (h : Rd w ao n cap bs) (hn : n ≤ 1048576) :
    Calls Tryd.prog 13 #[.slice ao n cap] w fun e w' => e = .returned (.agg (hcells (high (sha bs) 8) (low (sha bs) 8)).toArray) ∧ Below w.heap.size w w' := by
  obtain ⟨zs, Hzs⟩ : ∃ zs, Hid (zs = (List.range 32).map bz) := ⟨_, rfl⟩
  have hz27 : ∀ w : World, (zeroValue 27).run Tryd.prog w = .ok (.agg zs.toArray) w := by rw [Hzs.out]; exact (zero_of_info (n := 32) (by kernel_rfl)).1
  have HLz : Hid (((sha bs).map bval).length = zs.length) := by unfold Hid; rw [Hzs.out, List.length_map, sha_length]; simp
  have HSz : Hid ((Tryd.prog.info? 27).map (·.size) = some ((sha bs).map bval).length) := by unfold Hid; rw [List.length_map, sha_length]; exact Tryd.size27
  have hR0 : Blk (w.alloc (.cells #[.int .u64 0, .int .u64 0] 32)) w.heap.size 32 (hcells 0 0) := Blk.new w 32 (hcells 0 0)
  have hB0 : Below w.heap.size w (w.alloc (.cells #[.int .u64 0, .int .u64 0] 32)) := (Below.refl _ _).alloc (Nat.le_refl _) _
  have h1 := h.alloc (.cells #[.int .u64 0, .int .u64 0] 32)
  have hs1 : (w.alloc (.cells #[.int .u64 0, .int .u64 0] 32)).heap.size = w.heap.size + 1 := by simp
  go_enter Tryd.func13, Tryd.ntmps13
  go_wp2_with fail
  generalize w.alloc (.cells #[.int .u64 0, .int .u64 0] 32) = w1 at hR0 hB0 hs1 h1 ⊢
  refine (one_any ao n cap bs w1 h1 hn).mono ?_
  rintro e w2 ⟨rfl, hb2⟩
  have hR2 := hR0.below hb2 (by omega)
  have hB2 := hB0.trans (hb2.mono (by omega))
  have hs2 := hb2.size
  have HS32 : Hid ((sha bs).length = 32) := sha_length bs
  clear hR0 hB0 hb2 h1
  have f8 : ∀ w3 g, (Instr.sliceAt 27 (.pointer (some ⟨g, 0, none⟩)) none (some (.int .i64 8)) none).run Tryd.prog w3 = .ok (.slice (some ⟨g, 0, none⟩) 8 32) w3 := fun w3 g => slice27 g 0 8 none (.inl ⟨rfl, rfl⟩) (by decide) (by decide) (by decide) w3
  have f16 : ∀ w3 g, (Instr.sliceAt 27 (.pointer (some ⟨g, 0, none⟩)) (some (.int .i64 8)) (some (.int .i64 16)) none).run Tryd.prog w3 = .ok (.slice (some ⟨g, 8, none⟩) 8 24) w3 := fun w3 g => slice27 g 8 16 (some 8) (.inr rfl) (by decide) (by decide) (by decide) w3
  go_wp2_with (refine wpList_store_new (by rfl) 27 (.tmp 3) (.tmp 9) (by rfl) w2 zs _ (by rfl) (by rfl) HLz.out HSz.out (one_bytes _) ?_; intro w3 hS3 hb3)
  have hR3 := hR2.below hb3 (by omega)
  have hB3 := hB2.trans (hb3.mono (by omega))
  obtain ⟨gs, hgs⟩ : ∃ gs, w2.heap.size = gs := ⟨_, rfl⟩
  rw [hgs] at hS3 ⊢
  obtain ⟨s, Hs⟩ : ∃ s, Hid (s = sha bs) := ⟨_, rfl⟩
  rw [← Hs.out] at hS3 HS32
  have p1 := hS3.piece HS32.out 0 8 32 (by decide) (by decide) (by decide)
  have p2 := hS3.piece HS32.out 8 8 24 (by decide) (by decide) (by decide)
  have T1 : Hid (te ((s.drop 0).take 8) = (high s 8, 0)) := by unfold Hid te high; rw [if_neg (by simp [HS32.out]), List.drop_zero, List.take_take]; rfl
  have T2 : Hid (te ((s.drop 8).take 8) = (low s 8, 0)) := by unfold Hid te low; rw [if_neg (by simp [HS32.out]), List.take_take]; rfl
  refine (rtakeEight_any _ 8 32 _ w3 p1).mono ?_
  rintro e w4 ⟨rfl, rfl⟩
  rw [T1.out]
  go_wp2_with fail
  refine (rtakeEight_any _ 8 24 _ w3 p2).mono ?_
  rintro e w4 ⟨rfl, rfl⟩
  rw [T2.out]
  have HL2 : Hid ((hcells (high s 8) (low s 8)).length = (hcells 0 0).length) := rfl
  have HSz2 : Hid ((Tryd.prog.info? 32).map (·.size) = some (hcells (high s 8) (low s 8)).length) := Tryd.size32
  have H1 : Hid (∀ v ∈ hcells (high s 8) (low s 8), v.oneCell' = true) := by intro v hv; simp only [hcells, List.mem_cons, List.not_mem_nil, or_false] at hv; rcases hv with rfl | rfl <;> rfl
  go_wp2_with (refine wpList_store_blk (by rfl) 32 (.tmp 2) (.tmp 22) (by rfl) w.heap.size 32 (hcells 0 0) (hcells (high s 8) (low s 8)) hR3 (by rfl) (by rfl) HL2.out HSz2.out H1.out ?_; intro w9 hR9 hG9)
  refine bodyPost_ret (v := .agg (hcells (high s 8) (low s 8)).toArray) (results_cell_row (p := 2) (ty := 32) rfl _ _ w.heap.size 32 _ (0, 0) _ rfl hR9 Tryd.underlying32 rfl (by simpa using HSz2.out)) rfl ?_
  rw [Hs.out]
  exact ⟨rfl, hB3.trans (grownTo hG9 (Nat.le_refl _) (Nat.le_of_lt hR3.lt))⟩

set_option maxRecDepth 100000 in
set_option maxHeartbeats 1000000 in
theorem rsum_any (ao : Option Addr) (n cap : Nat) (ls : List (List UInt8)) (w : World) (h : Parts w w.heap.size ao n cap ls) (hn : n ≤ 1048576) (ht : ls.flatten.length ≤ 1048576) :
    Calls Tryd.prog 11 #[.slice ao n cap] w fun e w' => e = .returned (.agg ((sha ls.flatten).map bval).toArray) ∧ Below w.heap.size w w' := by
  obtain ⟨i5, hi, hz0, hz1, hz2⟩ := info_parts Tryd.info5
  obtain ⟨zs, Hzs⟩ : ∃ zs, Hid (zs = (List.range 32).map bz) := ⟨_, rfl⟩
  have hz27 : ∀ w : World, (zeroValue 27).run Tryd.prog w = .ok (.agg zs.toArray) w := by rw [Hzs.out]; exact (zero_of_info (n := 32) (by kernel_rfl)).1
  have hO0 : Blk (w.alloc (.cells zs.toArray 27)) w.heap.size 27 zs := Blk.new _ _ _
  have hB0 : Below w.heap.size w (w.alloc (.cells zs.toArray 27)) := (Below.refl _ _).alloc (Nat.le_refl _) _
  have hs0 : (w.alloc (.cells zs.toArray 27)).heap.size = w.heap.size + 1 := by simp
  have hnc := h.le
  have hcm := h.max
  unfold maxLen at hcm
  go_enter Tryd.func11, Tryd.ntmps11
  go_wp2_with fail
  clear hz27
  generalize w.alloc (.cells zs.toArray 27) = w1 at hO0 hB0 hs0 ⊢
  go_loopw [3, 4] (fun s3 s4 wr => ∃ (k : Nat) (a : Option Addr) (L c : Nat), k ≤ n ∧ s4 = .int .i64 (k : Int) ∧ s3 = .slice a L c ∧ Hid (L = (ls.take k).flatten.length) ∧ App 5 w1.heap.size wr a L c (ls.take k).flatten ∧ (a = none ∧ L = 0 ∧ c = 0 ∨ ∃ g, a = some ⟨g, 0, none⟩ ∧ Own 5 w1.heap.size wr g L c (ls.take k).flatten) ∧ Below w1.heap.size w1 wr) (fun _ s4 _ => n - (intOf s4).toNat)
  case atStart => exact ⟨0, none, 0, 0, by omega, rfl, rfl, rfl, App.nil 5 _ _, .inl ⟨rfl, rfl, rfl⟩, Below.refl _ _⟩
  case round =>
    obtain ⟨k, a, L, c, hkn, rfl, rfl, HL, hA, hor, hB⟩ := hrel
    have hfl := flat_le ls k
    rw [← HL.out] at hfl
    have hBw : Below w.heap.size w wr := hB0.trans (hB.mono (by omega))
    have hsz := hB.size
    by_cases hlt : k < n
    · obtain ⟨l, hl⟩ : ∃ l, ls[k]? = some l := ⟨_, List.getElem?_eq_getElem (by rw [h.len]; exact hlt)⟩
      obtain ⟨b, off, v, rfl, hbg, hc, pa, pm, pc, rfl, hr, hlow⟩ := (h.low hBw.block).cell k l hl
      have hfl2 := flat_le ls (k + 1)
      have HF : Hid _ := flat_take ls k l hl
      rw [HF.out, List.length_append, hr.len, ← HL.out] at hfl2
      have hpl := hr.len
      have HPL : Hid _ := hpl
      clear hpl hl
      have HL2 : Hid (L + pm = (ls.take (k + 1)).flatten.length) := by unfold Hid; rw [HF.out, List.length_append, HPL.out, ← HL.out]
      by_cases hcase : 0 < pm ∨ ∃ g, a = some ⟨g, 0, none⟩ ∧ Own 5 w1.heap.size wr g L c (ls.take k).flatten
      · have HC : Hid _ := hcase
        clear hcase
        go_wp2_with (at_builtin; refine wpList_append_bytes (P := Tryd.prog) _ (by rfl) (.tmp 11) (.tmp 15) 23 23 (by rfl) 5 i5 Tryd.underlying23 hi hz0 hz1 hz2 w1.heap.size (by omega) (by rfl) hA l (by rfl) (hr.src _ Tryd.underlying23) HC.out (by omega) ?_; intro g2 cap2 w5 ho2 hb5 hg5 hw5)
        rw [← HF.out] at ho2
        exact ⟨⟨k + 1, some ⟨g2, 0, none⟩, L + pm, cap2, by omega, by go_num, rfl, HL2, ho2.app, .inr ⟨g2, rfl, ho2⟩, hB.trans hb5⟩, by simp [intOf]; omega⟩
      · obtain ⟨rfl, rfl, rfl⟩ : a = none ∧ L = 0 ∧ c = 0 := by
          rcases hor with h | h
          · exact h
          · exact absurd (.inr h) hcase
        obtain rfl : pm = 0 := by
          have : ¬ 0 < pm := fun h => hcase (.inl h)
          omega
        obtain rfl : l = [] := List.eq_nil_of_length_eq_zero HPL.out
        have HF2 : Hid ((ls.take (k + 1)).flatten = (ls.take k).flatten) := by have := HF.out; rw [List.append_nil] at this; exact this
        clear hcase
        go_wp2_with (at_builtin; refine wpList_append_none (P := Tryd.prog) _ (by rfl) (.tmp 11) (.tmp 15) 23 23 (by rfl) 5 5 i5 Tryd.underlying23 Tryd.underlying23 hi (by rfl) (by rfl) ?_)
        refine ⟨⟨k + 1, none, 0, 0, by omega, by go_num, rfl, HL2, by rw [HF2.out]; exact hA, .inl ⟨rfl, rfl, rfl⟩, hB⟩, by simp [intOf]; omega⟩
    · rw [List.take_of_length_le (by rw [h.len]; omega)] at hA
      have hO := hO0.below hB (by omega)
      have HSz : Hid ((Tryd.prog.info? 27).map (·.size) = some ((sha ls.flatten).map bval).length) := by unfold Hid; rw [List.length_map, sha_length]; exact Tryd.size27
      have HLz : Hid (((sha ls.flatten).map bval).length = zs.length) := by unfold Hid; rw [Hzs.out, List.length_map, sha_length]; simp
      go_wp2_with fail
      refine (one_any a L c ls.flatten wr hA.1 (by omega)).mono ?_
      rintro e w5 ⟨rfl, hb5⟩
      have hO5 := hO.below hb5 hO.lt
      have hB5 := hBw.trans (hb5.mono hBw.size)
      go_wp2_with (refine wpList_store_blk (by rfl) 27 (.tmp 2) (.tmp 18) (by rfl) w.heap.size 27 zs _ hO5 (by rfl) (by rfl) HLz.out HSz.out (one_bytes _) ?_; intro w9 hO9 hG9)
      refine bodyPost_ret (v := .agg ((sha ls.flatten).map bval).toArray) (results_cell_row (p := 2) (ty := 27) rfl _ _ w.heap.size 27 _ (0, 0) (.array 32 5) rfl hO9 Tryd.underlying27 rfl (by simpa using HSz.out)) rfl ?_
      exact ⟨rfl, hB5.trans (grownTo hG9 (Nat.le_refl _) (Nat.le_of_lt hO5.lt))⟩
end Go.Proofs.YtpibpjbeedcefaaDoor
