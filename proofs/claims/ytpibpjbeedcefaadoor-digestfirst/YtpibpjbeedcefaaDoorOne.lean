/- The walk of the document's own 'One': SHA-256 of one text. No condition but that it can be read and is no longer than 2^40. -/
import Derived.Test.YtpibpjbeedcefaaDoorRBlock
namespace Go.Proofs.YtpibpjbeedcefaaDoor
open Go.RowKit

def key64 : List Value := u64s keyTab
theorem key64_size : (Tryd.prog.info? 58).map (·.size) = some key64.length := by kernel_rfl
theorem key64_one : ∀ v ∈ key64, v.oneCell' = true := one_u64s _

set_option maxRecDepth 100000 in
set_option maxHeartbeats 1000000 in
theorem keys_any (w : World) : Calls Tryd.prog 25 #[] w fun e w' => e = .returned (.agg key64.toArray) ∧ Below w.heap.size w w' := by
  obtain ⟨zs, Hzs⟩ : ∃ zs : List Value, Hid (zs = List.replicate 64 (.int .u64 0)) := ⟨_, rfl⟩
  have hz58 : ∀ w : World, (zeroValue 58).run Tryd.prog w = .ok (.agg zs.toArray) w := by rw [Hzs.out]; exact (zero_of_info (n := 64) (by kernel_rfl)).1
  have HL : Hid (key64.length = zs.length) := by unfold Hid; rw [Hzs.out]; rfl
  have HSz : Hid _ := key64_size
  have H1 : Hid _ := key64_one
  obtain ⟨cs, Hcs⟩ : ∃ cs, Hid (cs = key64) := ⟨_, rfl⟩
  have HB : Hid (Tryd.prog.built 58 (keyTab.zipIdx.map fun x => (x.2, Value.int .u64 (x.1 : Int))) = some cs.toArray) := by rw [Hcs.out]; unfold Hid; kernel_rfl
  rw [← Hcs.out] at HL HSz H1
  rw [← Hcs.out]
  go_enter Tryd.func25, Tryd.ntmps25
  go_wp2_with (first
    | (refine wpList_build_list (by rfl) 58 _ (by rfl) cs (by exact HB.out) ?_)
    | (refine wpList_store_new (by rfl) 58 (.tmp 0) (.tmp 1) (by rfl) w zs cs (by rfl) (by rfl) HL.out HSz.out H1.out ?_; intro w2 hW2 hb2))
  refine bodyPost_ret (v := .agg cs.toArray) (results_cell_row (p := 0) (ty := 58) rfl _ _ w.heap.size 58 _ (0, 0) (.array 64 30) rfl hW2 Tryd.underlying58 rfl (by simpa using HSz.out)) rfl ?_
  exact ⟨rfl, hb2⟩

/-- The words of a block of which i bytes were taken. -/
def wpart (blk : List UInt8) (i j : Nat) : Nat := n8 (((blk.take i).drop (4 * j)).take 4)
def wrow (blk : List UInt8) (i : Nat) : List Value := (List.range 64).map fun j => .int .u64 (wpart blk i j : Int)
theorem wrow_get {blk : List UInt8} {i j : Nat} (hj : j < 64) : (wrow blk i)[j]? = some (.int .u64 (wpart blk i j : Int)) := by simp [wrow, hj]
theorem wrow_length (blk : List UInt8) (i : Nat) : (wrow blk i).length = 64 := by simp [wrow]
theorem wpart_lt (blk : List UInt8) {i : Nat} : wpart blk i (i / 4) < 16777216 := by
  unfold wpart
  have h1 := n8_lt (((blk.take i).drop (4 * (i / 4))).take 4)
  have h2 : 256 ^ (((blk.take i).drop (4 * (i / 4))).take 4).length ≤ 256 ^ 3 := Nat.pow_le_pow_right (by decide) (by simp; omega)
  omega
theorem wpart_step {blk : List UInt8} {i : Nat} (hi : i < blk.length) : wpart blk (i + 1) (i / 4) = wpart blk i (i / 4) * 256 + (blk[i]).toNat := by
  unfold wpart
  have e1 : ((blk.take i).drop (4 * (i / 4))).length ≤ 3 := by rw [List.length_drop, List.length_take]; omega
  rw [List.take_succ_eq_append_getElem hi, List.drop_append_of_le_length (by rw [List.length_take]; omega)]
  generalize (blk.take i).drop (4 * (i / 4)) = l at e1 ⊢
  rw [List.take_of_length_le (show (l ++ [blk[i]]).length ≤ 4 by rw [List.length_append]; simp only [List.length_cons, List.length_nil]; omega), List.take_of_length_le (show l.length ≤ 4 by omega), n8_snoc]
theorem wpart_other {blk : List UInt8} {i j : Nat} (hi : i < blk.length) (hj : j ≠ i / 4) : wpart blk (i + 1) j = wpart blk i j := by
  unfold wpart
  congr 1
  by_cases h : j < i / 4
  · rw [List.take_succ_eq_append_getElem hi, List.drop_append_of_le_length (by simp; omega), List.take_append_of_le_length (by simp; omega)]
  · rw [List.drop_eq_nil_of_le (by simp; omega), List.drop_eq_nil_of_le (by simp; omega)]
theorem wrow_step {blk : List UInt8} {i : Nat} (hi : i < blk.length) : (wrow blk i).set (i / 4) (.int .u64 ((wpart blk i (i / 4) * 256 + (blk[i]).toNat : Nat) : Int)) = wrow blk (i + 1) := by
  apply List.ext_getElem?
  intro j
  by_cases hj : j < 64
  · by_cases e : i / 4 = j
    · subst e
      rw [List.getElem?_set_self (by rw [wrow_length]; exact hj), wrow_get hj, wpart_step hi]
    · rw [List.getElem?_set_ne e, wrow_get hj, wrow_get hj, wpart_other hi (fun h => e h.symm)]
  · rw [List.getElem?_eq_none (by rw [List.length_set, wrow_length]; omega), List.getElem?_eq_none (by rw [wrow_length]; omega)]
theorem plus_ok (v u : V8) : (V8.plus v u).ok := by
  intro x hx
  simp only [V8.plus, V8.list, List.mem_cons, List.not_mem_nil, or_false] at hx
  rcases hx with rfl | rfl | rfl | rfl | rfl | rfl | rfl | rfl <;> exact Nat.mod_lt _ (by decide)
theorem absorb_ok (m : Nat) (q : List UInt8) : (absorb m q).ok := by
  cases m with
  | zero => exact h0_ok
  | succ m =>
    unfold absorb comp
    exact plus_ok _ _
theorem outs_get (V : V8) {i nn : Nat} (hi : i < 8) (hn : nn < 4) : (outs V).getD (4 * i + nn) 0 = (e8 (V.list.getD i 0)).getD (4 + nn) 0 := by
  have e1 : (4 * i + nn) / 4 = i := by omega
  have e2 : (4 * i + nn) % 4 = nn := by omega
  have e3 : 7 - (4 + nn) = 3 - nn := by omega
  unfold outs e8
  simp only [List.getD_eq_getElem?_getD, List.getElem?_map, List.getElem?_range (show 4 * i + nn < 32 by omega), List.getElem?_range (show 4 + nn < 8 by omega), Option.map_some, Option.getD_some, e1, e2, e3]
theorem wrow_one (blk : List UInt8) (i : Nat) : ∀ v ∈ wrow blk i, v.oneCell' = true := by
  intro v hv
  obtain ⟨j, _, rfl⟩ := List.mem_map.1 hv
  rfl
theorem wrow_zero (blk : List UInt8) : wrow blk 0 = List.replicate 64 (.int .u64 0) := by
  unfold wrow wpart
  simp [n8]
  rfl
theorem wrow_all {blk : List UInt8} (h64 : blk.length = 64) (f : Nat → Nat) (hf : f = fun j => (exts 48 (words blk)).getD j 0) : wrow blk 64 = half 64 16 (wf64 f) wz64 := by
  unfold wrow half
  apply List.map_congr_left
  intro j hj
  unfold wpart wf64 wz64
  rw [List.take_of_length_le (l := blk) (show blk.length ≤ 64 by omega)]
  split
  · rename_i h
    rw [hf]
    show _ = Value.int .u64 (((exts 48 (words blk)).getD j 0 : Nat) : Int)
    rw [exts_low 48 (by rw [words_length]; exact h), words_get blk h]
  · rw [List.drop_eq_nil_of_le (by omega)]
    rfl

set_option maxRecDepth 100000 in
set_option maxHeartbeats 2000000 in
theorem one_any (ao : Option Addr) (n cap : Nat) (bs : List UInt8) (w : World) (h : Rd w ao n cap bs) (hn : n ≤ 1048576) :
    Calls Tryd.prog 17 #[.slice ao n cap] w fun e w' => e = .returned (.agg ((sha bs).map bval).toArray) ∧ Below w.heap.size w w' := by
  obtain ⟨i5, hi, hz0, hz1, hz2⟩ := info_parts Tryd.info5
  obtain ⟨zs, Hzs⟩ : ∃ zs, Hid (zs = (List.range 32).map bz) := ⟨_, rfl⟩
  have hz27 : ∀ w : World, (zeroValue 27).run Tryd.prog w = .ok (.agg zs.toArray) w := by rw [Hzs.out]; exact (zero_of_info (n := 32) (by kernel_rfl)).1
  obtain ⟨ys, Hys⟩ : ∃ ys : List Value, Hid (ys = List.replicate 64 (.int .u64 0)) := ⟨_, rfl⟩
  have hz58 : ∀ w : World, (zeroValue 58).run Tryd.prog w = .ok (.agg ys.toArray) w := by rw [Hys.out]; exact (zero_of_info (n := 64) (by kernel_rfl)).1
  obtain ⟨cs, Hcs⟩ : ∃ cs, Hid (cs = key64) := ⟨_, rfl⟩
  have KL : Hid (cs.length = ys.length) := by unfold Hid; rw [Hcs.out, Hys.out]; rfl
  have KSz : Hid ((Tryd.prog.info? 58).map (·.size) = some cs.length) := by rw [Hcs.out]; exact key64_size
  have K1 : Hid (∀ v ∈ cs, v.oneCell' = true) := by rw [Hcs.out]; exact key64_one
  have hO0 : Blk (w.alloc (.cells zs.toArray 27)) w.heap.size 27 zs := Blk.new _ _ _
  have hB0 : Below w.heap.size w (w.alloc (.cells zs.toArray 27)) := (Below.refl _ _).alloc (Nat.le_refl _) _
  have hs0 : (w.alloc (.cells zs.toArray 27)).heap.size = w.heap.size + 1 := by simp
  have HL : Hid (bs.length = n) := h.len
  have hle := h.le
  have hmx := h.max
  unfold maxLen at hmx
  go_enter Tryd.func17, Tryd.ntmps17
  go_wp2_with fail
  generalize w.alloc (.cells zs.toArray 27) = w1 at hO0 hB0 hs0 ⊢
  refine (keys_any w1).mono ?_
  rintro e w2 ⟨rfl, hb2⟩
  rw [← Hcs.out]
  have hs2 := hb2.size
  have hO2 := hO0.below hb2 (by omega)
  have hB2 := hB0.trans (hb2.mono (by omega))
  clear hO0 hB0 hb2
  have h2 := h.below hB2 (Nat.le_refl _)
  go_wp2_with (first
    | (refine wpList_store_new (by rfl) 58 (.tmp 3) (.tmp 13) (by rfl) w2 ys cs (by rfl) (by rfl) KL.out KSz.out K1.out ?_; intro w3 hK3 hb3; have hO3 := hO2.below hb3 (by omega); have hB3 := hB2.trans (hb3.mono (by omega)); have hs3 := hK3.lt; have h3 := h2.below hb3 (Nat.le_refl _); obtain ⟨gK, hgK⟩ : ∃ gK, w2.heap.size = gK := ⟨_, rfl⟩; rw [hgK] at hK3 hs3 ⊢; have n1 : w.heap.size < gK := (by omega); have o0 := own_empty w3.heap.size w3 (Nat.le_refl _); have h4 := h3.alloc (.cells #[] 5); have b0 := (Below.refl w3.heap.size w3).alloc (Nat.le_refl _) (.cells #[] 5))
    | (at_builtin; refine wpList_append_bytes (P := Tryd.prog) _ (by rfl) (.tmp 14) (.tmp 15) 23 23 (by rfl) 5 i5 Tryd.underlying23 hi hz0 hz1 hz2 w3.heap.size (by simp) (by rfl) o0.app bs (by rfl) (h4.src _ Tryd.underlying23) (.inr ⟨_, rfl, o0⟩) (by omega) ?_; intro g1 cap1 w4 ho1 hb4 hg4 hw4; simp only [Nat.zero_add, List.nil_append] at ho1; have z4 := (b0.trans hb4).size; have o1 := ho1.alloc (.cells #[.int .u8 128] 5))
    | (at_builtin; refine wpList_append_bytes (P := Tryd.prog) _ (by rfl) (.tmp 16) (.tmp 17) 23 23 (by rfl) 5 i5 Tryd.underlying23 hi hz0 hz1 hz2 w3.heap.size (by simp; omega) (by rfl) o1.app [128] (by rfl) (src_one _ Tryd.underlying23 _ _ _ (by simp)) (.inl (by omega)) (by omega) ?_; intro g2 cap2 w5 ho2 hb5 hg5 hw5))
  have hB5 : Below w3.heap.size w3 w5 := (b0.trans hb4).trans ((Below.refl w3.heap.size w4).alloc (by omega) _ |>.trans hb5)
  have h5 := h3.below hB5 (Nat.le_refl _)
  clear h h2 h4 o0 b0 o1 ho1 hb4 hg4 hw4 hb5 hg5 hw5 hO2 hB2 hb3 K1 KL
  obtain ⟨z, Hz⟩ : ∃ z, Hid (z = (119 - n % 64) % 64) := ⟨_, rfl⟩
  go_loopw [4] (fun s4 wr => ∃ (k g c : Nat), k ≤ z ∧ s4 = .slice (some ⟨g, 0, none⟩) (n + 1 + k) c ∧ Own 5 w3.heap.size wr g (n + 1 + k) c (bs ++ [128] ++ zeros k) ∧ Below w3.heap.size w3 wr) (fun s4 _ => n + 1 + z - lenOf s4)
  case atStart => exact ⟨0, g2, cap2, by omega, rfl, by simpa [zeros] using ho2, hB5⟩
  case round =>
    clear ho2 hB5
    obtain ⟨k, g, c, hkz, rfl, ho, hb⟩ := hrel
    have hsz := hb.size
    have hcm := ho.max
    have hcl := ho.le
    unfold maxLen at hcm
    have hz64 : z < 64 := by rw [Hz.out]; omega
    by_cases hlt : k < z
    · have hne : ¬ (n + 1 + k) % 64 = 56 := by
        have := Hz.out
        omega
      have hne' : ¬ ((n : Int) + 1 + (k : Int)) % 64 = 56 := by omega
      have o1 := ho.alloc (.cells #[.int .u8 0] 5)
      have b1 := hb.alloc hsz (.cells #[.int .u8 0] 5)
      go_wp2_with (at_builtin; refine wpList_append_bytes (P := Tryd.prog) _ (by rfl) (.tmp 23) (.tmp 24) 23 23 (by rfl) 5 i5 Tryd.underlying23 hi hz0 hz1 hz2 w3.heap.size (by simp; omega) (by rfl) o1.app [0] (by rfl) (src_one _ Tryd.underlying23 _ _ _ (by simp)) (.inl (by omega)) (by omega) ?_; intro g2 cap2 w5 ho2 hb5 hg5 hw5)
      have ho3 : Own 5 w3.heap.size w5 g2 (n + 1 + (k + 1)) cap2 (bs ++ [128] ++ zeros (k + 1)) := by
        have e : zeros (k + 1) = zeros k ++ [0] := by unfold zeros; rw [List.replicate_succ']
        rw [e, ← List.append_assoc]
        exact ho2
      refine ⟨⟨k + 1, g2, cap2, by omega, rfl, ho3, b1.trans hb5⟩, by simp [lenOf]; omega⟩
    · have hkz' : k = z := by omega
      have heq : (n + 1 + k) % 64 = 56 := by
        have := Hz.out
        omega
      have heq' : ((n : Int) + 1 + (k : Int)) % 64 = 56 := by omega
      have hO := hO3.below hb (by omega)
      have hK := hK3.below hb (by omega)
      have hB := hB3.trans (hb.mono (by omega))
      have hr := ho.rd
      obtain ⟨P, HP⟩ : ∃ P, Hid (P = pad bs) := ⟨_, rfl⟩
      have hE := reight_any (some ⟨g, 0, none⟩) (n + 1 + k) c (bs ++ [128] ++ zeros k) (n * 8) wr hr (by omega) (by omega)
      rw [show (bs ++ [128] ++ zeros k ++ e8 (n * 8)) = P by rw [HP.out, pad, HL.out, hkz', Hz.out]; simp] at hE
      rw [show ((n * 8 : Nat) : Int) = (n : Int) * 8 by omega] at hE
      obtain ⟨q, hq⟩ : ∃ q, n + 1 + k + 8 = 64 * q := ⟨(n + 1 + k + 8) / 64, by omega⟩
      rw [hq] at hE
      obtain ⟨L, HLz⟩ : ∃ L, Hid (L = n + 1 + k) := ⟨_, rfl⟩
      have heqL : (L : Int) % 64 = 56 := by rw [HLz.out]; omega
      rw [← HLz.out] at hE ⊢
      have HPL : Hid (P.length / 64 = q) := by unfold Hid; rw [HP.out, pad_length, HL.out, ← Hz.out, ← hkz']; omega
      clear ho hr hb hcm hcl heq heq'
      go_wp2_with fail
      refine hE.mono ?_
      rintro e w6 ⟨gp, cp, rfl, hP6, hb6⟩
      have hO6 := hO.below hb6 hO.lt
      have hK6 := hK.below hb6 hK.lt
      have hB6 := hB.trans (hb6.mono hB.size)
      have n2 : gK < gp := Nat.lt_of_lt_of_le hK.lt hP6.new
      have hcp := hP6.max
      have hcq := hP6.le
      unfold maxLen at hcp
      clear hE hO hK hB hb6 heqL
      obtain ⟨z8, Hz8⟩ : ∃ l : List Value, Hid (l = List.replicate 8 (.int .u64 0)) := ⟨_, rfl⟩
      have hz60 : ∀ w : World, (zeroValue 60).run Tryd.prog w = .ok (.agg z8.toArray) w := by rw [Hz8.out]; exact (zero_of_info (n := 8) (by kernel_rfl)).1
      have HHL : Hid ((u64s h0.list).length = z8.length) := by unfold Hid; rw [Hz8.out]; rfl
      have HHS : ∀ v : V8, Hid ((Tryd.prog.info? 60).map (·.size) = some (u64s v.list).length) := fun v => by unfold Hid; rw [u64s_length, V8.list_length]; exact Tryd.size60
      have HBd : Hid (Tryd.prog.built 60 [(0, .int .u64 1779033703), (1, .int .u64 3144134277), (2, .int .u64 1013904242), (3, .int .u64 2773480762), (4, .int .u64 1359893119), (5, .int .u64 2600822924), (6, .int .u64 528734635), (7, .int .u64 1541459225)] = some (u64s h0.list).toArray) := by unfold Hid; kernel_rfl
      go_wp2_with (first
        | (refine wpList_build_list (by rfl) 60 _ (by rfl) (u64s h0.list) (by exact HBd.out) ?_)
        | (refine wpList_store_new (by rfl) 60 (.tmp 5) (.tmp 32) (by rfl) w6 z8 (u64s h0.list) (by rfl) (by rfl) HHL.out (HHS h0).out (one_u64s _) ?_; intro w7 hH7 hb7))
      have hO7 := hO6.below hb7 hO6.lt
      have hK7 := hK6.below hb7 hK6.lt
      have hP7 := hP6.below hb7 hP6.lt
      have hB7 := hB6.trans (hb7.mono hB6.size)
      have n3 : gp < w6.heap.size := hP6.lt
      have hs7 := hH7.lt
      obtain ⟨gh, hgh⟩ : ∃ gh, w6.heap.size = gh := ⟨_, rfl⟩
      rw [hgh] at hH7 hs7 n3 ⊢
      clear hO6 hK6 hP6 hB6 hb7 HHL HBd hz60
      go_loopw [6] (fun s6 wr => ∃ m : Nat, m ≤ q ∧ s6 = .int .i64 (64 * (m : Int)) ∧ Blk wr gh 60 (u64s (absorb m P).list) ∧ Blk wr gK 58 cs ∧ Blk wr w.heap.size 27 zs ∧ Own 5 0 wr gp (64 * q) cp P ∧ Below w.heap.size w wr ∧ gh < wr.heap.size) (fun s6 _ => 64 * q - (intOf s6).toNat)
      case atStart => exact ⟨0, by omega, rfl, hH7, hK7, hO7, hP7.mono (Nat.zero_le _), hB7, hs7⟩
      case round =>
        clear hH7 hK7 hO7 hP7 hB7 hs7
        obtain ⟨m, hmq, rfl, hH, hK, hO, hP, hB, hgs⟩ := hrel
        by_cases hlt : m < q
        · obtain ⟨blk, Hblk⟩ : ∃ blk, Hid (blk = (P.drop (64 * m)).take 64) := ⟨_, rfl⟩
          have hPl := hP.len
          have HPl : Hid _ := hPl
          clear hPl
          have H64 : Hid (blk.length = 64) := by unfold Hid; rw [Hblk.out, List.length_take, List.length_drop, HPl.out]; omega
          have hW0 : Blk (wr.alloc (.cells ys.toArray 58)) wr.heap.size 58 (wrow blk 0) := by
            rw [wrow_zero, ← Hys.out]
            exact Blk.new _ _ _
          have hb0 : Below wr.heap.size wr (wr.alloc (.cells ys.toArray 58)) := (Below.refl _ _).alloc (Nat.le_refl _) _
          have hH0 := hH.alloc (.cells ys.toArray 58)
          have hK0 := hK.alloc (.cells ys.toArray 58)
          have hO0 := hO.alloc (.cells ys.toArray 58)
          have hP0 := hP.alloc (.cells ys.toArray 58)
          have hB0 := hB.trans (hb0.mono hB.size)
          have hsz := hB.size
          have HV : Hid _ := absorb_ok m P
          have HNext : Hid (absorb (m + 1) P = comp (absorb m P) blk) := by unfold Hid; rw [Hblk.out]; rfl
          go_wp2_with fail
          obtain ⟨gw, hgw⟩ : ∃ gw, wr.heap.size = gw := ⟨_, rfl⟩
          rw [hgw] at hW0 hgs hsz ⊢
          clear hH hK hO hP hB hb0 hgw
          generalize absorb m P = v at hH0 HV HNext
          go_loopw [8] (fun s8 wq => ∃ i : Nat, i ≤ 64 ∧ s8 = .int .i64 (i : Int) ∧ Blk wq gw 58 (wrow blk i) ∧ Blk wq gh 60 (u64s v.list) ∧ Blk wq gK 58 cs ∧ Blk wq w.heap.size 27 zs ∧ Own 5 0 wq gp (64 * q) cp P ∧ Below w.heap.size w wq) (fun s8 _ => 64 - (intOf s8).toNat)
          case atStart => exact ⟨0, by omega, rfl, hW0, hH0, hK0, hO0, hP0, hB0⟩
          case round =>
            clear hW0 hH0 hK0 hO0 hP0 hB0
            obtain ⟨i, hi64, rfl, hW, hH, hK, hO, hP, hB⟩ := hrel
            by_cases hli : i < 64
            · have hbi : i < blk.length := by rw [H64.out]; exact hli
              have hPi : 64 * m + i < P.length := by rw [HPl.out]; omega
              have eb : P[64 * m + i] = blk[i] := by
                have e1 : blk[i]? = some P[64 * m + i] := by rw [Hblk.out, List.getElem?_take_of_lt hli, List.getElem?_drop, List.getElem?_eq_getElem hPi]
                rw [List.getElem?_eq_getElem hbi] at e1
                exact (Option.some.inj e1).symm
              have hcp' : wr.cell? ⟨gp, 64 * m + i, none⟩ = some (.int .u8 ((blk[i]).toNat : Int)) := hP.cell (by rw [List.getElem?_eq_getElem hPi, eb])
              have hcw : wr.cell? ⟨gw, i / 4, none⟩ = some (.int .u64 (wpart blk i (i / 4) : Int)) := hW.cell (wrow_get (by omega))
              have hfr := hW.frozen (i / 4)
              have HS : Hid _ := wrow_step hbi
              have bw := wpart_lt blk (i := i)
              have bc : (blk[i]).toNat < 256 := (blk[i]).toNat_lt
              generalize (blk[i]).toNat = cc at hcp' HS bc
              generalize wpart blk i (i / 4) = wp at hcw HS bw
              clear eb hbi hPi
              go_wp2_with fail
              go_region
              go_wp2_with fail
              refine ⟨⟨i + 1, by omega, by go_num, ?_, (hH.other _ (by omega)).drew, (hK.other _ (by omega)).drew, (hO.other _ (by omega)).drew, hP.carry (Below.heap_setCell _ _ _ _ (fun e => absurd e (by simp; omega))), (hB.setCell (by show w.heap.size ≤ gw; omega) _).trans ⟨rfl, rfl, rfl, Nat.le_refl _, fun _ _ => rfl⟩⟩, by simp [intOf]; omega⟩
              refine Blk.drew (Blk.setTo (l := wrow blk i) hW (z' := ((wp * 256 + cc : Nat) : Int)) (by omega) HS.out)
            · rw [show i = 64 by omega, wrow_all H64.out _ rfl] at hW
              have hzi : (i : Int) = 64 := by omega
              rw [Hcs.out] at hK
              have hR := rblock_any v HV.out blk _ rfl wr
              have HWS : Hid ((Tryd.prog.info? 58).map (·.size) = some (half 64 16 (wf64 fun j => (exts 48 (words blk)).getD j 0) wz64).length) := by unfold Hid; rw [half_length]; exact Tryd.size58
              have HKS : Hid ((Tryd.prog.info? 58).map (·.size) = some key64.length) := key64_size
              have hR' : Calls Tryd.prog 26 #[.agg (u64s v.list).toArray, .agg (half 64 16 (wf64 fun j => (exts 48 (words blk)).getD j 0) wz64).toArray, .agg key64.toArray] wr fun e w' => e = .returned (.agg (u64s (comp v blk).list).toArray) ∧ Below wr.heap.size wr w' := hR
              generalize half 64 16 (wf64 fun j => (exts 48 (words blk)).getD j 0) wz64 = wc at hW HWS hR'
              clear hR
              rw [← Hcs.out] at hK HKS hR'
              go_wp2_with (first
                | (refine wpList_load_blk (by rfl) 60 (.tmp 5) (by rfl) gh 60 (u64s v.list) hH (by rfl) (.array 8 30) Tryd.underlying60 rfl (HHS v).out ?_)
                | (refine wpList_load_blk (by rfl) 58 (.tmp 7) (by rfl) gw 58 wc hW (by rfl) (.array 64 30) Tryd.underlying58 rfl HWS.out ?_)
                | (refine wpList_load_blk (by rfl) 58 (.tmp 3) (by rfl) gK 58 cs hK (by rfl) (.array 64 30) Tryd.underlying58 rfl HKS.out ?_))
              refine hR'.mono ?_
              rintro e w8 ⟨rfl, hb8⟩
              have hH8 := hH.below hb8 hH.lt
              have hK8 := hK.below hb8 hK.lt
              have hO8 := hO.below hb8 hO.lt
              have hP8 := hP.below hb8 hP.lt
              have hB8 := hB.trans (hb8.mono hB.size)
              rw [← HNext.out]
              go_wp2_with (refine wpList_store_blk (by rfl) 60 (.tmp 5) (.tmp 62) (by rfl) gh 60 (u64s v.list) (u64s (absorb (m + 1) P).list) hH8 (by rfl) (by rfl) (by rw [u64s_length, u64s_length, V8.list_length, V8.list_length]) (HHS _).out (one_u64s _) ?_; intro w9 hH9 hG9)
              have keep : ∀ j, j ≠ gh → j < w8.heap.size → w9.heap[j]? = w8.heap[j]? := fun j hj hl => hG9.block j hl (by simpa using hj)
              refine ⟨⟨m + 1, by omega, by go_num, hH9, hK8.carry (keep gK (by omega) hK8.lt), hO8.carry (keep w.heap.size (by omega) hO8.lt), hP8.carry (keep gp (by omega) hP8.lt), hB8.trans (grownTo hG9 (by omega) (Nat.le_of_lt hO8.lt)), hH9.lt⟩, by simp [intOf]; omega⟩
        · obtain ⟨V, HVV⟩ : ∃ V, Hid (V = absorb q P) := ⟨_, rfl⟩
          rw [show m = q by omega, ← HVV.out] at hH
          have HSha : Hid (outs V = sha bs) := by unfold Hid; rw [HVV.out, sha, ← HP.out, HPL.out]
          have HVok : Hid V.ok := by rw [HVV.out]; exact absorb_ok _ _
          have hzm : (m : Int) = q := by omega
          have hU0 : Blk (wr.alloc (.cells zs.toArray 27)) wr.heap.size 27 (half 32 0 (fun i => bval ((outs V).getD i 0)) bz) := by
            rw [half_zero, ← Hzs.out]
            exact Blk.new _ _ _
          have hH0 := hH.alloc (.cells zs.toArray 27)
          have hO0 := hO.alloc (.cells zs.toArray 27)
          have hB0 := hB.alloc hB.size (.cells zs.toArray 27)
          have hgO := hO.lt
          go_wp2_with fail
          clear hzm
          obtain ⟨gu, hgu⟩ : ∃ gu, wr.heap.size = gu := ⟨_, rfl⟩
          rw [hgu] at hU0 hgs hgO ⊢
          clear hH hK hO hP hB hgu
          go_loopw [10] (fun s10 wq => ∃ i : Nat, i ≤ 8 ∧ s10 = .int .i64 (i : Int) ∧ Blk wq gu 27 (half 32 (4 * i) (fun i => bval ((outs V).getD i 0)) bz) ∧ Blk wq gh 60 (u64s V.list) ∧ Blk wq w.heap.size 27 zs ∧ Below w.heap.size w wq) (fun s10 _ => 8 - (intOf s10).toNat)
          case atStart => exact ⟨0, by omega, rfl, hU0, hH0, hO0, hB0⟩
          case round =>
            clear hU0 hH0 hO0 hB0
            obtain ⟨i, hi8, rfl, hU, hH, hO, hB⟩ := hrel
            by_cases hli : i < 8
            · have hch := hH.cell (u64s_get (l := V.list) (j := i) hli)
              have bx := V8.ok_get HVok.out i
              have HX : Hid (∀ nn, nn < 4 → (outs V).getD (4 * i + nn) 0 = (e8 (V.list.getD i 0)).getD (4 + nn) 0) := fun nn hnn => outs_get V hli hnn
              generalize V.list.getD i 0 = x at hch bx HX
              have hE := reight_any none 0 0 [] x wr (App.nil 5 0 wr).1 (by decide) (by omega)
              rw [List.nil_append, Nat.zero_add] at hE
              go_wp2_with fail
              refine hE.mono ?_
              rintro e w8 ⟨g5, c5, rfl, hX8, hb8⟩
              have hU8 := hU.below hb8 hU.lt
              have hH8 := hH.below hb8 hH.lt
              have hO8 := hO.below hb8 hO.lt
              have hB8 := hB.trans (hb8.mono hB.size)
              have n5 : gu < g5 := Nat.lt_of_lt_of_le hU.lt hX8.new
              have hc5 := hX8.max
              have hc6 := hX8.le
              unfold maxLen at hc5
              replace hX8 := hX8.mono (Nat.zero_le _)
              clear hU hH hO hB hb8 hE hch
              go_wp2_with fail
              go_loopw [12] (fun s12 wq => ∃ nn : Nat, nn ≤ 4 ∧ s12 = .int .i64 (nn : Int) ∧ Blk wq gu 27 (half 32 (4 * i + nn) (fun i => bval ((outs V).getD i 0)) bz) ∧ Blk wq gh 60 (u64s V.list) ∧ Blk wq w.heap.size 27 zs ∧ Own 5 0 wq g5 8 c5 (e8 x) ∧ Below w.heap.size w wq) (fun s12 _ => 4 - (intOf s12).toNat)
              case atStart => exact ⟨0, by omega, rfl, hU8, hH8, hO8, hX8, hB8⟩
              case round =>
                clear hU8 hH8 hO8 hB8 hX8
                obtain ⟨nn, hn4, rfl, hU, hH, hO, hX, hB⟩ := hrel
                by_cases hln : nn < 4
                · have hx8 : 4 + nn < (e8 x).length := by rw [e8_length]; omega
                  have hcx : wr.cell? ⟨g5, 4 + nn, none⟩ = some (.int .u8 (((e8 x).getD (4 + nn) 0).toNat : Int)) := hX.cell (by rw [List.getD_eq_getElem?_getD, List.getElem?_eq_getElem hx8]; rfl)
                  have hcu : wr.cell? ⟨gu, 4 * i + nn, none⟩ = some (.int .u8 0) := hU.cell (half_ge (by omega) (Nat.le_refl _))
                  have hfu := hU.frozen (4 * i + nn)
                  have HF : Hid (bval ((outs V).getD (4 * i + nn) 0) = .int .u8 (((e8 x).getD (4 + nn) 0).toNat : Int)) := by unfold Hid; rw [HX.out nn hln]; rfl
                  have hu2 := hU.set (4 * i + nn) (.int .u8 (((e8 x).getD (4 + nn) 0).toNat : Int))
                  have HU2 : Hid (Blk (wr.setCell ⟨gu, 4 * i + nn, none⟩ (.int .u8 (((e8 x).getD (4 + nn) 0).toNat : Int))) gu 27 (half 32 (4 * i + nn + 1) (fun i => bval ((outs V).getD i 0)) bz)) := by
                    unfold Hid
                    rw [← half_set (show 4 * i + nn < 32 by omega), HF.out]
                    exact hu2
                  clear hu2 hx8
                  generalize (((e8 x).getD (4 + nn) 0).toNat : Int) = cc at hcx HU2
                  go_wp2_with fail
                  refine ⟨⟨nn + 1, by omega, by go_num, HU2.out, hH.other _ (by omega), hO.other _ (by omega), hX.carry (Below.heap_setCell _ _ _ _ (fun e => absurd e (by simp; omega))), hB.setCell (by show w.heap.size ≤ gu; omega) _⟩, by simp [intOf]; omega⟩
                · rw [show 4 * i + nn = 4 * (i + 1) by omega] at hU
                  go_wp2_with fail
                  refine ⟨⟨i + 1, by omega, by go_num, hU, hH, hO, hB⟩, by simp [intOf]; omega⟩
            · rw [show 4 * i = 32 by omega, half_all, bytes_range (outs_length V), HSha.out] at hU
              have hzi : (i : Int) = 8 := by omega
              have HSz : Hid ((Tryd.prog.info? 27).map (·.size) = some ((sha bs).map bval).length) := by unfold Hid; rw [List.length_map, sha_length]; exact Tryd.size27
              have HLz' : Hid (((sha bs).map bval).length = zs.length) := by unfold Hid; rw [Hzs.out, List.length_map, sha_length]; simp
              go_wp2_with (first
                | (refine wpList_load_blk (by rfl) 27 (.tmp 9) (by rfl) gu 27 _ hU (by rfl) (.array 32 5) Tryd.underlying27 rfl HSz.out ?_)
                | (refine wpList_store_blk (by rfl) 27 (.tmp 2) (.tmp 85) (by rfl) w.heap.size 27 zs _ hO (by rfl) (by rfl) HLz'.out HSz.out (one_bytes _) ?_; intro w9 hO9 hG9))
              refine bodyPost_ret (v := .agg ((sha bs).map bval).toArray) (results_cell_row (p := 2) (ty := 27) rfl _ _ w.heap.size 27 _ (0, 0) (.array 32 5) rfl hO9 Tryd.underlying27 rfl (by simpa using HSz.out)) rfl ?_
              exact ⟨rfl, hB.trans (grownTo hG9 (Nat.le_refl _) (Nat.le_of_lt hO.lt))⟩
end Go.Proofs.YtpibpjbeedcefaaDoor
