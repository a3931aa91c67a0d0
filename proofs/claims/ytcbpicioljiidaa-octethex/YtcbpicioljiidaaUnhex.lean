/- The walks of octet.Unhex and of the document's own answers to Hex and Unhex. No condition but that what is given can be read and is no longer than 2^40. -/
import Derived.Test.YtcbpicioljiidaaReads
namespace Go.Proofs.Ytcbpicioljiidaa
open Go.RowKit

/-- The bytes that a text of digits shows. -/
def unh : List UInt8 → Option (List UInt8)
  | [] => some []
  | [_] => none
  | a :: b :: r => match halfv a.toNat, halfv b.toNat with
    | some x, some y => (unh r).map fun t => (x * 16 + y).toUInt8 :: t
    | _, _ => none

/-- What Unhex tells. -/
def unhv (l : List UInt8) : List UInt8 × Nat := match unh l with
  | some r => (r, 0)
  | none => ([], 5)

theorem unh_odd : ∀ (m : Nat) (l : List UInt8), l.length = 2 * m + 1 → unh l = none := by
  intro m
  induction m with
  | zero =>
    intro l hl
    match l, hl with
    | [a], _ => rfl
  | succ m ih =>
    intro l hl
    match l, hl with
    | a :: b :: r, hl =>
      simp only [List.length_cons] at hl
      rw [unh, ih r (by omega)]
      cases halfv a.toNat <;> cases halfv b.toNat <;> rfl

theorem unh_yes {a b : UInt8} {r : List UInt8} {x y : Nat} (h1 : halfv a.toNat = some x) (h2 : halfv b.toNat = some y) : unh (a :: b :: r) = (unh r).map fun t => (x * 16 + y).toUInt8 :: t := by rw [unh, h1, h2]
theorem unh_no1 {a b : UInt8} {r : List UInt8} (h1 : halfv a.toNat = none) : unh (a :: b :: r) = none := by rw [unh, h1]
theorem unh_no2 {a b : UInt8} {r : List UInt8} (h2 : halfv b.toNat = none) : unh (a :: b :: r) = none := by rw [unh, h2]; cases halfv a.toNat <;> rfl

theorem str_index {s : ByteArray} {j : Nat} {a : UInt8} (h : s.data.toList[j]? = some a) (k : IntKind) (i : Int) (hi : i = (j : Int)) (w : World) : (Instr.index 9 (.string s) (.int k i)).run Try.prog w = .ok (.int .u8 (a.toNat : Int)) w := by
  subst hi
  have hj := (List.getElem?_eq_some_iff.1 h).1
  have hs : s.data.toList.length = s.size := by simp
  rw [run_index_string w 9 s k _ Try.underlying9, dif_pos ⟨by omega, by omega⟩]
  congr 3
  have h2 : s.data.toList[j] = a := (List.getElem?_eq_some_iff.1 h).2
  rw [← h2]
  simp
  rfl

theorem half_at (c : Nat) (r : Option Nat) (hr : halfv c = r) (w : World) (hc : c < 256) :
    Calls Try.prog 30 #[.int .u8 (c : Int)] w fun e w' => e = .returned (.tuple #[.int .u8 ((r.getD 0 : Nat) : Int), .bool r.isSome]) ∧ w = w' := by
  subst hr
  exact half_any c w hc

theorem and_one (n : Nat) (h : n < 4611686018427387904) : bits .and .i64 (n : Int) 1 = ((n % 2 : Nat) : Int) := by
  have := bits_mask .i64 62 (by decide) (fun m h0 h1 => by rw [IntKind.wrap_i64]; omega) 1 (by decide) (n : Int) (by omega) (by omega)
  rw [show ((2 : Int) ^ 1 - 1) = 1 from rfl] at this
  rw [this]
  omega

theorem or_nibbles (x y : Nat) (hx : x < 16) (hy : y < 16) : bits .or .u8 ((x : Int) * 16) (y : Int) = ((x * 16 + y : Nat) : Int) := by
  rw [bits_join .u8 8 (by decide) wraps_u8 4 ((x : Int) * 16) (y : Int) (by omega) (by omega) (by omega) (by omega) (by omega) (by omega)]
  omega

set_option maxRecDepth 100000 in
set_option maxHeartbeats 400000 in
theorem unhex_any (s : ByteArray) (w : World) (hs : s.size ≤ 1099511627776) :
    Calls Try.prog 26 #[.string s] w fun e w' => ∃ ao cap, e = .returned (.tuple #[.slice ao (unhv s.data.toList).1.length cap, .int .i64 ((unhv s.data.toList).2 : Int)]) ∧
      Res 5 w.heap.size w' ao (unhv s.data.toList).1.length cap (unhv s.data.toList).1 ∧ Below w.heap.size w w' := by
  obtain ⟨i5, hi, hz0, hz1, hz2⟩ := info_parts Try.info5t
  have hll : s.data.toList.length = s.size := by simp
  have hone := and_one s.size (by omega)
  generalize hl : s.data.toList = l at *
  by_cases hodd : s.size % 2 = 1
  · have hu : unhv l = ([], 5) := by unfold unhv; rw [unh_odd (s.size / 2) l (by omega)]
    rw [hodd] at hone
    rw [hu]
    clear hu hl hll
    go_enter Try.func26, Try.ntmps26
    go_wp2
    go_ret2
    exact ⟨none, 0, rfl, res_nil _ _, Below.refl _ _⟩
  · rw [show s.size % 2 = 0 by omega] at hone
    obtain ⟨N, hN⟩ : ∃ N, s.size = 2 * N := ⟨s.size / 2, by omega⟩
    have HLL : Hid (l.length = 2 * N) := by unfold Hid; omega
    have HLS : Hid (s.data.toList = l) := hl
    have hmk : ∀ w : World, (Instr.makeSlice 22 (.int .i64 0) (.int .i64 ((s.size : Int) / 2))).run Try.prog w = .ok (.slice (some ⟨w.heap.size, 0, none⟩) 0 N) (w.alloc (.cells (zrow N) 5)) := fun w => by
      rw [run_make_bytes (P := Try.prog) w 22 5 i5 Try.underlying22 hi hz0 hz1 hz2 .i64 .i64 0 ((s.size : Int) / 2) (by omega) (by omega) (by omega)]
      rw [show ((s.size : Int) / 2).toNat = N by omega]
      rfl
    have HN : Hid (s.size = 2 * N) := hN
    have hN2 : 2 * N ≤ s.size := by omega
    have hN3 : s.size ≤ 2 * N := by omega
    clear hN hl hll
    go_enter Try.func26, Try.ntmps26
    go_wp2_with fail
    go_loopw [4, 5] (fun out i wr => ∃ (k g cap' : Nat) (ks : List UInt8), k ≤ N ∧ i = .int .i64 (2 * (k : Int)) ∧ out = .slice (some ⟨g, 0, none⟩) k cap' ∧ Own 5 w.heap.size wr g k cap' ks ∧ Hid (unh l = (unh (l.drop (2 * k))).map fun t => ks ++ t) ∧ Below w.heap.size w wr)
      (fun _ i _ => 2 * N - (intOf i).toNat)
    case atStart =>
      refine ⟨0, w.heap.size, N, [], Nat.zero_le _, rfl, rfl, own_made w 5 w.heap.size (Nat.le_refl _) 0 _ (Nat.zero_le _) (by unfold maxLen; omega), ?_, (Below.refl _ _).alloc (Nat.le_refl _) _⟩
      unfold Hid
      simp
    case round =>
      clear hmk
      obtain ⟨k, g, cap', ks, hk, rfl, rfl, ho, HU, hb⟩ := hrel
      have hsz := hb.size
      by_cases hlt : k < N
      · obtain ⟨a, ha⟩ : ∃ a, l[2 * k]? = some a := ⟨_, List.getElem?_eq_getElem (by rw [HLL.out]; omega)⟩
        obtain ⟨b, hb'⟩ : ∃ b, l[2 * k + 1]? = some b := ⟨_, List.getElem?_eq_getElem (by rw [HLL.out]; omega)⟩
        have hdr : l.drop (2 * k) = a :: b :: l.drop (2 * (k + 1)) := by
          rw [List.drop_eq_getElem_cons (by rw [HLL.out]; omega), List.drop_eq_getElem_cons (by rw [HLL.out]; omega)]
          congr 1
          · exact (List.getElem?_eq_some_iff.1 ha).2
          · congr 1
            exact (List.getElem?_eq_some_iff.1 hb').2
        have HD : Hid _ := hdr
        have ix1 := fun w' => str_index (s := s) (j := 2 * k) (a := a) (by rw [HLS.out]; exact ha) .i64 (2 * (k : Int)) (by omega) w'
        have ix2 := fun w' => str_index (s := s) (j := 2 * k + 1) (a := b) (by rw [HLS.out]; exact hb') .i64 (2 * (k : Int) + 1) (by omega) w'
        have ha256 : a.toNat < 256 := a.toNat_lt
        have hb256 : b.toNat < 256 := b.toNat_lt
        clear ha hb' hdr
        cases hx : halfv a.toNat with
        | none =>
          have HV : Hid (unhv l = ([], 5)) := by
            unfold Hid unhv
            rw [HU.out, HD.out, unh_no1 hx]
            rfl
          have HX : Hid _ := hx
          clear hx HU
          go_wp2_with fail
          refine (half_at a.toNat none HX.out _ ha256).mono ?_
          rintro e w1 ⟨rfl, rfl⟩
          go_wp2_with fail
          refine (half_at b.toNat _ rfl _ hb256).mono ?_
          rintro e w1 ⟨rfl, rfl⟩
          go_wp2
          go_ret2
          rw [HV.out]
          exact ⟨none, 0, rfl, res_nil _ _, hb⟩
        | some x =>
          have HX : Hid _ := hx
          have hx16 := halfv_lt hx
          clear hx
          cases hy : halfv b.toNat with
          | none =>
            have HV : Hid (unhv l = ([], 5)) := by
              unfold Hid unhv
              rw [HU.out, HD.out, unh_no2 hy]
              rfl
            have HY : Hid _ := hy
            clear hy HU
            go_wp2_with fail
            refine (half_at a.toNat _ HX.out _ ha256).mono ?_
            rintro e w1 ⟨rfl, rfl⟩
            go_wp2_with fail
            refine (half_at b.toNat none HY.out _ hb256).mono ?_
            rintro e w1 ⟨rfl, rfl⟩
            go_wp2
            go_ret2
            rw [HV.out]
            exact ⟨none, 0, rfl, res_nil _ _, hb⟩
          | some y =>
            have HU2 : Hid (unh l = (unh (l.drop (2 * (k + 1)))).map fun t => (ks ++ [(x * 16 + y).toUInt8]) ++ t) := by
              unfold Hid
              rw [HU.out, HD.out, unh_yes HX.out hy]
              cases unh (l.drop (2 * (k + 1))) <;> simp
            have HY : Hid _ := hy
            have hy16 := halfv_lt hy
            have hor := or_nibbles x y hx16 hy16
            clear hy HU
            go_wp2_with fail
            refine (half_at a.toNat _ HX.out _ ha256).mono ?_
            rintro e w1 ⟨rfl, rfl⟩
            go_wp2_with fail
            refine (half_at b.toNat _ HY.out _ hb256).mono ?_
            rintro e w1 ⟨rfl, rfl⟩
            go_wp2_with (at_builtin; refine wpList_append_bytes (P := Try.prog) _ (by rfl) _ _ 22 22 (by rfl) 5 i5 Try.underlying22 hi hz0 hz1 hz2 w.heap.size (by simp; omega) (by rfl) (ho.app.alloc _) [(x * 16 + y).toUInt8] (by rfl) (src_one _ Try.underlying22 _ _ _ (by simp; omega)) (.inl (by omega)) (by omega) ?_; intro g1 cap1 w1 ho1 hb1 hg1 hw1)
            go_roundw
            case rel => exact ⟨k + 1, g1, cap1, _, by omega, by go_num, rfl, ho1, HU2, (hb.alloc (by omega) _).trans hb1⟩
            case measure => simp [intOf]; omega
      · obtain rfl : k = N := by omega
        have hu : unhv l = (ks, 0) := by
          have := HU.out
          rw [List.drop_eq_nil_of_le (by rw [HLL.out]; omega)] at this
          unfold unhv
          rw [this]
          simp [unh]
        have HV : Hid (unhv l = (ks, 0)) := hu
        have hkl := ho.len
        have HKL : Hid (ks.length = k) := hkl
        clear hu hkl
        go_wp2
        go_ret2
        rw [HV.out]
        exact ⟨some ⟨g, 0, none⟩, cap', by simp [HKL.out], by simpa [HKL.out] using ho.res, hb⟩

/-- What the document's digit answers. -/
def digv (c : Nat) : Int := match halfv c with
  | some x => x
  | none => -1

theorem halfv_digit (x : Nat) (h : x < 16) : halfv (Lib.Hx.digit x).toNat = some x := by
  have hs : x = 0 ∨ x = 1 ∨ x = 2 ∨ x = 3 ∨ x = 4 ∨ x = 5 ∨ x = 6 ∨ x = 7 ∨ x = 8 ∨ x = 9 ∨ x = 10 ∨ x = 11 ∨ x = 12 ∨ x = 13 ∨ x = 14 ∨ x = 15 := by omega
  rcases hs with rfl | rfl | rfl | rfl | rfl | rfl | rfl | rfl | rfl | rfl | rfl | rfl | rfl | rfl | rfl | rfl <;> decide

theorem digit_halfv {c x : Nat} (h : halfv c = some x) : (Lib.Hx.digit x).toNat = c := by
  unfold halfv at h
  split at h
  · rename_i h1
    simp at h
    subst h
    have hs : c = 48 ∨ c = 49 ∨ c = 50 ∨ c = 51 ∨ c = 52 ∨ c = 53 ∨ c = 54 ∨ c = 55 ∨ c = 56 ∨ c = 57 := by omega
    rcases hs with rfl | rfl | rfl | rfl | rfl | rfl | rfl | rfl | rfl | rfl <;> decide
  · split at h
    · rename_i h1
      simp at h
      subst h
      have hs : c = 97 ∨ c = 98 ∨ c = 99 ∨ c = 100 ∨ c = 101 ∨ c = 102 := by omega
      rcases hs with rfl | rfl | rfl | rfl | rfl | rfl <;> decide
    · cases h

set_option maxRecDepth 100000 in
set_option maxHeartbeats 400000 in
theorem digit_any (c : Nat) (w : World) : Calls Try.prog 31 #[.int .u8 (c : Int)] w fun e w' => e = .returned (.int .i64 (digv c)) ∧ w = w' := by
  go_enter Try.func31, Try.ntmps31
  go_wp2_with fail
  go_loop [3] (fun i => ∃ k : Nat, k ≤ 16 ∧ i = .int .i64 (k : Int) ∧ Hid (∀ j, j < k → (Lib.Hx.digit j).toNat ≠ c)) (fun i => 16 - (intOf i).toNat)
  case atStart => exact ⟨0, by omega, rfl, fun j hj => absurd hj (Nat.not_lt_zero _)⟩
  case round =>
    obtain ⟨k, hk, rfl, HN⟩ := hrel
    by_cases hlt : k < 16
    · have ix := hex_index .i64 k hlt
      by_cases he : (Lib.Hx.digit k).toNat = c
      · have HV : Hid (digv c = (k : Int)) := by
          unfold Hid digv
          rw [← he, halfv_digit k hlt]
        have hb : (((Lib.Hx.digit k).toNat : Int) == (c : Int)) = true := by rw [he]; simp
        clear he
        go_wp2
        go_ret
        exact ⟨by rw [HV.out]; rfl, rfl⟩
      · have hb : (((Lib.Hx.digit k).toNat : Int) == (c : Int)) = false := by rw [beq_eq_false_iff_ne]; omega
        have HN2 : Hid (∀ j, j < k + 1 → (Lib.Hx.digit j).toNat ≠ c) := fun j hj => by
          by_cases h : j = k
          · subst h; exact he
          · exact HN.out j (by omega)
        clear he
        go_wp2
        go_round
        case rel => exact ⟨k + 1, by omega, by go_num, HN2⟩
        case measure => simp [intOf]; omega
    · have HV : Hid (digv c = -1) := by
        unfold Hid digv
        cases h : halfv c with
        | none => rfl
        | some x => exact absurd (digit_halfv h) (HN.out x (by have := halfv_lt h; omega))
      go_wp2
      go_ret
      exact ⟨by rw [HV.out]; rfl, rfl⟩

theorem digit_at (c : Nat) (d : Int) (hd : digv c = d) (w : World) : Calls Try.prog 31 #[.int .u8 (c : Int)] w fun e w' => e = .returned (.int .i64 d) ∧ w = w' := by
  subst hd
  exact digit_any c w

theorem digv_some {c x : Nat} (h : halfv c = some x) : digv c = (x : Int) := by unfold digv; rw [h]
theorem digv_none {c : Nat} (h : halfv c = none) : digv c = -1 := by unfold digv; rw [h]

set_option maxRecDepth 100000 in
set_option maxHeartbeats 1000000 in
theorem runhex_any (s : ByteArray) (w : World) (hs : s.size ≤ 1099511627776) :
    Calls Try.prog 27 #[.string s] w fun e w' => ∃ ao cap, e = .returned (.tuple #[.slice ao (unhv s.data.toList).1.length cap, .int .i64 ((unhv s.data.toList).2 : Int)]) ∧
      Rd w' ao (unhv s.data.toList).1.length cap (unhv s.data.toList).1 ∧ Below w.heap.size w w' := by
  obtain ⟨i5, hi, hz0, hz1, hz2⟩ := info_parts Try.info5t
  have hll : s.data.toList.length = s.size := by simp
  generalize hl : s.data.toList = l at *
  by_cases hodd : s.size % 2 = 1
  · have hu : unhv l = ([], 5) := by unfold unhv; rw [unh_odd (s.size / 2) l (by omega)]
    rw [hu]
    clear hu hl hll
    have hod : (((s.size : Int) % 2) == 1) = true := by rw [beq_iff_eq]; omega
    go_enter Try.func27, Try.ntmps27
    go_wp2
    go_ret2
    exact ⟨none, 0, rfl, Rd.none' _ _, Below.refl _ _⟩
  · obtain ⟨N, hN⟩ : ∃ N, s.size = 2 * N := ⟨s.size / 2, by omega⟩
    have HLL : Hid (l.length = 2 * N) := by unfold Hid; omega
    have HLS : Hid (s.data.toList = l) := hl
    have HN : Hid (s.size = 2 * N) := hN
    have hod : (((s.size : Int) % 2) == 1) = false := by rw [beq_eq_false_iff_ne]; omega
    have hN2 : 2 * N ≤ s.size := by omega
    have hN3 : s.size ≤ 2 * N := by omega
    clear hN hl hll hodd
    go_enter Try.func27, Try.ntmps27
    go_wp2_with fail
    go_loopw [4, 5] (fun out i wr => ∃ (k cap' : Nat) (ao' : Option Addr) (ks : List UInt8), k ≤ N ∧ i = .int .i64 (2 * (k : Int)) ∧ out = .slice ao' k cap' ∧ App 5 w.heap.size wr ao' k cap' ks ∧ Hid (unh l = (unh (l.drop (2 * k))).map fun t => ks ++ t) ∧ Below w.heap.size w wr)
      (fun _ i _ => 2 * N - (intOf i).toNat)
    case atStart =>
      refine ⟨0, 0, none, [], Nat.zero_le _, rfl, rfl, App.nil 5 _ _, ?_, Below.refl _ _⟩
      unfold Hid
      simp
    case round =>
      obtain ⟨k, cap', ao', ks, hk, rfl, rfl, hA, HU, hb⟩ := hrel
      have hsz := hb.size
      by_cases hlt : k < N
      · obtain ⟨a, ha⟩ : ∃ a, l[2 * k]? = some a := ⟨_, List.getElem?_eq_getElem (by rw [HLL.out]; omega)⟩
        obtain ⟨b, hb'⟩ : ∃ b, l[2 * k + 1]? = some b := ⟨_, List.getElem?_eq_getElem (by rw [HLL.out]; omega)⟩
        have hdr : l.drop (2 * k) = a :: b :: l.drop (2 * (k + 1)) := by
          rw [List.drop_eq_getElem_cons (by rw [HLL.out]; omega), List.drop_eq_getElem_cons (by rw [HLL.out]; omega)]
          congr 1
          · exact (List.getElem?_eq_some_iff.1 ha).2
          · congr 1
            exact (List.getElem?_eq_some_iff.1 hb').2
        have HD : Hid _ := hdr
        have ix1 := fun w' => str_index (s := s) (j := 2 * k) (a := a) (by rw [HLS.out]; exact ha) .i64 (2 * (k : Int)) (by omega) w'
        have ix2 := fun w' => str_index (s := s) (j := 2 * k + 1) (a := b) (by rw [HLS.out]; exact hb') .i64 (2 * (k : Int) + 1) (by omega) w'
        have ha256 : a.toNat < 256 := a.toNat_lt
        have hb256 : b.toNat < 256 := b.toNat_lt
        clear ha hb' hdr
        cases hx : halfv a.toNat with
        | none =>
          have HV : Hid (unhv l = ([], 5)) := by
            unfold Hid unhv
            rw [HU.out, HD.out, unh_no1 hx]
            rfl
          have HX : Hid _ := digv_none hx
          clear hx HU
          go_wp2_with fail
          refine (digit_at a.toNat _ HX.out _).mono ?_
          rintro e w1 ⟨rfl, rfl⟩
          go_wp2
          go_ret2
          rw [HV.out]
          exact ⟨none, 0, rfl, Rd.none' _ _, hb⟩
        | some x =>
          have HX : Hid _ := digv_some hx
          have HX0 : Hid _ := hx
          have hx16 := halfv_lt hx
          clear hx
          cases hy : halfv b.toNat with
          | none =>
            have HV : Hid (unhv l = ([], 5)) := by
              unfold Hid unhv
              rw [HU.out, HD.out, unh_no2 hy]
              rfl
            have HY : Hid _ := digv_none hy
            clear hy HU
            go_wp2_with fail
            refine (digit_at a.toNat _ HX.out _).mono ?_
            rintro e w1 ⟨rfl, rfl⟩
            go_wp2_with fail
            refine (digit_at b.toNat _ HY.out _).mono ?_
            rintro e w1 ⟨rfl, rfl⟩
            go_wp2
            go_ret2
            rw [HV.out]
            exact ⟨none, 0, rfl, Rd.none' _ _, hb⟩
          | some y =>
            have HU2 : Hid (unh l = (unh (l.drop (2 * (k + 1)))).map fun t => (ks ++ [(x * 16 + y).toUInt8]) ++ t) := by
              unfold Hid
              rw [HU.out, HD.out, unh_yes HX0.out hy]
              cases unh (l.drop (2 * (k + 1))) <;> simp
            have HY : Hid _ := digv_some hy
            have hy16 := halfv_lt hy
            have hw1 : IntKind.i64.wrap (2 * (k : Int) + 1) = 2 * (k : Int) + 1 := by rw [IntKind.wrap_i64]; omega
            have hw2 : IntKind.i64.wrap (16 * (x : Int)) = 16 * (x : Int) := by rw [IntKind.wrap_i64]; omega
            have hw3 : IntKind.i64.wrap (16 * (x : Int) + (y : Int)) = 16 * (x : Int) + (y : Int) := by rw [IntKind.wrap_i64]; omega
            have hw4 : IntKind.u8.wrap (16 * (x : Int) + (y : Int)) = 16 * (x : Int) + (y : Int) := wraps_u8 _ (by omega) (by omega)
            clear hy HU
            go_wp2_with fail
            refine (digit_at a.toNat _ HX.out _).mono ?_
            rintro e w1 ⟨rfl, rfl⟩
            go_wp2_with fail
            refine (digit_at b.toNat _ HY.out _).mono ?_
            rintro e w1 ⟨rfl, rfl⟩
            go_wp2_with fail
            go_region_held3 (fun _ => True) (trivial)
              (first
                | (go_at_call_of 31 (Value.int IntKind.u8 (a.toNat : Int)); refine (digit_at a.toNat _ HX.out _).mono ?_; rintro e w1 ⟨rfl, rfl⟩)
                | (go_at_call_of 31 (Value.int IntKind.u8 (b.toNat : Int)); refine (digit_at b.toNat _ HY.out _).mono ?_; rintro e w1 ⟨rfl, rfl⟩)
                | (refine step_append_bytes _ (by rfl) _ _ 22 22 (by rfl) 5 i5 Try.underlying22 hi hz0 hz1 hz2 w.heap.size (by simp; omega) (by rfl) ((hA.alloc _).drew) [(x * 16 + y).toUInt8] (by rfl) (src_one _ Try.underlying22 _ _ _ (by simp; omega)) (.inl (by omega)) (by omega) ?_; intro g1 cap1 w1 ho1 hb1 hg1 hw1))
            all_goals
              go_wp2
              go_roundw
              case rel => exact ⟨k + 1, cap1, some ⟨g1, 0, none⟩, _, by omega, by go_num, rfl, ho1.app, HU2, ((hb.alloc (by omega) _).drew).trans hb1⟩
              case measure => simp [intOf]; omega
      · obtain rfl : k = N := by omega
        have hu : unhv l = (ks, 0) := by
          have := HU.out
          rw [List.drop_eq_nil_of_le (by rw [HLL.out]; omega)] at this
          unfold unhv
          rw [this]
          simp [unh]
        have HV : Hid (unhv l = (ks, 0)) := hu
        have hkl := hA.1.len
        have HKL : Hid (ks.length = k) := hkl
        clear hu hkl
        go_wp2
        go_ret2
        rw [HV.out]
        exact ⟨ao', cap', by simp [HKL.out], by simpa [HKL.out] using hA.1, hb⟩
end Go.Proofs.Ytcbpicioljiidaa
