/- The walks of the document's letter, digit, Name, IsName, and Has. No condition but that what comes in can be read. -/
import Derived.Test.YtahfaeamjbcepaaGreatDoorNm2
import Derived.Test.YtahfaeamjbcepaaGreatDoorRl
namespace Go.Proofs.YtahfaeamjbcepaaGreatDoor
open Go.RowKit

theorem rletter_any (c : Nat) (w : World) : Calls Tryz.prog 33 #[.int .u8 (c : Int)] w fun e w' => e = .returned (.bool (isL c)) ∧ w = w' := by
  obtain ⟨r, hr⟩ : ∃ r, isL c = r := ⟨_, rfl⟩
  rw [hr]
  unfold isL at hr
  by_cases h97 : 97 ≤ c
  · have d97 : decide ((97 : Int) ≤ (c : Int)) = true := by simp; omega
    by_cases h122 : c ≤ 122
    · have d122 : decide ((c : Int) ≤ (122 : Int)) = true := by simp; omega
      obtain rfl : true = r := by rw [← hr]; simp [h97, h122]
      clear hr
      go_enter Tryz.func33, Tryz.ntmps33
      go_wp2_with fail
      go_ret
      exact ⟨by simp, rfl⟩
    · have d122 : decide ((c : Int) ≤ (122 : Int)) = false := by simp; omega
      have d65 : decide ((65 : Int) ≤ (c : Int)) = true := by simp; omega
      have d90 : decide ((c : Int) ≤ (90 : Int)) = false := by simp; omega
      obtain rfl : false = r := by rw [← hr]; simp [h122]; omega
      clear hr
      go_enter Tryz.func33, Tryz.ntmps33
      go_wp2_with fail
      go_ret
      exact ⟨by simp, rfl⟩
  · have d97 : decide ((97 : Int) ≤ (c : Int)) = false := by simp; omega
    by_cases h65 : 65 ≤ c
    · have d65 : decide ((65 : Int) ≤ (c : Int)) = true := by simp; omega
      by_cases h90 : c ≤ 90
      · have d90 : decide ((c : Int) ≤ (90 : Int)) = true := by simp; omega
        obtain rfl : true = r := by rw [← hr]; simp [h65, h90]
        clear hr
        go_enter Tryz.func33, Tryz.ntmps33
        go_wp2_with fail
        go_ret
        exact ⟨by simp, rfl⟩
      · have d90 : decide ((c : Int) ≤ (90 : Int)) = false := by simp; omega
        obtain rfl : false = r := by rw [← hr]; simp [h97, h90]
        clear hr
        go_enter Tryz.func33, Tryz.ntmps33
        go_wp2_with fail
        go_ret
        exact ⟨by simp, rfl⟩
    · have d65 : decide ((65 : Int) ≤ (c : Int)) = false := by simp; omega
      obtain rfl : false = r := by rw [← hr]; simp [h97, h65]
      clear hr
      go_enter Tryz.func33, Tryz.ntmps33
      go_wp2_with fail
      go_ret
      exact ⟨by simp, rfl⟩

theorem rdigit_any (c : Nat) (w : World) : Calls Tryz.prog 34 #[.int .u8 (c : Int)] w fun e w' => e = .returned (.bool (isD c)) ∧ w = w' := by
  obtain ⟨r, hr⟩ : ∃ r, isD c = r := ⟨_, rfl⟩
  rw [hr]
  unfold isD at hr
  by_cases h48 : 48 ≤ c
  · have d48 : decide ((48 : Int) ≤ (c : Int)) = true := by simp; omega
    by_cases h57 : c ≤ 57
    · have d57 : decide ((c : Int) ≤ (57 : Int)) = true := by simp; omega
      obtain rfl : true = r := by rw [← hr]; simp [h48, h57]
      clear hr
      go_enter Tryz.func34, Tryz.ntmps34
      go_wp2_with fail
      go_ret
      exact ⟨by simp, rfl⟩
    · have d57 : decide ((c : Int) ≤ (57 : Int)) = false := by simp; omega
      obtain rfl : false = r := by rw [← hr]; simp [h57]
      clear hr
      go_enter Tryz.func34, Tryz.ntmps34
      go_wp2_with fail
      go_ret
      exact ⟨by simp, rfl⟩
  · have d48 : decide ((48 : Int) ≤ (c : Int)) = false := by simp; omega
    obtain rfl : false = r := by rw [← hr]; simp [h48]
    clear hr
    go_enter Tryz.func34, Tryz.ntmps34
    go_wp2_with fail
    go_ret
    exact ⟨by simp, rfl⟩

theorem bt_some {s : List UInt8} {i : Nat} {a : UInt8} (h : s[i]? = some a) : bt s i = a.toNat := by unfold bt; rw [List.getD_eq_getElem?_getD, h]; rfl

set_option maxRecDepth 100000 in
set_option maxHeartbeats 4000000 in
theorem rname_any (s : List UInt8) (w : World) (hs : s.length ≤ 1000000000) (h0 : 0 < s.length) :
    Calls Tryz.prog 24 #[tx s] w fun e w' => ∃ k : Nat, e = .returned (.int .i64 (k : Int)) ∧ (k = s.length ↔ (isL (bt s 0) = true ∧ ∀ i, i < s.length → inN s i = true)) ∧ w = w' := by
  have hsz : (ByteArray.mk s.toArray).size = s.length := by simp [ByteArray.size]
  have e0 : ((s.length : Int) == 0) = false := beq_eq_false_iff_ne.2 (by omega)
  obtain ⟨c0, hc0⟩ : ∃ c0, bt s 0 = c0 := ⟨_, rfl⟩
  have ix0 : ∀ w, (Instr.index 9 (.string ⟨s.toArray⟩) (.int .i64 0)).run Tryz.prog w = .ok (.int .u8 (c0 : Int)) w := fun w => by
    have h := str_at (List.getElem?_eq_getElem h0) w
    rw [← bt_some (List.getElem?_eq_getElem h0), hc0] at h
    exact h
  have hL0 := fun w => rletter_any c0 w
  unfold tx
  cases hl : isL c0
  · rw [hl] at hL0
    have HR : Hid ((0 : Nat) = s.length ↔ (isL (bt s 0) = true ∧ ∀ i, i < s.length → inN s i = true)) := ⟨fun e => by omega, fun e => by rw [hc0, hl] at e; exact absurd e.1 (by decide)⟩
    clear hl hc0
    go_enter Tryz.func24, Tryz.ntmps24
    go_wp2_with (go_at_call 33; refine (hL0 _).mono ?_; rintro e w' ⟨rfl, rfl⟩)
    go_ret
    exact ⟨0, rfl, HR.out, rfl⟩
  · rw [hl] at hL0
    have HL : Hid (isL (bt s 0) = true) := by rw [hc0]; exact hl
    have hin0 : inN s 0 = true := by unfold inN; rw [HL.out]; rfl
    have HST : Hid (∀ j, j < 1 → inN s j = true) := fun j hj => by
      have hj0 : j = 0 := by omega
      subst hj0
      exact hin0
    clear hl hc0 hin0
    go_enter Tryz.func24, Tryz.ntmps24
    go_wp2_with (go_at_call 33; refine (hL0 _).mono ?_; rintro e w' ⟨rfl, rfl⟩)
    clear hL0 ix0
    go_loop [3] (fun s3 => ∃ k : Nat, 1 ≤ k ∧ k ≤ s.length ∧ s3 = .int .i64 (k : Int) ∧ Hid (∀ j, j < k → inN s j = true)) (fun s3 => s.length - (intOf s3).toNat)
    case atStart => exact ⟨1, Nat.le_refl _, h0, rfl, HST.out⟩
    case round =>
      obtain ⟨k, hk1, hkl, rfl, HA⟩ := hrel
      by_cases hlt : k < s.length
      · have hd : decide ((k : Int) < (s.length : Int)) = true := by simpa using hlt
        obtain ⟨c, hc⟩ : ∃ c, bt s k = c := ⟨_, rfl⟩
        have ix : ∀ w, (Instr.index 9 (.string ⟨s.toArray⟩) (.int .i64 (k : Int))).run Tryz.prog w = .ok (.int .u8 (c : Int)) w := fun w => by
          have h := str_at (List.getElem?_eq_getElem hlt) w
          rw [← bt_some (List.getElem?_eq_getElem hlt), hc] at h
          exact h
        have hL := fun w => rletter_any c w
        have hD := fun w => rdigit_any c w
        have hno : inN s k = false → (k = s.length ↔ (isL (bt s 0) = true ∧ ∀ i, i < s.length → inN s i = true)) := fun h => ⟨fun e => by omega, fun e => by rw [e.2 k hlt] at h; cases h⟩
        have hyes : inN s k = true → ∀ j, j < k + 1 → inN s j = true := fun h j hj => by
          by_cases e : j = k
          · subst e; exact h
          · exact HA.out j (by omega)
        by_cases hy : isL c = true ∨ isD c = true ∨ c = 95
        · have HY : Hid (∀ j, j < k + 1 → inN s j = true) := hyes (by
            unfold inN
            rw [hc]
            rcases hy with h | h | h
            · rw [h]; rfl
            · rw [h]; simp
            · simp [h])
          have hy' : isL c = true ∨ (isL c = false ∧ isD c = true) ∨ (isL c = false ∧ isD c = false ∧ ((c : Int) == 95) = true) := by
            rcases hy with h | h | h
            · exact .inl h
            · cases h1 : isL c
              · exact .inr (.inl ⟨rfl, h⟩)
              · exact .inl rfl
            · cases h1 : isL c
              · cases h2 : isD c
                · exact .inr (.inr ⟨rfl, rfl, by simp; omega⟩)
                · exact .inr (.inl ⟨rfl, rfl⟩)
              · exact .inl rfl
          clear hy hno hyes hc
          rcases hy' with h | ⟨h, h'⟩ | ⟨h, h', h''⟩
          · rw [h] at hL
            clear h
            go_wp2_with (first | (go_at_call 33; refine (hL _).mono ?_; rintro e w' ⟨rfl, rfl⟩) | (go_at_call 34; refine (hD _).mono ?_; rintro e w' ⟨rfl, rfl⟩))
            go_round
            case measure => simp [intOf]; omega
            case rel => exact ⟨k + 1, by omega, by omega, rfl, HY.out⟩
          · rw [h] at hL
            rw [h'] at hD
            clear h h'
            go_wp2_with (first | (go_at_call 33; refine (hL _).mono ?_; rintro e w' ⟨rfl, rfl⟩) | (go_at_call 34; refine (hD _).mono ?_; rintro e w' ⟨rfl, rfl⟩))
            go_round
            case measure => simp [intOf]; omega
            case rel => exact ⟨k + 1, by omega, by omega, rfl, HY.out⟩
          · rw [h] at hL
            rw [h'] at hD
            clear h h'
            go_wp2_with (first | (go_at_call 33; refine (hL _).mono ?_; rintro e w' ⟨rfl, rfl⟩) | (go_at_call 34; refine (hD _).mono ?_; rintro e w' ⟨rfl, rfl⟩))
            go_round
            case measure => simp [intOf]; omega
            case rel => exact ⟨k + 1, by omega, by omega, rfl, HY.out⟩
        · have h1 : isL c = false := by cases h : isL c; rfl; exact absurd (.inl h) hy
          have h2 : isD c = false := by cases h : isD c; rfl; exact absurd (.inr (.inl h)) hy
          have h3 : ¬ c = 95 := fun h => hy (.inr (.inr h))
          have e95 : ((c : Int) == 95) = false := beq_eq_false_iff_ne.2 (by omega)
          have hiff : inN s k = (decide (c = 46) && isL (bt s (k + 1))) := by
            unfold inN
            rw [hc, h1, h2]
            simp [h3]
          rw [h1] at hL
          rw [h2] at hD
          clear hy h1 h2 h3 hc
          by_cases h46 : c = 46
          · have e46 : ((c : Int) == 46) = true := by rw [h46]; rfl
            by_cases hk2 : k + 1 < s.length
            · have hd2 : decide ((k : Int) + 1 < (s.length : Int)) = true := by simp; omega
              obtain ⟨d, hdd⟩ : ∃ d, bt s (k + 1) = d := ⟨_, rfl⟩
              have ix2 : ∀ w, (Instr.index 9 (.string ⟨s.toArray⟩) (.int .i64 ((k : Int) + 1))).run Tryz.prog w = .ok (.int .u8 (d : Int)) w := fun w => by
                have h := str_at (List.getElem?_eq_getElem hk2) w
                rw [← bt_some (List.getElem?_eq_getElem hk2), hdd] at h
                exact h
              have hL2 := fun w => rletter_any d w
              rw [hdd] at hiff
              cases hld : isL d
              · rw [hld] at hL2
                have HR : Hid (k = s.length ↔ (isL (bt s 0) = true ∧ ∀ i, i < s.length → inN s i = true)) := hno (by rw [hiff, hld]; simp)
                clear hno hyes hiff h46 hld hdd
                go_wp2_with (first | (go_at_call 33; with_reducible refine (hL _).mono ?_; rintro e w' ⟨rfl, rfl⟩) | (go_at_call 34; refine (hD _).mono ?_; rintro e w' ⟨rfl, rfl⟩) | (go_at_call 33; with_reducible refine (hL2 _).mono ?_; rintro e w' ⟨rfl, rfl⟩))
                go_ret
                exact ⟨k, rfl, HR.out, rfl⟩
              · rw [hld] at hL2
                have HY : Hid (∀ j, j < k + 1 → inN s j = true) := hyes (by rw [hiff, hld]; simp [h46])
                clear hno hyes hiff h46 hld hdd
                go_wp2_with (first | (go_at_call 33; with_reducible refine (hL _).mono ?_; rintro e w' ⟨rfl, rfl⟩) | (go_at_call 34; refine (hD _).mono ?_; rintro e w' ⟨rfl, rfl⟩) | (go_at_call 33; with_reducible refine (hL2 _).mono ?_; rintro e w' ⟨rfl, rfl⟩))
                go_round
                case measure => simp [intOf]; omega
                case rel => exact ⟨k + 1, by omega, by omega, rfl, HY.out⟩
            · have hd2 : decide ((k : Int) + 1 < (s.length : Int)) = false := by simp; omega
              have HR : Hid (k = s.length ↔ (isL (bt s 0) = true ∧ ∀ i, i < s.length → inN s i = true)) := hno (by rw [hiff, bt_end (by omega)]; simp [isL])
              clear hno hyes hiff h46
              go_wp2_with (first | (go_at_call 33; refine (hL _).mono ?_; rintro e w' ⟨rfl, rfl⟩) | (go_at_call 34; refine (hD _).mono ?_; rintro e w' ⟨rfl, rfl⟩))
              go_ret
              exact ⟨k, rfl, HR.out, rfl⟩
          · have e46 : ((c : Int) == 46) = false := beq_eq_false_iff_ne.2 (by omega)
            have HR : Hid (k = s.length ↔ (isL (bt s 0) = true ∧ ∀ i, i < s.length → inN s i = true)) := hno (by rw [hiff]; simp [h46])
            clear hno hyes hiff h46
            go_wp2_with (first | (go_at_call 33; refine (hL _).mono ?_; rintro e w' ⟨rfl, rfl⟩) | (go_at_call 34; refine (hD _).mono ?_; rintro e w' ⟨rfl, rfl⟩))
            go_ret
            exact ⟨k, rfl, HR.out, rfl⟩
      · have hke : k = s.length := by omega
        have hd : decide ((k : Int) < (s.length : Int)) = false := by simp; omega
        have HR : Hid (k = s.length ↔ (isL (bt s 0) = true ∧ ∀ i, i < s.length → inN s i = true)) := ⟨fun _ => ⟨HL.out, fun i hi => HA.out i (by omega)⟩, fun _ => hke⟩
        clear hke
        go_wp2_with fail
        go_ret
        exact ⟨k, rfl, HR.out, rfl⟩

set_option maxRecDepth 100000 in
theorem risName_any (s : List UInt8) (w : World) (hs : s.length ≤ 1000000000) :
    Calls Tryz.prog 12 #[tx s] w fun e w' => e = .returned (.bool (nmB s)) ∧ w = w' := by
  have hsz : (ByteArray.mk s.toArray).size = s.length := by simp [ByteArray.size]
  obtain ⟨r, HR⟩ : ∃ r, Hid (nmB s = r) := ⟨_, rfl⟩
  rw [HR.out]
  by_cases h0 : 0 < s.length
  · have d0 : decide ((0 : Int) < (s.length : Int)) = true := by simp; omega
    by_cases h24 : s.length ≤ 24
    · have d24 : decide ((s.length : Int) ≤ (24 : Int)) = true := by simp; omega
      have h := rname_any s w hs h0
      have HF : Hid (∀ k : Nat, (k = s.length ↔ (isL (bt s 0) = true ∧ ∀ i, i < s.length → inN s i = true)) → ((k : Int) == (s.length : Int)) = r) := fun k hk => by
        rw [← HR.out]
        cases hb : nmB s
        · refine beq_eq_false_iff_ne.2 (fun e => ?_)
          have h1 := hk.1 (by omega)
          have : nmB s = true := by unfold nmB; rw [h1.1, okN_iff.2 ⟨h24, h1.2⟩]; rfl
          rw [hb] at this
          cases this
        · have h1 : isL (bt s 0) = true ∧ okN s = true := by unfold nmB at hb; simpa using hb
          have := hk.2 ⟨h1.1, (okN_iff.1 h1.2).2⟩
          subst this
          simp
      unfold tx at h ⊢
      go_enter Tryz.func12, Tryz.ntmps12
      go_wp2_with (go_at_call 24; refine h.mono ?_; rintro e w' ⟨k, rfl, hk, rfl⟩; have hkr := HF.out k hk)
      go_ret
      exact ⟨rfl, rfl⟩
    · have d24 : decide ((s.length : Int) ≤ (24 : Int)) = false := by simp; omega
      have hF : false = r := by
        rw [← HR.out]
        cases hb : nmB s
        · rfl
        · have h1 : isL (bt s 0) = true ∧ okN s = true := by unfold nmB at hb; simpa using hb
          exact absurd (okN_iff.1 h1.2).1 h24
      subst hF
      unfold tx
      go_enter Tryz.func12, Tryz.ntmps12
      go_wp2_with fail
      go_ret
      exact ⟨rfl, rfl⟩
  · have d0 : decide ((0 : Int) < (s.length : Int)) = false := decide_eq_false (by omega)
    have hF : false = r := by
      rw [← HR.out]
      cases hb : nmB s
      · rfl
      · exact absurd (List.length_pos_iff.2 (by
          intro e
          subst e
          exact absurd hb (by decide))) h0
    subst hF
    unfold tx
    go_enter Tryz.func12, Tryz.ntmps12
    go_wp2_with fail
    go_ret
    exact ⟨rfl, rfl⟩

set_option maxRecDepth 100000 in
theorem rhas_any (ao : Option Addr) (n cap : Nat) (ss : List (List UInt8)) (x : List UInt8) (w : World) (hR : SR w ao n cap ss) (hn : n ≤ 1000000000) :
    Calls Tryz.prog 14 #[.slice ao n cap, tx x] w fun e w' => e = .returned (.bool (decide (x ∈ ss))) ∧ w = w' := by
  have HN : Hid (ss.length = n) := hR.len
  obtain ⟨r, HR⟩ : ∃ r, Hid (decide (x ∈ ss) = r) := ⟨_, rfl⟩
  rw [HR.out]
  have HRR : Hid (SR w ao n cap ss) := hR
  clear hR
  unfold tx
  go_enter Tryz.func14, Tryz.ntmps14
  go_wp2_with fail
  go_loop [5] (fun s5 => ∃ k : Nat, k ≤ n ∧ s5 = .int .i64 (k : Int) ∧ Hid (∀ j s, j < k → ss[j]? = some s → s ≠ x)) (fun s5 => n - (intOf s5).toNat)
  case atStart => exact ⟨0, Nat.zero_le _, rfl, fun j s hj => absurd hj (Nat.not_lt_zero _)⟩
  case round =>
    obtain ⟨k, hk, rfl, HA⟩ := hrel
    by_cases hlt : k < n
    · have hd : decide ((k : Int) < (n : Int)) = true := by simpa using hlt
      obtain ⟨s, hs⟩ : ∃ s, ss[k]? = some s := ⟨_, List.getElem?_eq_getElem (by rw [HN.out]; exact hlt)⟩
      obtain ⟨b, off, rfl, hbl, hcell⟩ := HRR.out.cells k s hs
      unfold tx at hcell
      by_cases hsx : s = x
      · have hq : (s == x) = true := by rw [hsx]; simp
        have HF : Hid (true = r) := by
          rw [← HR.out]
          exact (decide_eq_true (by rw [← hsx]; exact List.mem_of_getElem? hs)).symm
        clear hs hsx
        go_wp2_with fail
        go_ret
        exact ⟨ret_bool HF.out, rfl⟩
      · have hq : (s == x) = false := beq_eq_false_iff_ne.2 hsx
        have HA' : Hid (∀ j t, j < k + 1 → ss[j]? = some t → t ≠ x) := fun j t hj ht => by
          by_cases e : j = k
          · subst e; rw [hs] at ht; cases ht; exact hsx
          · exact HA.out j t (by omega) ht
        clear hs hsx
        go_wp2_with fail
        go_round
        case measure => simp [intOf]; omega
        case rel => exact ⟨k + 1, by omega, rfl, HA'.out⟩
    · have hd : decide ((k : Int) < (n : Int)) = false := by simp; omega
      have HF : Hid (false = r) := by
        rw [← HR.out]
        refine (decide_eq_false (fun h => ?_)).symm
        obtain ⟨j, hj⟩ := List.getElem?_of_mem h
        have := (List.getElem?_eq_some_iff.1 hj).1
        rw [HN.out] at this
        exact HA.out j x (by omega) hj rfl
      go_wp2_with fail
      go_ret
      exact ⟨ret_bool HF.out, rfl⟩
end Go.Proofs.YtahfaeamjbcepaaGreatDoor
