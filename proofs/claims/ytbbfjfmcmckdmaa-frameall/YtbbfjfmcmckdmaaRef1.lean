/- The walks of the document's own answer to TakeVar and TakeText. No condition but that what is given can be read and is no longer than 2^40. -/
import Derived.Test.YtbbfjfmcmckdmaaText
namespace Go.Proofs.Ytbbfjfmcmckdmaa
open Go.RowKit

theorem own_empty (B : Nat) (w : World) (hB : B ≤ w.heap.size) : Own 5 B (w.alloc (.cells #[] 5)) w.heap.size 0 0 [] :=
  ⟨rfl, Nat.le_refl _, Nat.zero_le _, hB, _, heap_alloc_new w _, rfl, rfl⟩

set_option maxRecDepth 100000 in
set_option maxHeartbeats 400000 in
theorem rtakeVar_any (ao : Option Addr) (n cap : Nat) (bs : List UInt8) (w : World) (h : Rd w ao n cap bs) :
    Calls Try.prog 32 #[.slice ao n cap] w fun e w' => e = .returned (.tuple #[.int .u64 ((tv 0 0 bs).1 : Int), .int .i64 ((tv 0 0 bs).2.1 : Int), .int .i64 ((tv 0 0 bs).2.2 : Int)]) ∧ w = w' := by
  have hmax := h.max
  have hle := h.le
  have hlen := h.len
  unfold maxLen at hmax
  have HL : Hid (bs.length = n) := hlen
  clear hlen
  go_enter Try.func32, Try.ntmps32
  go_wp2_with fail
  go_loop [5, 6, 7] (fun v un i => ∃ (k acc u : Nat), k ≤ n ∧ k ≤ 9 ∧ i = .int .i64 (k : Int) ∧ v = .int .u64 (acc : Int) ∧ un = .int .u64 (u : Int) ∧ Hid (u = 2 ^ (7 * k)) ∧ acc < u ∧ u ≤ 9223372036854775808 ∧ tv k acc (bs.drop k) = tv 0 0 bs)
    (fun _ _ i => n - (intOf i).toNat)
  case atStart => exact ⟨0, 0, 1, Nat.zero_le _, Nat.zero_le _, rfl, rfl, rfl, rfl, by decide, by decide, rfl⟩
  case round =>
    obtain ⟨k, acc, u, hk, hk9, rfl, rfl, rfl, HU, hacc, hu63, htv⟩ := hrel
    have hk10 : (k : Int) < 10 := by omega
    by_cases hlt : k < n
    · obtain ⟨b, off, rfl, hkl, hc⟩ := h.at hlt
      have hdr : bs.drop k = bs[k] :: bs.drop (k + 1) := List.drop_eq_getElem_cons hkl
      rw [hdr, tv] at htv
      generalize bs[k] = c at hc htv
      have hc256 : c.toNat < 256 := c.toNat_lt
      generalize c.toNat = c at hc htv hc256
      clear hdr hkl
      by_cases h1 : k = 9 ∧ 1 < c
      · rw [if_pos h1] at htv
        have HF : Hid ((0, 0, 4) = tv 0 0 bs) := htv
        clear htv
        obtain ⟨rfl, h1⟩ := h1
        go_wp2
        go_ret3
        exact ⟨by rw [← HF.out]; rfl, rfl⟩
      · rw [if_neg h1] at htv
        rw [← HU.out] at htv
        obtain ⟨pr, hpr⟩ : ∃ pr, pr = c % 128 * u := ⟨_, rfl⟩
        have hpr2 : acc + pr < 18446744073709551616 := by
          have hp := HU.out
          by_cases h : k = 9
          · subst h
            have hc1 : c % 128 ≤ 1 := by omega
            have := Nat.mul_le_mul hc1 (Nat.le_refl u)
            omega
          · have hp' : 2 ^ (7 * k) ≤ 2 ^ 56 := Nat.pow_le_pow_right (by decide) (by omega)
            have := Nat.mul_le_mul (show c % 128 ≤ 127 by omega) (Nat.le_refl u)
            omega
        have hmul : IntKind.u64.wrap ((c : Int) % 128 * (u : Int)) = (pr : Int) := by
          have e1 : (c : Int) % 128 * (u : Int) = (pr : Int) := by rw [hpr]; simp
          rw [e1]
          exact wraps_u64 _ (by omega) (by omega)
        have HP : Hid (pr = c % 128 * u) := hpr
        clear hpr
        by_cases h2 : 128 ≤ c
        · rw [if_pos h2, ← HP.out] at htv
          have HF : Hid _ := htv
          have HA : Hid (acc + pr < 2 ^ (7 * (k + 1))) := by
            have := acc_step k acc c (by rw [← HU.out]; exact hacc)
            rw [← HU.out, ← HP.out] at this
            exact this
          have hk8 : k < 9 := by omega
          have HU2 : Hid (u * 128 = 2 ^ (7 * (k + 1))) := by unfold Hid; rw [HU.out, Nat.mul_add, Nat.pow_add]
          have hu56 : u ≤ 72057594037927936 := by
            have hp' : 2 ^ (7 * k) ≤ 2 ^ 56 := Nat.pow_le_pow_right (by decide) (by omega)
            rw [← HU.out] at hp'
            omega
          clear h1 htv
          go_wp2
          go_round
          case rel => exact ⟨k + 1, acc + pr, u * 128, by omega, by omega, by go_num, by go_num, by go_num, HU2, by have a := HA.out; have b := HU2.out; omega, by omega, HF.out⟩
          case measure => simp [intOf]; omega
        · rw [if_neg h2] at htv
          by_cases h3 : c = 0 ∧ 0 < k
          · rw [if_pos h3] at htv
            have HF : Hid _ := htv
            obtain ⟨rfl, h4⟩ := h3
            clear htv h1 h2 hc256
            by_cases h6 : k = 9
            all_goals
              try subst h6
              go_wp2
              go_ret3
              exact ⟨by rw [← HF.out]; rfl, rfl⟩
          · rw [if_neg h3, show c * u = pr by rw [HP.out]; congr 1; omega] at htv
            have HF : Hid _ := htv
            clear htv
            by_cases h6 : k = 9
            · subst h6
              have h7 : ¬ c = 0 := by omega
              clear h3
              go_wp2
              go_ret3
              exact ⟨by rw [← HF.out]; simp, rfl⟩
            · by_cases h7 : c = 0
              · subst h7
                obtain rfl : k = 0 := by omega
                have hc0 : w.cell? ⟨b, off, none⟩ = some (.int .u8 0) := by simpa using hc
                have h8 : (0 : Int) < (n : Int) := by omega
                have h9 : ¬ (n : Int) ≤ 0 := by omega
                have hp0 : pr = 0 := by rw [HP.out]; simp
                subst hp0
                clear hc h1 h2 h3 h6 hc256 hk hk9 hmul
                go_wp2
                go_ret3
                exact ⟨by rw [← HF.out]; simp, rfl⟩
              · clear h3
                go_wp2
                go_ret3
                exact ⟨by rw [← HF.out]; simp, rfl⟩
    · have hd : bs.drop k = [] := List.drop_eq_nil_of_le (by rw [HL.out]; omega)
      rw [hd, tv] at htv
      have HF : Hid _ := htv
      clear htv hd
      go_wp2
      go_ret3
      exact ⟨by rw [← HF.out]; rfl, rfl⟩

theorem rtakeVar_at {ao : Option Addr} {n cap : Nat} {bs : List UInt8} {w : World} (h : Rd w ao n cap bs) {v hd er : Nat} (hr : tv 0 0 bs = (v, hd, er)) :
    Calls Try.prog 32 #[.slice ao n cap] w fun e w' => e = .returned (.tuple #[.int .u64 (v : Int), .int .i64 (hd : Int), .int .i64 (er : Int)]) ∧ w = w' := by
  have := rtakeVar_any ao n cap bs w h
  rw [hr] at this
  exact this

theorem tv_ok_pos (l : List UInt8) (i acc : Nat) (h : (tv i acc l).2.2 = 0) : l ≠ [] := by
  rintro rfl
  simp [tv] at h

set_option maxRecDepth 100000 in
set_option maxHeartbeats 400000 in
theorem rtakeText_any (ao : Option Addr) (n cap : Nat) (bs : List UInt8) (most : Int) (w : World) (h : Rd w ao n cap bs) (hn : n ≤ 1099511627776) (hm0 : -9223372036854775808 ≤ most) (hm1 : most ≤ 9223372036854775807) :
    Calls Try.prog 29 #[.slice ao n cap, .int .i64 most] w fun e w' => ∃ ao' cap', e = .returned (.tuple #[.slice ao' (tt bs most).1.length cap', .int .i64 ((tt bs most).2.1 : Int), .int .i64 ((tt bs most).2.2 : Int)]) ∧
      Res 5 w.heap.size w' ao' (tt bs most).1.length cap' (tt bs most).1 ∧ Below w.heap.size w w' := by
  obtain ⟨i5, hi, hz0, hz1, hz2⟩ := info_parts Try.info5t
  have hle := h.le
  have hmax := h.max
  have hlen := h.len
  have hbd := tv_bounds bs 0 0 (by omega) (by decide)
  have hne := tv_ok_pos bs 0 0
  obtain ⟨v, hd, er, hr⟩ : ∃ v hd er, tv 0 0 bs = (v, hd, er) := ⟨_, _, _, rfl⟩
  have htt : tt bs most = if er ≠ 0 then ([], 0, er) else if most.toNat < v then ([], 0, 3) else if bs.length - hd < v then ([], 0, 2) else ((bs.drop hd).take v, hd + v, 0) := by unfold tt; rw [hr]
  generalize tt bs most = T at *
  rw [hr] at hbd hne
  simp only at hbd hne
  obtain ⟨hv, hhd, her⟩ := hbd
  have HR : Hid (tv 0 0 bs = (v, hd, er)) := hr
  have HL : Hid (bs.length = n) := hlen
  rw [hlen] at hhd htt
  unfold maxLen at hmax
  by_cases c1 : er = 0
  · subst c1
    have hn0 : 0 < n := by
      have := hne rfl
      rw [← hlen]
      exact List.length_pos_iff.2 this
    clear hr hlen hne
    rw [if_neg (by simp)] at htt
    obtain ⟨M, hM0, hM, hMx⟩ : ∃ M : Nat, M ≤ 9223372036854775807 ∧ most.toNat = M ∧ ((0 ≤ most ∧ most = (M : Int)) ∨ (most < 0 ∧ M = 0)) := ⟨most.toNat, by omega, rfl, by omega⟩
    rw [hM] at htt
    clear hM
    by_cases c2 : M < v
    · rw [if_pos c2] at htt
      subst htt
      rcases hMx with ⟨_, rfl⟩ | ⟨hneg, rfl⟩
      all_goals
        go_enter Try.func29, Try.ntmps29
        go_wp2_with fail
        refine (rtakeVar_at h HR.out).mono ?_
        rintro e w1 ⟨rfl, rfl⟩
        go_wp2
        go_ret3
        exact ⟨none, 0, rfl, res_nil _ _, Below.refl _ _⟩
    · rw [if_neg c2] at htt
      by_cases c3 : n - hd < v
      · rw [if_pos c3] at htt
        subst htt
        rcases hMx with ⟨_, rfl⟩ | ⟨hneg, rfl⟩
        · go_enter Try.func29, Try.ntmps29
          go_wp2_with fail
          refine (rtakeVar_at h HR.out).mono ?_
          rintro e w1 ⟨rfl, rfl⟩
          go_wp2
          go_ret3
          exact ⟨none, 0, rfl, res_nil _ _, Below.refl _ _⟩
        · omega
      · rw [if_neg c3] at htt
        obtain ⟨b, off, rfl, hk0, hck⟩ := h.at hn0
        have htl : T.1.length = v := by rw [htt]; simp [HL.out]; omega
        have HT : Hid (T = ((bs.drop hd).take v, hd + v, 0)) := htt
        have HTL : Hid (T.1.length = v) := htl
        clear htt htl hck hk0
        have o0 := own_empty w.heap.size w (Nat.le_refl _)
        have b0 : Below w.heap.size w (w.alloc (.cells #[] 5)) := (Below.refl _ _).alloc (Nat.le_refl _) _
        by_cases c4 : cap = hd
        · obtain rfl : v = 0 := by omega
          subst c4
          have hsr := Rd.none' (w.alloc (.cells #[] 5)) (some (⟨b, off, none⟩ : Addr))
          rcases hMx with ⟨_, rfl⟩ | ⟨hneg, rfl⟩
          all_goals
            go_enter Try.func29, Try.ntmps29
            go_wp2_with fail
            refine (rtakeVar_at h HR.out).mono ?_
            rintro e w1 ⟨rfl, rfl⟩
            go_wp2_with (at_builtin; refine wpList_append_bytes (P := Try.prog) _ (by rfl) _ _ 28 28 (by rfl) 5 i5 Try.underlying28 hi hz0 hz1 hz2 w.heap.size (by simp) (by rfl) o0.app [] (by rfl) (hsr.src _ Try.underlying28) (.inr ⟨_, rfl, o0⟩) (by omega) ?_; intro g1 cap1 w1 ho1 hb1 hg1 hw1)
            go_ret3
            rw [HTL.out]
            refine ⟨some ⟨g1, 0, none⟩, cap1, by rw [HT.out]; simp, ?_, b0.trans hb1⟩
            rw [HT.out]
            simpa using ho1.res
        · have hcut := (h.cut w hd (hd + v - hd) (cap - hd) (by omega) (by omega) (by unfold maxLen; omega)).alloc (.cells #[] 5)
          rcases hMx with ⟨_, rfl⟩ | ⟨hneg, rfl⟩
          all_goals
            go_enter Try.func29, Try.ntmps29
            go_wp2_with fail
            refine (rtakeVar_at h HR.out).mono ?_
            rintro e w1 ⟨rfl, rfl⟩
            go_wp2_with (at_builtin; refine wpList_append_bytes (P := Try.prog) _ (by rfl) _ _ 28 28 (by rfl) 5 i5 Try.underlying28 hi hz0 hz1 hz2 w.heap.size (by simp) (by rfl) o0.app ((bs.drop hd).take (hd + v - hd)) (by rfl) (hcut.src _ Try.underlying28) (.inr ⟨_, rfl, o0⟩) (by omega) ?_; intro g1 cap1 w1 ho1 hb1 hg1 hw1)
            go_ret3
            rw [HTL.out]
            refine ⟨some ⟨g1, 0, none⟩, cap1, by rw [HT.out]; simp, ?_, b0.trans hb1⟩
            rw [HT.out]
            simpa using ho1.res
  · rw [if_pos c1] at htt
    subst htt
    go_enter Try.func29, Try.ntmps29
    go_wp2_with fail
    refine (rtakeVar_at h HR.out).mono ?_
    rintro e w1 ⟨rfl, rfl⟩
    go_wp2
    go_ret3
    exact ⟨none, 0, rfl, res_nil _ _, Below.refl _ _⟩
end Go.Proofs.Ytbbfjfmcmckdmaa
