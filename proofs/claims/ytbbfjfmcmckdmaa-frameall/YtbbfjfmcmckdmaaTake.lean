/- The walk of octet.TakeVar. No condition but that the bytes can be read. -/
import Derived.Test.YtbbfjfmcmckdmaaProg
import Derived.Test.YtbbfjfmcmckdmaaKit
import Derived.WalkKit
import Derived.WalkSpells
import Derived.WalkLawsBesides
import Derived.Lib.VarintBits
namespace Go.Proofs.Ytbbfjfmcmckdmaa
open Go.RowKit

/-- What TakeVar tells: the number, how many bytes it has, the error's number; i bytes are read, what they say is acc. -/
def tv (i acc : Nat) : List UInt8 → Nat × Nat × Nat
  | [] => (0, 0, 2)
  | c :: r => if i = 9 ∧ 1 < c.toNat then (0, 0, 4)
    else if 128 ≤ c.toNat then tv (i + 1) (acc + c.toNat % 128 * 2 ^ (7 * i)) r
    else if c.toNat = 0 ∧ 0 < i then (0, 0, 5) else (acc + c.toNat * 2 ^ (7 * i), i + 1, 0)

theorem or_step (k acc c : Nat) (hk : k ≤ 9) (hc : c < 256) (hacc : acc < 2 ^ (7 * k)) (h9 : k = 9 → c ≤ 1) :
    bits .or .u64 (acc : Int) (IntKind.u64.wrap (IntKind.u64.wrap (bits .and .u8 (c : Int) 127) * 2 ^ (7 * k))) = ((acc + c % 128 * 2 ^ (7 * k) : Nat) : Int) := by
  have h1 : bits .and .u8 (c : Int) 127 = ((c % 128 : Nat) : Int) := by rw [u8_and127 _ (by omega) (by omega)]; omega
  have h2 : IntKind.u64.wrap ((c % 128 : Nat) : Int) = ((c % 128 : Nat) : Int) := wraps_u64 _ (by omega) (by omega)
  have h3 : (((c % 128 : Nat) : Int)) * 2 ^ (7 * k) = ((c % 128 * 2 ^ (7 * k) : Nat) : Int) := by simp
  have hp : 2 ^ (7 * k) ≤ 2 ^ 63 := Nat.pow_le_pow_right (by decide) (by omega)
  have h4 : c % 128 * 2 ^ (7 * k) < 2 ^ 64 := by
    by_cases h : k = 9
    · have := Nat.mul_le_mul (show c % 128 ≤ 1 by have := h9 h; omega) hp
      omega
    · have hp' : 2 ^ (7 * k) ≤ 2 ^ 56 := Nat.pow_le_pow_right (by decide) (by omega)
      have := Nat.mul_le_mul (show c % 128 ≤ 127 by omega) hp'
      omega
  have h5 : IntKind.u64.wrap ((c % 128 * 2 ^ (7 * k) : Nat) : Int) = ((c % 128 * 2 ^ (7 * k) : Nat) : Int) := wraps_u64 _ (by omega) (by exact_mod_cast h4)
  rw [h1, h2, h3, h5]
  have h6 := bits_join_low .u64 64 (by decide) wraps_u64 (7 * k) (acc : Int) ((c % 128 * 2 ^ (7 * k) : Nat) : Int) (by omega) (by exact_mod_cast hacc) (by exact_mod_cast Nat.lt_of_lt_of_le hacc (Nat.le_trans hp (by decide)))
    (by omega) (by exact_mod_cast Nat.mul_mod_left _ _) (by exact_mod_cast h4)
  rw [h6]
  simp

theorem acc_step (k acc c : Nat) (hacc : acc < 2 ^ (7 * k)) : acc + c % 128 * 2 ^ (7 * k) < 2 ^ (7 * (k + 1)) := by
  have h1 : 2 ^ (7 * (k + 1)) = 128 * 2 ^ (7 * k) := by rw [Nat.mul_add, Nat.pow_add, Nat.mul_comm]
  have h2 := Nat.mul_le_mul_right (2 ^ (7 * k)) (show c % 128 ≤ 127 by omega)
  omega

theorem Rd.at {w : World} {ao : Option Addr} {n cap : Nat} {bs : List UInt8} (h : Rd w ao n cap bs) {k : Nat} (hk : k < n) :
    ∃ b off, ao = some ⟨b, off, none⟩ ∧ ∃ hk' : k < bs.length, w.cell? ⟨b, off + k, none⟩ = some (.int .u8 (bs[k].toNat : Int)) := by
  have hl := h.len
  cases ao with
  | none => have := h.nil rfl; have := h.le; omega
  | some a =>
    have h0 := h.cells a rfl 0 (bs[0]'(by omega)) (List.getElem?_eq_getElem _)
    have h1 := h.cells a rfl k (bs[k]'(by omega)) (List.getElem?_eq_getElem _)
    have h2 := World.cell?_spot h0
    obtain ⟨b, off, spot⟩ := a
    have h3 : spot = none := by simpa [Addr.add] using h2
    subst h3
    rw [Addr.add_lit] at h1
    exact ⟨b, off, rfl, by omega, h1⟩

set_option maxRecDepth 100000 in
set_option maxHeartbeats 400000 in
theorem takeVar_any (ao : Option Addr) (n cap : Nat) (bs : List UInt8) (w : World) (h : Rd w ao n cap bs) :
    Calls Try.prog 31 #[.slice ao n cap] w fun e w' => e = .returned (.tuple #[.int .u64 ((tv 0 0 bs).1 : Int), .int .i64 ((tv 0 0 bs).2.1 : Int), .int .i64 ((tv 0 0 bs).2.2 : Int)]) ∧ w = w' := by
  have hmax := h.max
  have hle := h.le
  have hlen := h.len
  unfold maxLen at hmax
  have HL : Hid (bs.length = n) := hlen
  clear hlen
  go_enter Try.func31, Try.ntmps31
  go_wp2_with fail
  go_loop [2, 9] (fun v i => ∃ (k acc : Nat), k ≤ n ∧ k ≤ 9 ∧ i = .int .i64 (k : Int) ∧ v = .int .u64 (acc : Int) ∧ acc < 2 ^ (7 * k) ∧ tv k acc (bs.drop k) = tv 0 0 bs)
    (fun _ i => n - (intOf i).toNat)
  case atStart => exact ⟨0, 0, Nat.zero_le _, Nat.zero_le _, rfl, rfl, by decide, rfl⟩
  case round =>
    obtain ⟨k, acc, hk, hk9, rfl, rfl, hacc, htv⟩ := hrel
    by_cases hlt : k < n
    · obtain ⟨b, off, rfl, hkl, hc⟩ := h.at hlt
      have hdr : bs.drop k = bs[k] :: bs.drop (k + 1) := List.drop_eq_getElem_cons hkl
      rw [hdr, tv] at htv
      generalize bs[k] = c at hc htv
      have hc256 : c.toNat < 256 := c.toNat_lt
      generalize c.toNat = c at hc htv hc256
      clear hdr hkl
      by_cases h1 : k = 9 ∧ 1 < c
      · rw [if_pos h1] at htv
        have HF : Hid ((0, 0, 4) = tv 0 0 bs) := htv
        clear htv
        obtain ⟨rfl, h1⟩ := h1
        go_wp2
        go_ret3
        exact ⟨by rw [← HF.out]; rfl, rfl⟩
      · rw [if_neg h1] at htv
        have hor := or_step k acc c hk9 hc256 hacc (by omega)
        have hac := acc_step k acc c hacc
        have HO : Hid _ := hor
        have HC : Hid _ := hac
        clear hor hac
        by_cases h2 : 128 ≤ c
        · rw [if_pos h2] at htv
          have HF : Hid _ := htv
          clear htv
          have hk8 : k < 9 := by omega
          clear h1
          go_wp2
          go_round
          case rel => exact ⟨k + 1, _, by omega, by omega, by go_num, by rw [HO.out], HC.out, HF.out⟩
          case measure => simp [intOf]; omega
        · rw [if_neg h2] at htv
          have hm : c % 128 = c := by omega
          by_cases h3 : c = 0 ∧ 0 < k
          · rw [if_pos h3] at htv
            have HF : Hid _ := htv
            obtain ⟨rfl, h4⟩ := h3
            clear htv hm h1 h2 hc256
            by_cases h6 : k = 9
            all_goals
              try subst h6
              go_wp2
              go_ret3
              exact ⟨by rw [← HF.out]; rfl, rfl⟩
          · rw [if_neg h3] at htv
            have HF : Hid _ := htv
            have HM : Hid _ := hm
            clear htv hm
            by_cases h6 : k = 9
            · subst h6
              have h7 : ¬ c = 0 := by omega
              clear h3
              go_wp2
              go_ret3
              refine ⟨?_, rfl⟩
              have e1 := HO.out
              rw [HM.out] at e1
              rw [← HF.out]
              simp at e1 ⊢
              exact e1
            · by_cases h7 : c = 0
              · subst h7
                obtain rfl : k = 0 := by omega
                have hc0 : w.cell? ⟨b, off, none⟩ = some (.int .u8 0) := by simpa using hc
                have h8 : (0 : Int) < (n : Int) := by omega
                clear hc h1 h2 h3 h6 hc256 hk hk9
                go_wp2
                go_ret3
                refine ⟨?_, rfl⟩
                have e1 := HO.out
                rw [← HF.out]
                simp at e1 ⊢
                exact e1
              · clear h3
                go_wp2
                go_ret3
                refine ⟨?_, rfl⟩
                have e1 := HO.out
                rw [HM.out] at e1
                rw [← HF.out]
                simp at e1 ⊢
                exact e1
    · have hd : bs.drop k = [] := List.drop_eq_nil_of_le (by rw [HL.out]; omega)
      rw [hd, tv] at htv
      have HF : Hid _ := htv
      clear htv hd
      go_wp2
      go_ret3
      exact ⟨by rw [← HF.out]; rfl, rfl⟩
end Go.Proofs.Ytbbfjfmcmckdmaa
