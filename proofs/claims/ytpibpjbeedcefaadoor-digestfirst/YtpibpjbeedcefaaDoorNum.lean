/- Small laws on words: turning, and what the program's bitwise operations are on numbers below 2^32. No program. -/
import Derived.Test.YtpibpjbeedcefaaDoorSha
namespace Go.Proofs.YtpibpjbeedcefaaDoor
open Go.RowKit

theorem shl_mod (n x : Nat) (hn : n ≤ 32) : x * 2 ^ (32 - n) % 4294967296 = x % 2 ^ n * 2 ^ (32 - n) := by
  have : (4294967296 : Nat) = 2 ^ n * 2 ^ (32 - n) := by rw [← Nat.pow_add, show n + (32 - n) = 32 by omega]
  rw [this, Nat.mul_mod_mul_right]

theorem hi_lt (n x : Nat) (hn : n ≤ 32) (hx : x < 4294967296) : x / 2 ^ n < 2 ^ (32 - n) := by
  refine Nat.div_lt_of_lt_mul ?_
  rw [← Nat.pow_add, show n + (32 - n) = 32 by omega]
  exact hx

theorem rot_lt (n x : Nat) (hn : n ≤ 32) (hx : x < 4294967296) : rot n x < 4294967296 := by
  have h1 := hi_lt n x hn hx
  have h2 : x % 2 ^ n < 2 ^ n := Nat.mod_lt _ (Nat.two_pow_pos n)
  have h3 : (x % 2 ^ n + 1) * 2 ^ (32 - n) ≤ 2 ^ n * 2 ^ (32 - n) := Nat.mul_le_mul_right _ h2
  rw [← Nat.pow_add, show n + (32 - n) = 32 by omega, Nat.add_mul] at h3
  unfold rot
  omega

theorem rot_zero (x : Nat) : rot 0 x = x := by
  unfold rot
  simp [Nat.mod_one]

theorem rot_succ (k x : Nat) (hk : k < 32) : rot (k + 1) x = rot k x / 2 + rot k x % 2 * 2147483648 := by
  unfold rot
  have e1 : 2 ^ (32 - k) = 2 * 2 ^ (31 - k) := by rw [show 32 - k = (31 - k) + 1 by omega, Nat.pow_succ, Nat.mul_comm]
  have e2 : 32 - (k + 1) = 31 - k := by omega
  have e3 : 2 ^ k * 2 ^ (31 - k) = 2147483648 := by rw [← Nat.pow_add, show k + (31 - k) = 31 by omega]
  rw [Nat.mod_pow_succ, e1, e2, Nat.pow_succ, ← Nat.div_div_eq_div_mul]
  generalize x / 2 ^ k = q
  generalize x % 2 ^ k = r
  have h1 : (q + r * (2 * 2 ^ (31 - k))) / 2 = q / 2 + r * 2 ^ (31 - k) := by
    rw [show r * (2 * 2 ^ (31 - k)) = 2 * (r * 2 ^ (31 - k)) by rw [Nat.mul_left_comm]]
    omega
  have h2 : (q + r * (2 * 2 ^ (31 - k))) % 2 = q % 2 := by
    rw [show r * (2 * 2 ^ (31 - k)) = 2 * (r * 2 ^ (31 - k)) by rw [Nat.mul_left_comm]]
    omega
  rw [h1, h2, Nat.add_mul, Nat.mul_right_comm, e3]
  omega

theorem rot_bits (n x : Nat) (hn : 0 < n) (hn2 : n < 32) (hx : x < 4294967296) : bits .or .u32 ((x : Int) / 2 ^ n) ((x : Int) * 2 ^ (32 - n) % 4294967296) = ((rot n x : Nat) : Int) := by
  have h1 := hi_lt n x (by omega) hx
  have h2 : x % 2 ^ n < 2 ^ n := Nat.mod_lt _ (Nat.two_pow_pos n)
  have h3 : (x % 2 ^ n + 1) * 2 ^ (32 - n) ≤ 2 ^ n * 2 ^ (32 - n) := Nat.mul_le_mul_right _ h2
  rw [← Nat.pow_add, show n + (32 - n) = 32 by omega, Nat.add_mul] at h3
  have e1 : (x : Int) / 2 ^ n = ((x / 2 ^ n : Nat) : Int) := by simp
  have e2 : (x : Int) * 2 ^ (32 - n) % 4294967296 = ((x % 2 ^ n * 2 ^ (32 - n) : Nat) : Int) := by
    rw [← shl_mod n x (by omega)]
    simp
  have hd : (x % 2 ^ n * 2 ^ (32 - n)) % 2 ^ (32 - n) = 0 := Nat.mul_mod_left _ _
  have hp : 2 ^ (32 - n) ≤ 2 ^ 32 := Nat.pow_le_pow_right (by decide) (by omega)
  rw [e1, e2]
  unfold rot
  generalize x / 2 ^ n = q at h1 ⊢
  generalize x % 2 ^ n * 2 ^ (32 - n) = m at h3 hd ⊢
  have hm : m < 2 ^ 32 := by
    have := Nat.two_pow_pos (32 - n)
    omega
  have hq : q < 2 ^ 32 := Nat.lt_of_lt_of_le h1 hp
  rw [bits_join_low .u32 32 (by decide) wraps_u32 (32 - n) (q : Int) (m : Int) (by omega) (by exact_mod_cast h1) (by exact_mod_cast hq) (by omega) (by exact_mod_cast hd) (by exact_mod_cast hm)]
  simp

theorem bxor32 (a b : Nat) (ha : a < 4294967296) (hb : b < 4294967296) : bits .xor .u32 (a : Int) (b : Int) = ((a ^^^ b : Nat) : Int) := by
  have hc : a ^^^ b < 2 ^ 32 := Nat.xor_lt_two_pow ha hb
  have ha' : a % 2 ^ IntKind.u32.bits = a := Nat.mod_eq_of_lt ha
  have hb' : b % 2 ^ IntKind.u32.bits = b := Nat.mod_eq_of_lt hb
  simp only [bits, BitVec.ofInt_natCast, BitVec.toNat_xor, BitVec.toNat_ofNat, ha', hb']
  exact wraps_u32 _ (by omega) (by exact_mod_cast hc)
theorem band32 (a b : Nat) (ha : a < 4294967296) (hb : b < 4294967296) : bits .and .u32 (a : Int) (b : Int) = ((a &&& b : Nat) : Int) := (bits_nat .u32 32 (by decide) wraps_u32 a b ha hb).1
theorem bxor64 (a b : Nat) (ha : a < 4294967296) (hb : b < 4294967296) : bits .xor .u64 (a : Int) (b : Int) = ((a ^^^ b : Nat) : Int) := bits_xor_u64_nat a b (by omega) (by omega)
theorem band64 (a b : Nat) (ha : a < 4294967296) (hb : b < 4294967296) : bits .and .u64 (a : Int) (b : Int) = ((a &&& b : Nat) : Int) := bits_and_u64_nat a b (by omega) (by omega)
theorem xlt {a b : Nat} (ha : a < 4294967296) (hb : b < 4294967296) : a ^^^ b < 4294967296 := Nat.xor_lt_two_pow (n := 32) ha hb
theorem alt {a b : Nat} (ha : a < 4294967296) : a &&& b < 4294967296 := Nat.lt_of_le_of_lt Nat.and_le_left ha

theorem lo0_lt {x : Nat} (hx : x < 4294967296) : lo0 x < 4294967296 := xlt (xlt (rot_lt 7 x (by decide) hx) (rot_lt 18 x (by decide) hx)) (by omega)
theorem lo1_lt {x : Nat} (hx : x < 4294967296) : lo1 x < 4294967296 := xlt (xlt (rot_lt 17 x (by decide) hx) (rot_lt 19 x (by decide) hx)) (by omega)
theorem up0_lt {x : Nat} (hx : x < 4294967296) : up0 x < 4294967296 := xlt (xlt (rot_lt 2 x (by decide) hx) (rot_lt 13 x (by decide) hx)) (rot_lt 22 x (by decide) hx)
theorem up1_lt {x : Nat} (hx : x < 4294967296) : up1 x < 4294967296 := xlt (xlt (rot_lt 6 x (by decide) hx) (rot_lt 11 x (by decide) hx)) (rot_lt 25 x (by decide) hx)
theorem cho_lt {e f g : Nat} (he : e < 4294967296) : cho e f g < 4294967296 := xlt (alt he) (alt (by omega))
theorem maj_lt {a b c : Nat} (ha : a < 4294967296) (hb : b < 4294967296) : maj a b c < 4294967296 := xlt (xlt (alt ha) (alt ha)) (alt hb)

theorem lo0_32 {x : Nat} (hx : x < 4294967296) : bits .xor .u32 (bits .xor .u32 (rot 7 x : Int) (rot 18 x : Int)) ((x : Int) / 8) = (lo0 x : Int) := by
  rw [bxor32 _ _ (rot_lt 7 x (by decide) hx) (rot_lt 18 x (by decide) hx), show (x : Int) / 8 = ((x / 8 : Nat) : Int) by omega, bxor32 _ _ (xlt (rot_lt 7 x (by decide) hx) (rot_lt 18 x (by decide) hx)) (by omega)]; rfl
theorem lo1_32 {x : Nat} (hx : x < 4294967296) : bits .xor .u32 (bits .xor .u32 (rot 17 x : Int) (rot 19 x : Int)) ((x : Int) / 1024) = (lo1 x : Int) := by
  rw [bxor32 _ _ (rot_lt 17 x (by decide) hx) (rot_lt 19 x (by decide) hx), show (x : Int) / 1024 = ((x / 1024 : Nat) : Int) by omega, bxor32 _ _ (xlt (rot_lt 17 x (by decide) hx) (rot_lt 19 x (by decide) hx)) (by omega)]; rfl
theorem lo0_64 {x : Nat} (hx : x < 4294967296) : bits .xor .u64 (bits .xor .u64 (rot 7 x : Int) (rot 18 x : Int)) ((x / 8 : Nat) : Int) = (lo0 x : Int) := by
  rw [bxor64 _ _ (rot_lt 7 x (by decide) hx) (rot_lt 18 x (by decide) hx), bxor64 _ _ (xlt (rot_lt 7 x (by decide) hx) (rot_lt 18 x (by decide) hx)) (by omega)]; rfl
theorem lo1_64 {x : Nat} (hx : x < 4294967296) : bits .xor .u64 (bits .xor .u64 (rot 17 x : Int) (rot 19 x : Int)) ((x / 1024 : Nat) : Int) = (lo1 x : Int) := by
  rw [bxor64 _ _ (rot_lt 17 x (by decide) hx) (rot_lt 19 x (by decide) hx), bxor64 _ _ (xlt (rot_lt 17 x (by decide) hx) (rot_lt 19 x (by decide) hx)) (by omega)]; rfl
theorem up0_32 {x : Nat} (hx : x < 4294967296) : bits .xor .u32 (bits .xor .u32 (rot 2 x : Int) (rot 13 x : Int)) (rot 22 x : Int) = (up0 x : Int) := by
  rw [bxor32 _ _ (rot_lt 2 x (by decide) hx) (rot_lt 13 x (by decide) hx), bxor32 _ _ (xlt (rot_lt 2 x (by decide) hx) (rot_lt 13 x (by decide) hx)) (rot_lt 22 x (by decide) hx)]; rfl
theorem up1_32 {x : Nat} (hx : x < 4294967296) : bits .xor .u32 (bits .xor .u32 (rot 6 x : Int) (rot 11 x : Int)) (rot 25 x : Int) = (up1 x : Int) := by
  rw [bxor32 _ _ (rot_lt 6 x (by decide) hx) (rot_lt 11 x (by decide) hx), bxor32 _ _ (xlt (rot_lt 6 x (by decide) hx) (rot_lt 11 x (by decide) hx)) (rot_lt 25 x (by decide) hx)]; rfl
theorem up0_64 {x : Nat} (hx : x < 4294967296) : bits .xor .u64 (bits .xor .u64 (rot 2 x : Int) (rot 13 x : Int)) (rot 22 x : Int) = (up0 x : Int) := by
  rw [bxor64 _ _ (rot_lt 2 x (by decide) hx) (rot_lt 13 x (by decide) hx), bxor64 _ _ (xlt (rot_lt 2 x (by decide) hx) (rot_lt 13 x (by decide) hx)) (rot_lt 22 x (by decide) hx)]; rfl
theorem up1_64 {x : Nat} (hx : x < 4294967296) : bits .xor .u64 (bits .xor .u64 (rot 6 x : Int) (rot 11 x : Int)) (rot 25 x : Int) = (up1 x : Int) := by
  rw [bxor64 _ _ (rot_lt 6 x (by decide) hx) (rot_lt 11 x (by decide) hx), bxor64 _ _ (xlt (rot_lt 6 x (by decide) hx) (rot_lt 11 x (by decide) hx)) (rot_lt 25 x (by decide) hx)]; rfl

set_option maxRecDepth 100000 in
theorem turn_any (n x : Nat) (w : World) (hn : 0 < n) (hn2 : n < 32) (hx : x < 4294967296) :
    Calls Tryd.prog 31 #[.int .u32 (x : Int), .int .u64 (n : Int)] w fun e w' => e = .returned (.int .u32 (rot n x : Int)) ∧ w = w' := by
  have HR : Hid _ := rot_bits n x hn hn2 hx
  go_enter Tryd.func31, Tryd.ntmps31
  go_wp2
  go_ret
  rw [← HR.out]
  exact ⟨rfl, rfl⟩

set_option maxRecDepth 100000 in
set_option maxHeartbeats 400000 in
theorem rturn_any (n x : Nat) (w : World) (hn2 : n < 32) (hx : x < 4294967296) :
    Calls Tryd.prog 28 #[.int .u64 (x : Int), .int .i64 (n : Int)] w fun e w' => e = .returned (.int .u64 (rot n x : Int)) ∧ w = w' := by
  go_enter Tryd.func28, Tryd.ntmps28
  go_wp2_with fail
  go_loop [0, 5] (fun v i => ∃ k y : Nat, k ≤ n ∧ i = .int .i64 (k : Int) ∧ v = .int .u64 (y : Int) ∧ Hid (y = rot k x) ∧ y < 4294967296) (fun _ i => n - (intOf i).toNat)
  case atStart => exact ⟨0, x, by omega, rfl, rfl, (rot_zero x).symm, hx⟩
  case round =>
    obtain ⟨k, y, hk, rfl, rfl, HY, hy⟩ := hrel
    by_cases hlt : k < n
    · have HY2 : Hid (y / 2 + y % 2 * 2147483648 = rot (k + 1) x) := by unfold Hid; rw [rot_succ k x (by omega), HY.out]
      go_wp2
      go_round
      case rel => exact ⟨k + 1, y / 2 + y % 2 * 2147483648, by omega, by go_num, by go_num, HY2, by omega⟩
      case measure => simp [intOf]; omega
    · obtain rfl : k = n := by omega
      go_wp2
      go_ret
      rw [HY.out]
      exact ⟨rfl, rfl⟩

theorem down_succ (k x : Nat) : x / 2 ^ (k + 1) = x / 2 ^ k / 2 := by rw [Nat.pow_succ, Nat.div_div_eq_div_mul]

set_option maxRecDepth 100000 in
set_option maxHeartbeats 400000 in
theorem rdown_any (n x : Nat) (w : World) (hn2 : n < 32) (hx : x < 4294967296) :
    Calls Tryd.prog 29 #[.int .u64 (x : Int), .int .i64 (n : Int)] w fun e w' => e = .returned (.int .u64 ((x / 2 ^ n : Nat) : Int)) ∧ w = w' := by
  go_enter Tryd.func29, Tryd.ntmps29
  go_wp2_with fail
  go_loop [0, 5] (fun v i => ∃ k y : Nat, k ≤ n ∧ i = .int .i64 (k : Int) ∧ v = .int .u64 (y : Int) ∧ Hid (y = x / 2 ^ k) ∧ y < 4294967296) (fun _ i => n - (intOf i).toNat)
  case atStart => exact ⟨0, x, by omega, rfl, rfl, by unfold Hid; simp, hx⟩
  case round =>
    obtain ⟨k, y, hk, rfl, rfl, HY, hy⟩ := hrel
    by_cases hlt : k < n
    · have HY2 : Hid (y / 2 = x / 2 ^ (k + 1)) := by unfold Hid; rw [down_succ, HY.out]
      go_wp2
      go_round
      case rel => exact ⟨k + 1, y / 2, by omega, by go_num, by go_num, HY2, by omega⟩
      case measure => simp [intOf]; omega
    · obtain rfl : k = n := by omega
      go_wp2
      go_ret
      rw [HY.out]
      exact ⟨rfl, rfl⟩
theorem turn2 (x : Nat) (w : World) (hx : x < 4294967296) : Calls Tryd.prog 31 #[.int .u32 (x : Int), .int .u64 2] w fun e w' => e = .returned (.int .u32 (rot 2 x : Int)) ∧ w = w' := turn_any 2 x w (by decide) (by decide) hx
theorem rturn2 (x : Nat) (w : World) (hx : x < 4294967296) : Calls Tryd.prog 28 #[.int .u64 (x : Int), .int .i64 2] w fun e w' => e = .returned (.int .u64 (rot 2 x : Int)) ∧ w = w' := rturn_any 2 x w (by decide) hx
theorem turn6 (x : Nat) (w : World) (hx : x < 4294967296) : Calls Tryd.prog 31 #[.int .u32 (x : Int), .int .u64 6] w fun e w' => e = .returned (.int .u32 (rot 6 x : Int)) ∧ w = w' := turn_any 6 x w (by decide) (by decide) hx
theorem rturn6 (x : Nat) (w : World) (hx : x < 4294967296) : Calls Tryd.prog 28 #[.int .u64 (x : Int), .int .i64 6] w fun e w' => e = .returned (.int .u64 (rot 6 x : Int)) ∧ w = w' := rturn_any 6 x w (by decide) hx
theorem turn7 (x : Nat) (w : World) (hx : x < 4294967296) : Calls Tryd.prog 31 #[.int .u32 (x : Int), .int .u64 7] w fun e w' => e = .returned (.int .u32 (rot 7 x : Int)) ∧ w = w' := turn_any 7 x w (by decide) (by decide) hx
theorem rturn7 (x : Nat) (w : World) (hx : x < 4294967296) : Calls Tryd.prog 28 #[.int .u64 (x : Int), .int .i64 7] w fun e w' => e = .returned (.int .u64 (rot 7 x : Int)) ∧ w = w' := rturn_any 7 x w (by decide) hx
theorem turn11 (x : Nat) (w : World) (hx : x < 4294967296) : Calls Tryd.prog 31 #[.int .u32 (x : Int), .int .u64 11] w fun e w' => e = .returned (.int .u32 (rot 11 x : Int)) ∧ w = w' := turn_any 11 x w (by decide) (by decide) hx
theorem rturn11 (x : Nat) (w : World) (hx : x < 4294967296) : Calls Tryd.prog 28 #[.int .u64 (x : Int), .int .i64 11] w fun e w' => e = .returned (.int .u64 (rot 11 x : Int)) ∧ w = w' := rturn_any 11 x w (by decide) hx
theorem turn13 (x : Nat) (w : World) (hx : x < 4294967296) : Calls Tryd.prog 31 #[.int .u32 (x : Int), .int .u64 13] w fun e w' => e = .returned (.int .u32 (rot 13 x : Int)) ∧ w = w' := turn_any 13 x w (by decide) (by decide) hx
theorem rturn13 (x : Nat) (w : World) (hx : x < 4294967296) : Calls Tryd.prog 28 #[.int .u64 (x : Int), .int .i64 13] w fun e w' => e = .returned (.int .u64 (rot 13 x : Int)) ∧ w = w' := rturn_any 13 x w (by decide) hx
theorem turn17 (x : Nat) (w : World) (hx : x < 4294967296) : Calls Tryd.prog 31 #[.int .u32 (x : Int), .int .u64 17] w fun e w' => e = .returned (.int .u32 (rot 17 x : Int)) ∧ w = w' := turn_any 17 x w (by decide) (by decide) hx
theorem rturn17 (x : Nat) (w : World) (hx : x < 4294967296) : Calls Tryd.prog 28 #[.int .u64 (x : Int), .int .i64 17] w fun e w' => e = .returned (.int .u64 (rot 17 x : Int)) ∧ w = w' := rturn_any 17 x w (by decide) hx
theorem turn18 (x : Nat) (w : World) (hx : x < 4294967296) : Calls Tryd.prog 31 #[.int .u32 (x : Int), .int .u64 18] w fun e w' => e = .returned (.int .u32 (rot 18 x : Int)) ∧ w = w' := turn_any 18 x w (by decide) (by decide) hx
theorem rturn18 (x : Nat) (w : World) (hx : x < 4294967296) : Calls Tryd.prog 28 #[.int .u64 (x : Int), .int .i64 18] w fun e w' => e = .returned (.int .u64 (rot 18 x : Int)) ∧ w = w' := rturn_any 18 x w (by decide) hx
theorem turn19 (x : Nat) (w : World) (hx : x < 4294967296) : Calls Tryd.prog 31 #[.int .u32 (x : Int), .int .u64 19] w fun e w' => e = .returned (.int .u32 (rot 19 x : Int)) ∧ w = w' := turn_any 19 x w (by decide) (by decide) hx
theorem rturn19 (x : Nat) (w : World) (hx : x < 4294967296) : Calls Tryd.prog 28 #[.int .u64 (x : Int), .int .i64 19] w fun e w' => e = .returned (.int .u64 (rot 19 x : Int)) ∧ w = w' := rturn_any 19 x w (by decide) hx
theorem turn22 (x : Nat) (w : World) (hx : x < 4294967296) : Calls Tryd.prog 31 #[.int .u32 (x : Int), .int .u64 22] w fun e w' => e = .returned (.int .u32 (rot 22 x : Int)) ∧ w = w' := turn_any 22 x w (by decide) (by decide) hx
theorem rturn22 (x : Nat) (w : World) (hx : x < 4294967296) : Calls Tryd.prog 28 #[.int .u64 (x : Int), .int .i64 22] w fun e w' => e = .returned (.int .u64 (rot 22 x : Int)) ∧ w = w' := rturn_any 22 x w (by decide) hx
theorem turn25 (x : Nat) (w : World) (hx : x < 4294967296) : Calls Tryd.prog 31 #[.int .u32 (x : Int), .int .u64 25] w fun e w' => e = .returned (.int .u32 (rot 25 x : Int)) ∧ w = w' := turn_any 25 x w (by decide) (by decide) hx
theorem rturn25 (x : Nat) (w : World) (hx : x < 4294967296) : Calls Tryd.prog 28 #[.int .u64 (x : Int), .int .i64 25] w fun e w' => e = .returned (.int .u64 (rot 25 x : Int)) ∧ w = w' := rturn_any 25 x w (by decide) hx
theorem rdown3 (x : Nat) (w : World) (hx : x < 4294967296) : Calls Tryd.prog 29 #[.int .u64 (x : Int), .int .i64 3] w fun e w' => e = .returned (.int .u64 ((x / 8 : Nat) : Int)) ∧ w = w' := rdown_any 3 x w (by decide) hx
theorem rdown10 (x : Nat) (w : World) (hx : x < 4294967296) : Calls Tryd.prog 29 #[.int .u64 (x : Int), .int .i64 10] w fun e w' => e = .returned (.int .u64 ((x / 1024 : Nat) : Int)) ∧ w = w' := rdown_any 10 x w (by decide) hx
theorem quietly {f : FuncId} {args : Array Value} {w : World} {n : Nat} {v : Value} (h : Calls Tryd.prog f args (w.drewN n) fun e w' => e = .returned v ∧ w.drewN n = w') : Calls Tryd.prog f args (w.drewN n) fun e w'' => e = .returned v ∧ ∃ m, w'' = w.drewN m :=
  h.mono fun _ _ ⟨he, hm⟩ => ⟨he, n, hm.symm⟩
theorem turnQ6 (x : Nat) (w : World) (n : Nat) (hx : x < 4294967296) : Calls Tryd.prog 31 #[.int .u32 (x : Int), .int .u64 6] (w.drewN n) fun e w'' => e = .returned (.int .u32 (rot 6 x : Int)) ∧ ∃ m, w'' = w.drewN m := quietly (turn6 x _ hx)
theorem turnQ11 (x : Nat) (w : World) (n : Nat) (hx : x < 4294967296) : Calls Tryd.prog 31 #[.int .u32 (x : Int), .int .u64 11] (w.drewN n) fun e w'' => e = .returned (.int .u32 (rot 11 x : Int)) ∧ ∃ m, w'' = w.drewN m := quietly (turn11 x _ hx)
theorem turnQ25 (x : Nat) (w : World) (n : Nat) (hx : x < 4294967296) : Calls Tryd.prog 31 #[.int .u32 (x : Int), .int .u64 25] (w.drewN n) fun e w'' => e = .returned (.int .u32 (rot 25 x : Int)) ∧ ∃ m, w'' = w.drewN m := quietly (turn25 x _ hx)
theorem not32 (e : Nat) (he : e < 4294967296) : 4294967295 ^^^ e = 4294967295 - e := by
  have h := congrArg BitVec.toNat (BitVec.allOnes_xor (x := BitVec.ofNat 32 e))
  rw [BitVec.toNat_xor, BitVec.toNat_not, BitVec.toNat_ofNat, BitVec.toNat_allOnes, show e % 2 ^ 32 = e from Nat.mod_eq_of_lt he] at h
  exact h
theorem cho_32 {e f g : Nat} (he : e < 4294967296) (hf : f < 4294967296) (hg : g < 4294967296) : bits .xor .u32 (bits .and .u32 (e : Int) (f : Int)) (bits .and .u32 (bits .xor .u32 IntKind.u32.max (e : Int)) (g : Int)) = (cho e f g : Int) := by
  rw [show IntKind.u32.max = ((4294967295 : Nat) : Int) from rfl, bxor32 _ _ (by decide) he, not32 e he, band32 _ _ he hf, band32 _ _ (by omega) hg, bxor32 _ _ (alt he) (alt (by omega))]; rfl
theorem maj_32 {a b c : Nat} (ha : a < 4294967296) (hb : b < 4294967296) (hc : c < 4294967296) : bits .xor .u32 (bits .xor .u32 (bits .and .u32 (a : Int) (b : Int)) (bits .and .u32 (a : Int) (c : Int))) (bits .and .u32 (b : Int) (c : Int)) = (maj a b c : Int) := by
  rw [band32 _ _ ha hb, band32 _ _ ha hc, band32 _ _ hb hc, bxor32 _ _ (alt ha) (alt ha), bxor32 _ _ (xlt (alt ha) (alt ha)) (alt hb)]; rfl
theorem cho_64 {e f g : Nat} (he : e < 4294967296) (hf : f < 4294967296) (hg : g < 4294967296) : bits .xor .u64 (bits .and .u64 (e : Int) (f : Int)) (bits .and .u64 (4294967295 - (e : Int)) (g : Int)) = (cho e f g : Int) := by
  rw [show (4294967295 : Int) - (e : Int) = ((4294967295 - e : Nat) : Int) by omega, band64 _ _ he hf, band64 _ _ (by omega) hg, bxor64 _ _ (alt he) (alt (by omega))]; rfl
theorem maj_64 {a b c : Nat} (ha : a < 4294967296) (hb : b < 4294967296) (hc : c < 4294967296) : bits .xor .u64 (bits .xor .u64 (bits .and .u64 (a : Int) (b : Int)) (bits .and .u64 (a : Int) (c : Int))) (bits .and .u64 (b : Int) (c : Int)) = (maj a b c : Int) := by
  rw [band64 _ _ ha hb, band64 _ _ ha hc, band64 _ _ hb hc, bxor64 _ _ (alt ha) (alt ha), bxor64 _ _ (xlt (alt ha) (alt ha)) (alt hb)]; rfl
theorem all_64 (x : Nat) (hx : x < 18446744073709551616) : bits .and .u64 (x : Int) 4294967295 = ((x % 4294967296 : Nat) : Int) := by
  have := bits_mask .u64 64 (by decide) wraps_u64 32 (by decide) (x : Int) (by omega) (by omega)
  rw [show ((2 : Int) ^ 32 - 1) = 4294967295 from rfl] at this
  rw [this]; omega
end Go.Proofs.YtpibpjbeedcefaaDoor
