/- math/bits.Len, nextPowerOfTwo. No condition but sizes. -/
import Derived.Shelf.Small.Bits
import Derived.Test.YtgimpolgagkffaaSo1
namespace Go.Proofs.Ytgimpolgagkffaa
open Go.RowKit Go.Shelf

def bl_ren : Go.Shelf.Ren := ⟨fun | 125 => 31 | 128 => 34 | 129 => 35 | n => n, fun | 46 => 83 | 51 => 87 | 53 => 89 | n => n, fun | n => n⟩
theorem blL : Go.Proofs.Lays.n125 Try.prog bl_ren := {
  mixed := by kernel_rfl
  f125 := Try.func31.trans (congrArg some (by kernel_rfl))
  f128 := Try.func34.trans (congrArg some (by kernel_rfl))
  f129 := Try.func35.trans (congrArg some (by kernel_rfl))
  t3 := Try.underlying3
  a3 := Try.isAgg3
  z3 := Try.sizeOf3
  v3 := Try.zeroValue3
  t4 := Try.underlying4
  a4 := Try.isAgg4
  z4 := Try.sizeOf4
  v4 := Try.zeroValue4
  t5 := Try.underlying5
  a5 := Try.isAgg5
  z5 := Try.sizeOf5
  v5 := Try.zeroValue5
  t9 := Try.underlying9
  a9 := Try.isAgg9
  z9 := Try.sizeOf9
  v9 := Try.zeroValue9
  t46 := Try.underlying83
  a46 := Try.isAgg83
  z46 := Try.sizeOf83
  v46 := Try.zeroValue83
  t51 := Try.underlying87
  a51 := Try.isAgg87
  z51 := Try.sizeOf87
  v51 := Try.zeroValue87
  t53 := Try.underlying89
  a53 := Try.isAgg89
  z53 := Try.sizeOf89
  v53 := Try.zeroValue89 }

theorem bl_any (n : Nat) (w : World) (h : n ≤ 1000000) : Calls Try.prog 31 #[.int .u64 (n : Int)] w fun e w' => e = .returned (.int .i64 (Lib.bitLen n : Int)) ∧ w = w' :=
  (Go.Proofs.Any.bits_Len blL (n : Int) w (by omega) (by omega)).mono fun _ _ ⟨he, hw⟩ => ⟨he, hw.symm⟩

theorem bitLen_pow : ∀ n : Fin 257, 13 ≤ n.val → 2 ^ Lib.bitLen n.val ≤ 2 * n.val ∧ Lib.bitLen n.val ≤ 9 ∧ 1 ≤ Lib.bitLen n.val := by decide +kernel

theorem two_pow : ∀ l : Fin 10, IntKind.u64.wrap ((2 : Int) ^ l.val) = ((2 ^ l.val : Nat) : Int) := by decide +kernel

theorem npt_any (n : Nat) (w : World) (h : n ≤ 256) (h13 : 13 ≤ n) : Calls Try.prog 45 #[.int .i64 (n : Int)] w fun e w' => ∃ m : Nat, e = .returned (.int .u64 (m : Int)) ∧ m ≤ 2 * n ∧ 1 ≤ m ∧ w = w' := by
  obtain ⟨hb2, hb9, hb1⟩ := bitLen_pow ⟨n, by omega⟩ h13
  simp only at hb2 hb9 hb1
  have hc := bl_any n w (by omega)
  have hpw : IntKind.u64.wrap ((2 : Int) ^ Lib.bitLen n) = ((2 ^ Lib.bitLen n : Nat) : Int) := two_pow ⟨_, Nat.lt_succ_of_le hb9⟩
  have hm1 : 1 ≤ 2 ^ Lib.bitLen n := Nat.one_le_two_pow
  generalize hm : (2 ^ Lib.bitLen n : Nat) = m at *
  have HM : Hid _ := hm
  clear hm
  generalize Lib.bitLen n = l at *
  go_enter Try.func45, Try.ntmps45
  go_wp2_with (go_at_call 31; refine hc.mono ?_; rintro e _ ⟨rfl, rfl⟩)
  go_ret
  exact ⟨m, rfl, hb2, hm1, rfl⟩
end Go.Proofs.Ytgimpolgagkffaa
