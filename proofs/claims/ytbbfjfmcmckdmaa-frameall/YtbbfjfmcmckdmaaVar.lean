/- The walks of octet.tight and octet.Var. No condition but that what was given can be read and is no longer than 2^40. -/
import Derived.Test.YtbbfjfmcmckdmaaProg
import Derived.Test.YtbbfjfmcmckdmaaKit
import Derived.WalkKit
import Derived.WalkSpells
import Derived.WalkLawsBesides
import Derived.Lib.VarintBits
namespace Go.Proofs.Ytbbfjfmcmckdmaa
open Go.RowKit

theorem Try.info5 : (Try.prog.info? 5).map (fun i => (i.zero, i.size, i.bytes)) = some (some (.int .u8 0), 1, 1) := by kernel_rfl

set_option maxHeartbeats 400000 in
theorem tight_any (ao : Option Addr) (n cap : Nat) (bs : List UInt8) (w : World) (h : Rd w ao n cap bs) :
    Calls Try.prog 33 #[.slice ao n cap] w fun e w' => e = .returned (.slice ao n n) ∧ w = w' := by
  have hle := h.le
  by_cases h0 : n = 0
  · subst h0
    go_enter Try.func33, Try.ntmps33
    go_wp2
    go_ret
    exact ⟨rfl, rfl⟩
  · go_enter Try.func33, Try.ntmps33
    go_wp2
    go_ret
    refine ⟨?_, rfl⟩
    cases ao <;> simp

theorem vb_or (y : Nat) (h : y < 18446744073709551616) : bits .or .u64 (bits .and .u64 (y : Int) 127) 128 % 256 = (((y % 128 + 128).toUInt8.toNat : Nat) : Int) := by
  have h1 : bits .and .u64 (y : Int) 127 = ((y % 128 : Nat) : Int) := by
    have := bits_mask .u64 64 (by decide) wraps_u64 7 (by decide) (y : Int) (by omega) (by omega)
    rw [show ((2 : Int) ^ 7 - 1) = 127 from rfl] at this
    rw [this]; omega
  have h2 : bits .or .u64 ((y % 128 : Nat) : Int) 128 = ((y % 128 : Nat) : Int) + 128 :=
    u64_orv7 _ _ (by omega) (by omega) (by omega) (by omega) (by omega)
  rw [h1, h2]
  have h3 : (y % 128 + 128).toUInt8.toNat = (y % 128 + 128) % 256 := by simp
  rw [h3]; omega

theorem vb_last (y : Nat) : (y : Int) % 256 = ((y.toUInt8.toNat : Nat) : Int) := by
  have h3 : y.toUInt8.toNat = y % 256 := by simp
  rw [h3]; omega

set_option maxRecDepth 100000 in
set_option maxHeartbeats 400000 in
theorem var_any (ao : Option Addr) (n cap : Nat) (bs : List UInt8) (x : Nat) (w : World) (h : Rd w ao n cap bs) (hn : n ≤ 1099511627776) (hx : x < 18446744073709551616) :
    Calls Try.prog 30 #[.slice ao n cap, .int .u64 (x : Int)] w fun e w' => ∃ g cap', e = .returned (.slice (some ⟨g, 0, none⟩) (n + (Lib.uvarint x).length) cap') ∧ Own 5 w.heap.size w' g (n + (Lib.uvarint x).length) cap' (bs ++ Lib.uvarint x) ∧ Below w.heap.size w w' := by
  obtain ⟨i5, hi, hz0, hz1, hz2⟩ := info_parts Try.info5
  have hlen := Lib.uvarint_length64 hx
  go_enter Try.func30, Try.ntmps30
  go_wp2_with (go_at_call 33; refine (tight_any _ _ _ bs _ h).mono ?_; rintro e w' ⟨rfl, rfl⟩)
  go_loopw [1, 5] (fun v out wr => ∃ (y : Nat) (ao' : Option Addr) (cap' : Nat) (ks : List UInt8), v = .int .u64 (y : Int) ∧ out = .slice ao' (n + ks.length) cap' ∧ App 5 w.heap.size wr ao' (n + ks.length) cap' (bs ++ ks) ∧ ks ++ Lib.uvarint y = Lib.uvarint x ∧ y ≤ x ∧ Below w.heap.size w wr)
    (fun v _ _ => (intOf v).toNat)
  case atStart => exact ⟨x, ao, n, [], rfl, rfl, ⟨by simpa using ⟨h.len, Nat.le_refl _, Nat.le_trans h.le h.max, (fun h0 => by have := h.nil h0; have := h.le; omega), h.cells⟩, .inl rfl⟩, rfl, Nat.le_refl _, Below.refl _ _⟩
  case round =>
    obtain ⟨y, ao', cap', ks, rfl, rfl, hA, hk, hy, hb⟩ := hrel
    have hkl : ks.length ≤ 10 := by rw [← hk] at hlen; simp at hlen; omega
    have hsz := hb.size
    have HK : Hid (ks ++ Lib.uvarint y = Lib.uvarint x) := hk
    clear hk hlen
    by_cases hlt : 128 ≤ y
    · go_wp2_with (at_builtin; refine wpList_append_bytes (P := Try.prog) _ (by rfl) _ _ 28 28 (by rfl) 5 i5 Try.underlying28 hi hz0 hz1 hz2 w.heap.size (by simp; omega) (by rfl) (hA.alloc _) [(y % 128 + 128).toUInt8] (by rfl) (src_one _ Try.underlying28 _ _ _ (by simp [vb_or y (by omega)])) (.inl (by omega)) (by omega) ?_; intro g1 cap1 w1 ho1 hb1 hg1 hw1)
      go_roundw
      case rel =>
        refine ⟨y / 128, some ⟨g1, 0, none⟩, cap1, ks ++ [(y % 128 + 128).toUInt8], by go_num, by simp [Nat.add_assoc], ?_, ?_, by omega, (hb.alloc (by omega) _).trans hb1⟩
        · simpa [List.append_assoc, Nat.add_assoc] using ho1.app
        · rw [List.append_assoc, ← HK.out, Lib.uvarint_big hlt]; rfl
      case measure => simp [intOf]; omega
    · have hsm := Lib.uvarint_small (x := y) (by omega)
      have hux : Lib.uvarint x = ks ++ [y.toUInt8] := by rw [← HK.out, hsm]
      have HUX : Hid (Lib.uvarint x = ks ++ [y.toUInt8]) := hux
      clear hsm hux
      go_wp2_with (at_builtin; refine wpList_append_bytes (P := Try.prog) _ (by rfl) _ _ 28 28 (by rfl) 5 i5 Try.underlying28 hi hz0 hz1 hz2 w.heap.size (by simp; omega) (by rfl) (hA.alloc _) [y.toUInt8] (by rfl) (src_one _ Try.underlying28 _ _ _ (by simp; omega)) (.inl (by omega)) (by omega) ?_; intro g1 cap1 w1 ho1 hb1 hg1 hw1)
      go_ret
      rw [HUX.out]
      refine ⟨g1, cap1, by simp [Nat.add_assoc], by simpa [List.append_assoc, Nat.add_assoc] using ho1, (hb.alloc (by omega) _).trans hb1⟩
end Go.Proofs.Ytbbfjfmcmckdmaa
