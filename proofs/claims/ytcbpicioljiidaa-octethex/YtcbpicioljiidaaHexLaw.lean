/- OctetHex, the walk: how bytes are shown, and which texts show some. -/
import Derived.Test.YtcbpicioljiidaaRHex
namespace Go.Proofs.Ytcbpicioljiidaa
open Go.RowKit

theorem unh_encode (bs : List UInt8) : unh (Lib.Hx.encode bs) = some bs := by
  induction bs with
  | nil => rfl
  | cons b r ih =>
    have hb : b.toNat < 256 := b.toNat_lt
    rw [Lib.Hx.encode_cons, unh_yes (halfv_digit (b.toNat / 16) (by omega)) (halfv_digit (b.toNat % 16) (by omega)), ih]
    have : (b.toNat / 16 * 16 + b.toNat % 16).toUInt8 = b := by
      rw [show b.toNat / 16 * 16 + b.toNat % 16 = b.toNat by omega]
      simp
    simp [this]

theorem unhv_encode (bs : List UInt8) : unhv (Lib.Hx.encode bs) = (bs, 0) := by
  unfold unhv
  rw [unh_encode]

theorem unhex_at {s : ByteArray} {w : World} (hs : s.size ≤ 1099511627776) {l : List UInt8} {er : Nat} (hr : unhv s.data.toList = (l, er)) :
    Calls Try.prog 26 #[.string s] w fun e w' => ∃ ao cap, e = .returned (.tuple #[.slice ao l.length cap, .int .i64 (er : Int)]) ∧ Res 5 w.heap.size w' ao l.length cap l ∧ Below w.heap.size w w' := by
  have := unhex_any s w hs
  rw [hr] at this
  exact this

theorem runhex_at {s : ByteArray} {w : World} (hs : s.size ≤ 1099511627776) {l : List UInt8} {er : Nat} (hr : unhv s.data.toList = (l, er)) :
    Calls Try.prog 27 #[.string s] w fun e w' => ∃ ao cap, e = .returned (.tuple #[.slice ao l.length cap, .int .i64 (er : Int)]) ∧ Rd w' ao l.length cap l ∧ Below w.heap.size w w' := by
  have := runhex_any s w hs
  rw [hr] at this
  exact this

set_option maxRecDepth 100000 in
set_option maxHeartbeats 1000000 in
theorem hex_walk (bo : Option Addr) (n cap : Nat) (bs : List UInt8) (s : ByteArray) (w : World) (h : Rd w bo n cap bs) (hsm : s.size ≤ maxLen) :
    Calls Try.prog 7 #[.slice bo n cap, .string s] w fun e w' => e = .returned (.bool true) ∧ Below w.heap.size w w' := by
  have hle := h.le
  have hmax := h.max
  unfold maxLen at hmax hsm
  by_cases h1 : 1000 < n
  · go_enter Try.func7, Try.ntmps7
    go_wp2_with (go_at_call 9; refine (begun_any _).mono ?_; rintro e w0 ⟨rfl, hb0⟩)
    go_ret
    exact ⟨rfl, hb0⟩
  · by_cases h2 : 1000 < s.size
    · go_enter Try.func7, Try.ntmps7
      go_wp2_with (go_at_call 9; refine (begun_any _).mono ?_; rintro e w0 ⟨rfl, hb0⟩)
      go_ret
      exact ⟨rfl, hb0⟩
    · have HL : Hid (bs.length = n) := h.len
      obtain ⟨l, er, hu⟩ : ∃ l er, unhv s.data.toList = (l, er) := ⟨_, _, rfl⟩
      have HU : Hid _ := hu
      have HX : Hid (unhv (ByteArray.mk (Lib.Hx.encode bs).toArray).data.toList = (bs, 0)) := unhv_encode bs
      have HXS : Hid ((ByteArray.mk (Lib.Hx.encode bs).toArray).size ≤ 1099511627776) := by
        unfold Hid
        rw [ba_size, Lib.Hx.encode_length, HL.out]
        omega
      clear hu
      go_enter Try.func7, Try.ntmps7
      go_wp2_with (go_at_call 9; refine (begun_any _).mono ?_; rintro e w0 ⟨rfl, hb0⟩)
      have r0 := h.below hb0 (Nat.le_refl _)
      have z0 := hb0.size
      refine (twin_any bo n cap bs _ r0 (by omega)).mono ?_
      rintro e w1 ⟨rfl, hrow, hb1⟩
      have z1 := hb1.size
      have b1 := hb0.trans (hb1.mono z0)
      have l1 := hrow.lt
      have t1 := twin_rd hrow HL.out (by omega)
      generalize w0.heap.size = gt at *
      clear r0 hb0 hb1
      go_wp2_with fail
      refine (hex_any _ n (n + 3) bs _ t1 (by omega)).mono ?_
      rintro e w2 ⟨rfl, hb2⟩
      have z2 := hb2.size
      have b2 := b1.trans (hb2.mono (by omega))
      have row2 := hrow.carry (hb2.block gt l1)
      clear t1 hrow hb2 b1
      go_wp2_with fail
      refine (unhex_at (by omega) HU.out).mono ?_
      rintro e w3 ⟨ax, cx, rfl, x3, hb3⟩
      have z3 := hb3.size
      have b3 := b2.trans (hb3.mono (by omega))
      have row3 := row2.carry (hb3.block gt (by omega))
      clear row2 hb3 b2
      go_wp2_with fail
      refine (runhex_at (by omega) HU.out).mono ?_
      rintro e w4 ⟨ay, cy, rfl, y4, hb4⟩
      have z4 := hb4.size
      have b4 := b3.trans (hb4.mono (by omega))
      have row4 := row3.carry (hb4.block gt (by omega))
      have x4 := x3.1.below hb4 (Nat.le_refl _)
      clear row3 hb4 b3 x3
      go_wp2_with fail
      refine (unhex_at HXS.out HX.out).mono ?_
      rintro e w5 ⟨az, cz, rfl, z5, hb5⟩
      have zz5 := hb5.size
      have b5 := b4.trans (hb5.mono (by omega))
      have row5 := row4.carry (hb5.block gt (by omega))
      have x5 := x4.below hb5 (Nat.le_refl _)
      have y5 := y4.below hb5 (Nat.le_refl _)
      have r5 := h.below b5 (Nat.le_refl _)
      clear row4 hb5 b4 x4 y4
      go_wp2_with fail
      refine (rhex_any _ n cap bs _ r5 (by omega)).mono ?_
      rintro e w6 ⟨rfl, hb6⟩
      have z6 := hb6.size
      have b6 := b5.trans (hb6.mono (by omega))
      have row6 := row5.carry (hb6.block gt (by omega))
      have fx := str_of (x5.below hb6 (Nat.le_refl _))
      have fy := str_of (y5.below hb6 (Nat.le_refl _))
      have fz := str_of (z5.1.below hb6 (Nat.le_refl _))
      have r6 := h.below b6 (Nat.le_refl _)
      have fb := str_of r6
      clear row5 hb6 b5 x5 y5 z5 r5
      go_wp2_with fail
      refine (kept_any gt n bo cap bs _ row6 r6 (by omega)).mono ?_
      rintro e w7 ⟨rfl, rfl⟩
      go_wp2
      go_ret
      exact ⟨by simp, b6⟩
end Go.Proofs.Ytcbpicioljiidaa
