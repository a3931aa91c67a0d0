/- OctetReads, the walk: what stands at the beginning of bytes, and what is wrong with it. -/
import Derived.Test.YtcbpicioljiidaaRefR
import Derived.Test.YtcbpicioljiidaaBack
namespace Go.Proofs.Ytcbpicioljiidaa
open Go.RowKit

theorem rtakeText_at {ao : Option Addr} {n cap : Nat} {bs : List UInt8} {most : Int} {w : World} (h : Rd w ao n cap bs) (hn : n ≤ 1099511627776) (hm0 : -9223372036854775808 ≤ most) (hm1 : most ≤ 9223372036854775807)
    {l : List UInt8} {k er : Nat} (hr : tt bs most = (l, k, er)) :
    Calls Try.prog 22 #[.slice ao n cap, .int .i64 most] w fun e w' => ∃ ao' cap', e = .returned (.tuple #[.slice ao' l.length cap', .int .i64 (k : Int), .int .i64 (er : Int)]) ∧
      Res 5 w.heap.size w' ao' l.length cap' l ∧ Below w.heap.size w w' := by
  have := rtakeText_any ao n cap bs most w h hn hm0 hm1
  rw [hr] at this
  exact this

theorem rtakeEight_at {ao : Option Addr} {n cap : Nat} {bs : List UInt8} {w : World} (h : Rd w ao n cap bs) {v er : Nat} (hr : te bs = (v, er)) :
    Calls Try.prog 24 #[.slice ao n cap] w fun e w' => e = .returned (.tuple #[.int .u64 (v : Int), .int .i64 (er : Int)]) ∧ w = w' := by
  have := rtakeEight_any ao n cap bs w h
  rw [hr] at this
  exact this

theorem Own.rowIs {B : Nat} {w : World} {g n cap : Nat} {bs : List UInt8} (h : Own 5 B w g n cap bs) : ∃ l, RowIs w g l ∧ l.length = cap := by
  obtain ⟨cur, h1, h2, _⟩ := h.row
  exact ⟨cur.toList, by unfold RowIs; simpa using h1, by simpa using h2⟩

theorem twin_rd {w : World} {g n : Nat} {bs : List UInt8} (h : RowIs w g (twinRow bs)) (hl : bs.length = n) (hn : n ≤ 1099511627776) : Rd w (some ⟨g, 0, none⟩) n (n + 3) bs :=
  (h.own 0 (Nat.zero_le _) (by simp [twinRow, hl]) hl (by omega) (by unfold maxLen; omega) (by simp [twinRow, hl])).rd

/-- Spoil, of what a call has handed back. -/
theorem spoil_res (B : Nat) (ao : Option Addr) (n cap : Nat) (bs : List UInt8) (w : World) (h : Res 5 B w ao n cap bs) :
    Calls Try.prog 18 #[.slice ao n cap] w fun e w' => e = .returned (.tuple #[]) ∧ ∃ g, B ≤ g ∧ w.grownBy w' (some g) := by
  rcases h.2 with ⟨rfl, rfl, rfl⟩ | ⟨g, rfl, ho⟩
  · refine (spoil_nil w).mono ?_
    rintro e w' ⟨rfl, rfl⟩
    exact ⟨rfl, B, Nat.le_refl _, grown_refl _ _⟩
  · obtain ⟨l, hr, hl⟩ := ho.rowIs
    refine (spoil_any g n cap l w hr hl ho.max).mono ?_
    rintro e w' ⟨rfl, hg⟩
    exact ⟨rfl, g, ho.new, hg⟩

set_option maxRecDepth 100000 in
set_option maxHeartbeats 1000000 in
theorem reads_walk (bo : Option Addr) (n cap : Nat) (bs : List UInt8) (most : Int) (w : World) (h : Rd w bo n cap bs) (hm0 : -9223372036854775808 ≤ most) (hm1 : most ≤ 9223372036854775807) :
    Calls Try.prog 4 #[.slice bo n cap, .int .i64 most] w fun e w' => e = .returned (.bool true) ∧ Below w.heap.size w w' := by
  have hle := h.le
  have hmax := h.max
  unfold maxLen at hmax
  by_cases h1 : 65536 < n
  · go_enter Try.func4, Try.ntmps4
    go_wp2_with (go_at_call 9; refine (begun_any _).mono ?_; rintro e w0 ⟨rfl, hb0⟩)
    go_ret
    exact ⟨rfl, hb0⟩
  · have HL : Hid (bs.length = n) := h.len
    obtain ⟨v, hd, er, hv⟩ : ∃ v hd er, tv 0 0 bs = (v, hd, er) := ⟨_, _, _, rfl⟩
    obtain ⟨l, k, er2, ht⟩ : ∃ l k er2, tt bs most = (l, k, er2) := ⟨_, _, _, rfl⟩
    obtain ⟨x, er3, hx⟩ : ∃ x er3, te bs = (x, er3) := ⟨_, _, rfl⟩
    have HV : Hid _ := hv
    have HT : Hid _ := ht
    have HX : Hid _ := hx
    clear hv ht hx
    go_enter Try.func4, Try.ntmps4
    go_wp2_with (go_at_call 9; refine (begun_any _).mono ?_; rintro e w0 ⟨rfl, hb0⟩)
    have r0 := h.below hb0 (Nat.le_refl _)
    have z0 := hb0.size
    refine (twin_any bo n cap bs _ r0 (by omega)).mono ?_
    rintro e w1 ⟨rfl, hrow, hb1⟩
    have z1 := hb1.size
    have b1 := hb0.trans (hb1.mono z0)
    have r1 := h.below b1 (Nat.le_refl _)
    have l1 := hrow.lt
    have t1 := twin_rd hrow HL.out (by omega)
    generalize w0.heap.size = gt at *
    clear r0 hb0 hb1
    go_wp2_with fail
    refine (takeVar_at t1 HV.out).mono ?_
    rintro e w2 ⟨rfl, rfl⟩
    go_wp2_with fail
    refine (rtakeVar_at r1 HV.out).mono ?_
    rintro e w2 ⟨rfl, rfl⟩
    go_wp2_with fail
    refine (takeText_at t1 (by omega) hm0 hm1 HT.out).mono ?_
    rintro e w2 ⟨ao2, c2, rfl, s2, hb2⟩
    have z2 := hb2.size
    have b2 := b1.trans (hb2.mono (by omega))
    have r2 := h.below b2 (Nat.le_refl _)
    have row2 := hrow.carry (hb2.block gt l1)
    clear r1 t1 hrow
    go_wp2_with fail
    refine (rtakeText_at r2 (by omega) hm0 hm1 HT.out).mono ?_
    rintro e w3 ⟨ao3, c3, rfl, s3, hb3⟩
    have z3 := hb3.size
    have b3 := b2.trans (hb3.mono (by omega))
    have r3 := h.below b3 (Nat.le_refl _)
    have row3 := row2.carry (hb3.block gt (by omega))
    have t3 := twin_rd row3 HL.out (by omega)
    have s23 := s2.carry (w' := w3) (fun k _ hk => hb3.block k hk)
    clear r2 row2 s2 b1 b2 hb2 hb3
    go_wp2_with fail
    refine (takeEight_at t3 HX.out).mono ?_
    rintro e w4 ⟨rfl, rfl⟩
    go_wp2_with fail
    refine (rtakeEight_at r3 HX.out).mono ?_
    rintro e w4 ⟨rfl, rfl⟩
    have c1 := str_of s23.1
    have c2' := str_of s3.1
    go_wp2_with fail
    refine (kept_any gt n bo cap bs _ row3 r3 (by omega)).mono ?_
    rintro e w4 ⟨rfl, rfl⟩
    clear c1 c2' t3
    go_wp2_with fail
    refine (spoil_res _ _ _ _ _ _ s23).mono ?_
    rintro e w4 ⟨rfl, gs, hgs, hg⟩
    have row4 := row3.carry (hg.block gt (by omega) (by simp; omega))
    have b4 := b3.grown hg (by omega) (fun k hk => by simp at hk; omega)
    have r4 := h.below b4 (Nat.le_refl _)
    clear s23 s3 row3 r3 b3 hg
    go_wp2_with fail
    refine (kept_any gt n bo cap bs _ row4 r4 (by omega)).mono ?_
    rintro e w5 ⟨rfl, rfl⟩
    go_wp2
    go_ret
    exact ⟨rfl, b4⟩
end Go.Proofs.Ytcbpicioljiidaa
