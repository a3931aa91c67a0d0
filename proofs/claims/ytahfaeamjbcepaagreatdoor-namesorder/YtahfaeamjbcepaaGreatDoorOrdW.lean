/- The walk of NamesOrder: it answers true. No condition but that what comes in can be read and the tables hold what the program's text lays. -/
import Derived.Test.YtahfaeamjbcepaaGreatDoorBgn
namespace Go.Proofs.YtahfaeamjbcepaaGreatDoor
open Go.RowKit

theorem less_lt (x y : List UInt8) (w : World) : Calls Tryz.prog 15 #[.string ⟨x.toArray⟩, .string ⟨y.toArray⟩] w fun e w' => e = .returned (.bool (decide (x < y))) ∧ w = w' := by
  have h := less_any x y w
  rw [decide_eq_decide.2 (cmp_lt x y)] at h
  exact h

set_option maxRecDepth 100000 in
set_option maxHeartbeats 4000000 in
theorem order_walk (ao : Option Addr) (n cap : Nat) (ss : List (List UInt8)) (a b c : List UInt8) (w : World) (hT : Tabs w) (hR : SR w ao n cap ss) (ha : a.length ≤ maxLen) (hb : b.length ≤ maxLen) (hc : c.length ≤ maxLen) :
    Calls Tryz.prog 4 #[.slice ao n cap, tx a, tx b, tx c] w fun e w' => e = .returned (.bool true) ∧ Below w.heap.size w w' := by
  have h5 := begun_any w hT
  have sa : (ByteArray.mk a.toArray).size = a.length := by simp [ByteArray.size]
  have sb : (ByteArray.mk b.toArray).size = b.length := by simp [ByteArray.size]
  have sc : (ByteArray.mk c.toArray).size = c.length := by simp [ByteArray.size]
  unfold maxLen at ha hb hc
  have h6 := fun (w1 : World) (hb1 : Below w.heap.size w w1) => light_any ao n cap ss w1 (hR.on hb1)
  unfold tx
  cases hl : lightB ss
  · rw [hl] at h6
    clear hR hl
    go_enter Tryz.func4, Tryz.ntmps4
    go_wp2_with (first | (go_at_call 5; refine h5.mono ?_; rintro e w1 ⟨rfl, b1⟩) | (go_at_call 6; refine (h6 w1 b1).mono ?_; rintro e w2 ⟨rfl, rfl⟩))
    go_ret
    exact ⟨rfl, b1⟩
  rw [hl] at h6
  by_cases ha60 : a.length ≤ 60
  case neg =>
    have da : decide ((60 : Int) < (a.length : Int)) = true := by simp; omega
    clear hR hl
    go_enter Tryz.func4, Tryz.ntmps4
    go_wp2_with (first | (go_at_call 5; refine h5.mono ?_; rintro e w1 ⟨rfl, b1⟩) | (go_at_call 6; refine (h6 w1 b1).mono ?_; rintro e w2 ⟨rfl, rfl⟩))
    go_ret
    exact ⟨rfl, b1⟩
  have da : decide ((60 : Int) < (a.length : Int)) = false := by simp; omega
  by_cases hb60 : b.length ≤ 60
  case neg =>
    have db : decide ((60 : Int) < (b.length : Int)) = true := by simp; omega
    clear hR hl
    go_enter Tryz.func4, Tryz.ntmps4
    go_wp2_with (first | (go_at_call 5; refine h5.mono ?_; rintro e w1 ⟨rfl, b1⟩) | (go_at_call 6; refine (h6 w1 b1).mono ?_; rintro e w2 ⟨rfl, rfl⟩))
    go_ret
    exact ⟨rfl, b1⟩
  have db : decide ((60 : Int) < (b.length : Int)) = false := by simp; omega
  by_cases hc60 : c.length ≤ 60
  case neg =>
    have dc : decide ((60 : Int) < (c.length : Int)) = true := by simp; omega
    clear hR hl
    go_enter Tryz.func4, Tryz.ntmps4
    go_wp2_with (first | (go_at_call 5; refine h5.mono ?_; rintro e w1 ⟨rfl, b1⟩) | (go_at_call 6; refine (h6 w1 b1).mono ?_; rintro e w2 ⟨rfl, rfl⟩))
    go_ret
    exact ⟨rfl, b1⟩
  have dc : decide ((60 : Int) < (c.length : Int)) = false := by simp; omega
  obtain ⟨hn60, hs60⟩ := lightB_iff.1 hl
  have hln := hR.len
  have hn : n ≤ 60 := by omega
  obtain ⟨rs, HRS⟩ : ∃ rs, Hid (srt ss = rs) := ⟨_, rfl⟩
  have hasc : Asc rs := by rw [← HRS.out]; exact srt_asc ss
  have hmem : ∀ x, x ∈ rs ↔ x ∈ ss := fun x => by rw [← HRS.out]; exact mem_srt ss x
  obtain ⟨m, HM⟩ : ∃ m, Hid (rs.length = m) := ⟨_, rfl⟩
  have hm : m ≤ 60 := by have := srt_length ss; rw [HRS.out, HM.out] at this; omega
  have h7 := fun (w1 : World) (hb1 : Below w.heap.size w w1) => sorted_any ao n cap ss w1 (hR.on hb1) (by omega) (fun s hs => by have := hs60 s hs; omega)
  simp only [HRS.out, HM.out] at h7
  have HN : Hid (ss.length = n) := hln
  have HA : Hid (Asc rs) := hasc
  have HE : Hid (∀ x, x ∈ rs ↔ x ∈ ss) := hmem
  have HS : Hid (∀ s ∈ ss, s.length ≤ 60) := hs60
  clear hl hn60 hs60 hln hasc hmem
  go_enter Tryz.func4, Tryz.ntmps4
  go_wp2_with (first | (go_at_call 5; refine h5.mono ?_; rintro e w1 ⟨rfl, b1⟩) | (go_at_call 6; refine (h6 w1 b1).mono ?_; rintro e w2 ⟨rfl, rfl⟩) | (go_at_call 7; refine (h7 w1 b1).mono ?_; rintro e w3 ⟨g, rfl, hg3, B3, b3⟩))
  have hz1 := b1.size
  have hz3 := b3.size
  have b13 : Below w.heap.size w w3 := b1.trans (b3.mono (by omega))
  have hgl := B3.lt
  have HB : Hid (Blk w3 g 9 (rs.map tx)) := B3
  clear h5 h6 h7 B3 b3 b1 hT
  go_loopw [10] (fun s10 wr => ∃ p : Nat, 1 ≤ p ∧ (p ≤ m ∨ p = 1) ∧ s10 = .int .i64 (p : Int) ∧ Below w3.heap.size w3 wr) (fun s10 _ => m - (intOf s10).toNat)
  case atStart => exact ⟨1, Nat.le_refl _, .inr rfl, rfl, Below.refl _ _⟩
  case round =>
    obtain ⟨p, hp1, hpm, rfl, bel⟩ := hrel
    have B := HB.out.below bel hgl
    by_cases hlt : p < m
    · have hd : decide ((p : Int) < (m : Int)) = true := by simpa using hlt
      obtain ⟨k, hk⟩ : ∃ k, Hid (p = k + 1) := ⟨p - 1, (by omega : p = p - 1 + 1)⟩
      have hkp := hk.out
      obtain ⟨x, hx⟩ : ∃ x, rs[k]? = some x := ⟨_, List.getElem?_eq_getElem (by rw [HM.out]; omega)⟩
      obtain ⟨y, hy⟩ : ∃ y, rs[p]? = some y := ⟨_, List.getElem?_eq_getElem (by rw [HM.out]; omega)⟩
      have cx := B.cell (j := k) (v := tx x) (by simp [hx])
      have cy := B.cell (j := p) (v := tx y) (by simp [hy])
      have hxy : x < y := asc_get HA.out hx hy (by omega)
      have h15 := fun w => less_lt x y w
      rw [decide_eq_true hxy] at h15
      unfold tx at cx cy
      have hw1 : ((p : Int) - 1) = (k : Int) := by omega
      have i1 : (k : Int) < (m : Int) := by omega
      have i2 : (p : Int) < (m : Int) := by omega
      clear hxy hx hy B hkp
      go_wp2_with fail
      go_quiet ((go_at_call 15; exact Calls.quiet_of_same ((h15 _).mono fun e w' ⟨h1, h2⟩ => ⟨h1, h2.symm⟩)))
      go_wp2_with fail
      go_roundw
      case measure => simp [intOf]; omega
      case rel => exact ⟨p + 1, by omega, .inl (by omega), by simp, bel_drewN bel _⟩
    · have hd : decide ((p : Int) < (m : Int)) = false := by simp; omega
      clear B
      go_wp2_with fail
      obtain ⟨wo, hwo⟩ : ∃ wo, wo = wr := ⟨_, rfl⟩
      subst hwo
      clear hd hlt hpm hp1
      go_loopw [11] (fun s11 wr => ∃ k : Nat, k ≤ n ∧ s11 = .int .i64 (k : Int) ∧ Below w3.heap.size w3 wr) (fun s11 _ => n - (intOf s11).toNat)
      case atStart => exact ⟨0, Nat.zero_le _, rfl, bel⟩
      case round =>
        obtain ⟨k, hk, rfl, bel2⟩ := hrel
        have B := HB.out.below bel2 hgl
        have Rs : SR wr (some ⟨g, 0, none⟩) m m rs := blk_SR B HM.out (by unfold maxLen; omega)
        have bw : Below w.heap.size w wr := b13.trans (bel2.mono (by omega))
        by_cases hkn : k < n
        · have hd : decide ((k : Int) < (n : Int)) = true := by simpa using hkn
          obtain ⟨s, hs⟩ : ∃ s, ss[k]? = some s := ⟨_, List.getElem?_eq_getElem (by rw [HN.out]; exact hkn)⟩
          obtain ⟨bq, off, rfl, hbl, hcell⟩ := (hR.on bw).cells k s hs
          have h13 := has_any _ _ _ _ s wr Rs HA.out (by omega)
          rw [decide_eq_true ((HE.out s).2 (List.mem_of_getElem? hs))] at h13
          unfold tx at hcell h13
          clear hs Rs B hR
          go_wp2_with (go_at_call 13; refine h13.mono ?_; rintro e w5 ⟨rfl, b5⟩)
          go_roundw
          case measure => simp [intOf]; omega
          case rel => exact ⟨k + 1, by omega, rfl, bel2.trans (b5.mono bel2.size)⟩
        · have hd : decide ((k : Int) < (n : Int)) = false := by simp; omega
          have h7 := fun (w5 : World) (hw5 : Below wr.heap.size wr w5) => sorted_any _ _ _ _ w5 (Rs.on hw5) (by omega) (fun s hs => by have := HS.out s ((HE.out s).1 hs); omega)
          rw [srt_self HA.out, HM.out] at h7
          have h10 := fun (w6 : World) (g' : Nat) (hw5 : Below wr.heap.size wr w6) (B6 : Blk w6 g' 9 (rs.map tx)) => alike_any _ _ _ _ _ _ _ _ w6 (blk_SR B6 HM.out (by unfold maxLen; omega)) (Rs.on hw5) (by omega) (by omega)
          simp only [decide_true] at h10
          have h16 := fun w => rless_any a b w (by omega) (by omega)
          have hbr := bel2.size
          clear hR Rs B
          rcases lt_tri a b with hab | hab | hab
          · have hq : (a == b) = false := beq_eq_false_iff_ne.2 (fun e => by subst e; exact List.lt_irrefl _ hab)
            have c1 := fun w => less_lt a b w
            rw [decide_eq_true hab] at c1 h16
            by_cases hbc : b < c
            · have c2 := fun w => less_lt b c w
              have c3 := fun w => less_lt a c w
              rw [decide_eq_true hbc] at c2
              rw [decide_eq_true (List.lt_trans hab hbc)] at c3
              clear hbc hab
              go_wp2_with (first | (go_at_call 15; with_reducible refine (c1 _).mono ?_; rintro e w' ⟨rfl, rfl⟩) | (go_at_call 15; with_reducible refine (c2 _).mono ?_; rintro e w' ⟨rfl, rfl⟩) | (go_at_call 15; with_reducible refine (c3 _).mono ?_; rintro e w' ⟨rfl, rfl⟩) | (go_at_call 16; refine (h16 _).mono ?_; rintro e w5 ⟨rfl, b5⟩; have hz5 := b5.size) | (go_at_call 7; refine (h7 w5 b5).mono ?_; rintro e w6 ⟨g6, rfl, hg6, B6, b6⟩; have hz6 := b6.size) | (go_at_call 10; refine (h10 w6 g6 (b5.trans (b6.mono hz5)) B6).mono ?_; rintro e w7 ⟨rfl, b7⟩))
              go_ret
              exact ⟨rfl, bw.trans ((b5.mono (by omega)).trans ((b6.mono (by omega)).trans (b7.mono (by omega))))⟩
            · have c2 := fun w => less_lt b c w
              rw [decide_eq_false hbc] at c2
              clear hbc hab
              go_wp2_with (first | (go_at_call 15; with_reducible refine (c1 _).mono ?_; rintro e w' ⟨rfl, rfl⟩) | (go_at_call 15; with_reducible refine (c2 _).mono ?_; rintro e w' ⟨rfl, rfl⟩) | (go_at_call 16; refine (h16 _).mono ?_; rintro e w5 ⟨rfl, b5⟩; have hz5 := b5.size) | (go_at_call 7; refine (h7 w5 b5).mono ?_; rintro e w6 ⟨g6, rfl, hg6, B6, b6⟩; have hz6 := b6.size) | (go_at_call 10; refine (h10 w6 g6 (b5.trans (b6.mono hz5)) B6).mono ?_; rintro e w7 ⟨rfl, b7⟩))
              go_ret
              exact ⟨rfl, bw.trans ((b5.mono (by omega)).trans ((b6.mono (by omega)).trans (b7.mono (by omega))))⟩
          · have hq : (a == b) = true := by rw [hab]; simp
            have c1 := fun w => less_lt a b w
            have c2 := fun w => less_lt b a w
            have hn1 : ¬ a < b := by rw [hab]; exact List.lt_irrefl _
            have hn2 : ¬ b < a := by rw [hab]; exact List.lt_irrefl _
            rw [decide_eq_false hn1] at c1 h16
            rw [decide_eq_false hn2] at c2
            clear hab hn1 hn2
            go_wp2_with (first | (go_at_call 15; with_reducible refine (c1 _).mono ?_; rintro e w' ⟨rfl, rfl⟩) | (go_at_call 15; with_reducible refine (c2 _).mono ?_; rintro e w' ⟨rfl, rfl⟩) | (go_at_call 16; refine (h16 _).mono ?_; rintro e w5 ⟨rfl, b5⟩; have hz5 := b5.size) | (go_at_call 7; refine (h7 w5 b5).mono ?_; rintro e w6 ⟨g6, rfl, hg6, B6, b6⟩; have hz6 := b6.size) | (go_at_call 10; refine (h10 w6 g6 (b5.trans (b6.mono hz5)) B6).mono ?_; rintro e w7 ⟨rfl, b7⟩))
            go_ret
            exact ⟨rfl, bw.trans ((b5.mono (by omega)).trans ((b6.mono (by omega)).trans (b7.mono (by omega))))⟩
          · have hq : (a == b) = false := beq_eq_false_iff_ne.2 (fun e => by subst e; exact List.lt_irrefl _ hab)
            have c1 := fun w => less_lt a b w
            have c2 := fun w => less_lt b a w
            have hn1 : ¬ a < b := List.lt_asymm hab
            rw [decide_eq_false hn1] at c1 h16
            rw [decide_eq_true hab] at c2
            clear hab hn1
            go_wp2_with (first | (go_at_call 15; with_reducible refine (c1 _).mono ?_; rintro e w' ⟨rfl, rfl⟩) | (go_at_call 15; with_reducible refine (c2 _).mono ?_; rintro e w' ⟨rfl, rfl⟩) | (go_at_call 16; refine (h16 _).mono ?_; rintro e w5 ⟨rfl, b5⟩; have hz5 := b5.size) | (go_at_call 7; refine (h7 w5 b5).mono ?_; rintro e w6 ⟨g6, rfl, hg6, B6, b6⟩; have hz6 := b6.size) | (go_at_call 10; refine (h10 w6 g6 (b5.trans (b6.mono hz5)) B6).mono ?_; rintro e w7 ⟨rfl, b7⟩))
            go_ret
            exact ⟨rfl, bw.trans ((b5.mono (by omega)).trans ((b6.mono (by omega)).trans (b7.mono (by omega))))⟩
end Go.Proofs.YtahfaeamjbcepaaGreatDoor

namespace Go.Proofs.YtahfaeamjbcepaaGreatDoor
open Go.RowKit

theorem tx_data' (s : ByteArray) : Value.string s = tx s.data.toList := by
  cases s
  simp [tx]

theorem order_row (ao : Option Addr) (n cap : Nat) (ss : List (List UInt8)) (a b c : ByteArray) (w : World) (hT : Tabs w) (hR : SR w ao n cap ss) (ha : a.size ≤ maxLen) (hb : b.size ≤ maxLen) (hc : c.size ≤ maxLen) :
    Calls Tryz.prog 4 #[.slice ao n cap, .string a, .string b, .string c] w fun e w' => e = .returned (.bool true) ∧ Below w.heap.size w w' := by
  rw [tx_data' a, tx_data' b, tx_data' c]
  exact order_walk ao n cap ss _ _ _ w hT hR (by rw [Array.length_toList]; exact ha) (by rw [Array.length_toList]; exact hb) (by rw [Array.length_toList]; exact hc)
end Go.Proofs.YtahfaeamjbcepaaGreatDoor
