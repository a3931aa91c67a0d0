/- The walks of octet.Eight, octet.TakeEight and octet.Text. No condition but that what is given can be read and is no longer than 2^40. -/
import Derived.Test.YtcbpicioljiidabVar
import Derived.Test.YtcbpicioljiidabTake
namespace Go.Proofs.Ytcbpicioljiidab
open Go.RowKit

/-- A number's eight bytes, the highest first. -/
def e8 (x : Nat) : List UInt8 := (List.range 8).map fun i => (x / 2 ^ (8 * (7 - i))).toUInt8

theorem e8_length (x : Nat) : (e8 x).length = 8 := by simp [e8]

theorem e8_step (x k : Nat) (hk : k < 8) : (e8 x).take (k + 1) = (e8 x).take k ++ [(x / 2 ^ (8 * (7 - k))).toUInt8] := by
  rw [List.take_succ_eq_append_getElem (by rw [e8_length]; exact hk)]
  congr 1
  simp [e8]

set_option maxRecDepth 100000 in
set_option maxHeartbeats 400000 in
theorem eight_any (ao : Option Addr) (n cap : Nat) (bs : List UInt8) (x : Nat) (w : World) (h : Rd w ao n cap bs) (hn : n ≤ 1099511627776) (_hx : x < 18446744073709551616) :
    Calls Try.prog 10 #[.slice ao n cap, .int .u64 (x : Int)] w fun e w' => ∃ g cap', e = .returned (.slice (some ⟨g, 0, none⟩) (n + 8) cap') ∧ Own 5 w.heap.size w' g (n + 8) cap' (bs ++ e8 x) ∧ Below w.heap.size w w' := by
  obtain ⟨i5, hi, hz0, hz1, hz2⟩ := info_parts Try.info5
  go_enter Try.func10, Try.ntmps10
  go_wp2_with (go_at_call 13; refine (tight_any _ _ _ bs _ h).mono ?_; rintro e w' ⟨rfl, rfl⟩)
  go_loopw [5, 9] (fun out i wr => ∃ (k : Nat) (ao' : Option Addr) (cap' : Nat), k ≤ 8 ∧ i = .int .i64 (k : Int) ∧ out = .slice ao' (n + k) cap' ∧ App 5 w.heap.size wr ao' (n + k) cap' (bs ++ (e8 x).take k) ∧ (0 < k → ∃ g, ao' = some ⟨g, 0, none⟩ ∧ Own 5 w.heap.size wr g (n + k) cap' (bs ++ (e8 x).take k)) ∧ Below w.heap.size w wr)
    (fun _ i _ => 8 - (intOf i).toNat)
  case atStart => exact ⟨0, ao, n, Nat.zero_le _, rfl, rfl, ⟨by simpa using ⟨h.len, Nat.le_refl _, Nat.le_trans h.le h.max, (fun h0 => by have := h.nil h0; have := h.le; omega), h.cells⟩, .inl rfl⟩, fun h0 => absurd h0 (Nat.lt_irrefl _), Below.refl _ _⟩
  case round =>
    obtain ⟨k, ao', cap', hk, rfl, rfl, hA, hown, hb⟩ := hrel
    have hsz := hb.size
    by_cases hlt : k < 8
    · have HS : Hid _ := e8_step x k hlt
      clear hown
      go_wp2_with (at_builtin; refine wpList_append_bytes (P := Try.prog) _ (by rfl) _ _ 23 23 (by rfl) 5 i5 Try.underlying23 hi hz0 hz1 hz2 w.heap.size (by simp; omega) (by rfl) (hA.alloc _) [(x / 2 ^ (8 * (7 - k))).toUInt8] (by rfl) (src_one _ Try.underlying23 _ _ _ (by simp)) (.inl (by omega)) (by omega) ?_; intro g1 cap1 w1 ho1 hb1 hg1 hw1)
      go_roundw
      case rel =>
        have ho2 : Own 5 w.heap.size w1 g1 (n + (k + 1)) cap1 (bs ++ (e8 x).take (k + 1)) := by rw [HS.out]; simpa [List.append_assoc, Nat.add_assoc] using ho1
        exact ⟨k + 1, some ⟨g1, 0, none⟩, cap1, by omega, by go_num, by simp [Nat.add_assoc], ho2.app, fun _ => ⟨g1, rfl, ho2⟩, (hb.alloc (by omega) _).trans hb1⟩
      case measure => simp [intOf]; omega
    · obtain rfl : k = 8 := by omega
      obtain ⟨g, rfl, ho⟩ := hown (by omega)
      rw [List.take_of_length_le (by rw [e8_length]; omega)] at ho
      go_wp2
      go_ret
      exact ⟨g, cap', rfl, ho, hb⟩

/-- The number that bytes are, the highest first. -/
def n8 (bs : List UInt8) : Nat := bs.foldl (fun v b => v * 256 + b.toNat) 0

theorem n8_snoc (bs : List UInt8) (b : UInt8) : n8 (bs ++ [b]) = n8 bs * 256 + b.toNat := by simp [n8]

theorem n8_lt (bs : List UInt8) : n8 bs < 256 ^ bs.length := by
  suffices ∀ (l : List UInt8) (a m : Nat), a < 256 ^ m → l.foldl (fun v b => v * 256 + b.toNat) a < 256 ^ (m + l.length) by
    have := this bs 0 0 (by decide)
    simpa [n8] using this
  intro l
  induction l with
  | nil => intro a m h; simpa using h
  | cons b l ih =>
    intro a m h
    have hb : b.toNat < 256 := b.toNat_lt
    have := ih (a * 256 + b.toNat) (m + 1) (by rw [Nat.pow_succ]; omega)
    simp only [List.foldl_cons, List.length_cons]
    rw [show m + (l.length + 1) = m + 1 + l.length by omega]
    exact this

theorem or_low (a c : Nat) (ha : a < 2 ^ 56) (hc : c < 256) : bits .or .u64 (IntKind.u64.wrap ((a : Int) * 256)) (c : Int) = ((a * 256 + c : Nat) : Int) := by
  have h1 : IntKind.u64.wrap ((a : Int) * 256) = (a : Int) * 256 := wraps_u64 _ (by omega) (by omega)
  rw [h1, bits_join .u64 64 (by decide) wraps_u64 8 ((a : Int) * 256) (c : Int) (by omega) (by omega) (by omega) (by omega) (by omega) (by omega)]
  omega

/-- What TakeEight tells. -/
def te (bs : List UInt8) : Nat × Nat := if bs.length < 8 then (0, 2) else (n8 (bs.take 8), 0)

set_option maxRecDepth 100000 in
set_option maxHeartbeats 400000 in
theorem takeEight_any (ao : Option Addr) (n cap : Nat) (bs : List UInt8) (w : World) (h : Rd w ao n cap bs) :
    Calls Try.prog 9 #[.slice ao n cap] w fun e w' => e = .returned (.tuple #[.int .u64 ((te bs).1 : Int), .int .i64 ((te bs).2 : Int)]) ∧ w = w' := by
  have hmax := h.max
  have hle := h.le
  have hlen := h.len
  unfold maxLen at hmax
  have HL : Hid (bs.length = n) := hlen
  clear hlen
  by_cases h8 : n < 8
  · have HT : Hid (te bs = (0, 2)) := by unfold Hid te; rw [if_pos (by rw [HL.out]; exact h8)]
    go_enter Try.func9, Try.ntmps9
    go_wp2
    go_ret2
    exact ⟨by rw [HT.out]; rfl, rfl⟩
  · have HT : Hid (te bs = (n8 (bs.take 8), 0)) := by unfold Hid te; rw [if_neg (by rw [HL.out]; exact h8)]
    obtain ⟨b, off, rfl, hkl, hc0⟩ := h.at (show 0 < n by omega)
    clear hkl hc0
    go_enter Try.func9, Try.ntmps9
    go_wp2_with fail
    go_loop [2, 12] (fun v i => ∃ (k : Nat), k ≤ 8 ∧ i = .int .i64 (k : Int) ∧ v = .int .u64 (n8 (bs.take k) : Int))
      (fun _ i => 8 - (intOf i).toNat)
    case atStart => exact ⟨0, by omega, rfl, rfl⟩
    case round =>
      obtain ⟨k, hk, rfl, rfl⟩ := hrel
      by_cases hlt : k < 8
      · obtain ⟨b', off', hbo, hkl, hc⟩ := h.at (show k < n by omega)
        obtain ⟨rfl, rfl⟩ : b = b' ∧ off = off' := by simpa using hbo
        have hst : n8 (bs.take (k + 1)) = n8 (bs.take k) * 256 + bs[k].toNat := by rw [List.take_succ_eq_append_getElem hkl, n8_snoc]
        have hac := n8_lt (bs.take k)
        have hkk : (bs.take k).length = k := by simp; omega
        rw [hkk] at hac
        have hp : 256 ^ k ≤ 256 ^ 7 := Nat.pow_le_pow_right (by decide) (by omega)
        have hc256 : bs[k].toNat < 256 := bs[k].toNat_lt
        generalize bs[k].toNat = c at hc hst hc256
        generalize n8 (bs.take k) = acc at hac hst
        have hor := or_low acc c (by omega) hc256
        have HO : Hid _ := hor
        have HS : Hid _ := hst
        clear hor hst hac hkk hp hkl hbo
        go_wp2
        go_round
        case rel => exact ⟨k + 1, by omega, by go_num, by rw [HS.out, HO.out]⟩
        case measure => simp [intOf]; omega
      · obtain rfl : k = 8 := by omega
        go_wp2
        go_ret2
        exact ⟨by rw [HT.out]; rfl, rfl⟩

set_option maxRecDepth 100000 in
set_option maxHeartbeats 400000 in
theorem text_any (ao : Option Addr) (n cap : Nat) (bs : List UInt8) (so : Option Addr) (m scap : Nat) (ss : List UInt8) (w : World) (h : Rd w ao n cap bs) (hs : Rd w so m scap ss) (hn : n ≤ 1099511627776) (hm : m ≤ 1099511627776) :
    Calls Try.prog 6 #[.slice ao n cap, .slice so m scap] w fun e w' => ∃ g cap', e = .returned (.slice (some ⟨g, 0, none⟩) (n + (Lib.uvarint m).length + m) cap') ∧ Own 5 w.heap.size w' g (n + (Lib.uvarint m).length + m) cap' (bs ++ Lib.uvarint m ++ ss) ∧ Below w.heap.size w w' := by
  obtain ⟨i5, hi, hz0, hz1, hz2⟩ := info_parts Try.info5
  have hlen := Lib.uvarint_length64 (x := m) (by omega)
  go_enter Try.func6, Try.ntmps6
  go_wp2_with fail
  refine (var_any ao n cap bs m w h hn (by omega)).mono ?_
  rintro e w1 ⟨g, cap1, rfl, ho, hb⟩
  have hs1 := hs.below hb (Nat.le_refl _)
  have hsz := hb.size
  go_wp2_with (at_builtin; refine wpList_append_bytes (P := Try.prog) _ (by rfl) _ _ 23 23 (by rfl) 5 i5 Try.underlying23 hi hz0 hz1 hz2 w.heap.size (by omega) (by rfl) ho.app ss (by rfl) (hs1.src _ Try.underlying23) (.inr ⟨g, rfl, ho⟩) (by omega) ?_; intro g2 cap2 w2 ho2 hb2 hg2 hw2)
  go_ret
  exact ⟨g2, cap2, rfl, ho2, hb.trans hb2⟩
end Go.Proofs.Ytcbpicioljiidab
