/- The walks of octet.tight and octet.Var: Var lays, in new memory, the bytes that it was given and the varint behind them. No condition but that what was given can be read and is no longer than 2^40. -/
import Derived.Test.YtkbpmpcbajnmlaaDoorProg
import Derived.Test.YtkbpmpcbajnmlaaDoorKit
import Derived.WalkKit
import Derived.WalkSpells
import Derived.WalkLawsBesides
import Derived.Lib.VarintBits
namespace Go.Proofs.YtkbpmpcbajnmlaaDoor
open Go.RowKit

theorem Tryd.info5 : (Tryd.prog.info? 5).map (fun i => (i.zero, i.size, i.bytes)) = some (some (.int .u8 0), 1, 1) := by kernel_rfl

set_option maxHeartbeats 400000 in
theorem tight_any (ao : Option Addr) (n cap : Nat) (bs : List UInt8) (w : World) (h : Rd w ao n cap bs) :
    Calls Tryd.prog 93 #[.slice ao n cap] w fun e w' => e = .returned (.slice ao n n) ∧ w = w' := by
  have hle := h.le
  by_cases h0 : n = 0
  · subst h0
    go_enter Tryd.func93, Tryd.ntmps93
    go_wp2
    go_ret
    exact ⟨rfl, rfl⟩
  · go_enter Tryd.func93, Tryd.ntmps93
    go_wp2
    go_ret
    refine ⟨?_, rfl⟩
    cases ao <;> simp

theorem vb_or (y : Nat) (h : y < 18446744073709551616) : bits .or .u64 (bits .and .u64 (y : Int) 127) 128 % 256 = (((y % 128 + 128).toUInt8.toNat : Nat) : Int) := by
  have h1 : bits .and .u64 (y : Int) 127 = ((y % 128 : Nat) : Int) := by
    have := bits_mask .u64 64 (by decide) wraps_u64 7 (by decide) (y : Int) (by omega) (by omega)
    rw [show ((2 : Int) ^ 7 - 1) = 127 from rfl] at this
    rw [this]; omega
  have h2 : bits .or .u64 ((y % 128 : Nat) : Int) 128 = ((y % 128 : Nat) : Int) + 128 :=
    u64_orv7 _ _ (by omega) (by omega) (by omega) (by omega) (by omega)
  rw [h1, h2]
  have h3 : (y % 128 + 128).toUInt8.toNat = (y % 128 + 128) % 256 := by simp
  rw [h3]; omega

theorem vb_last (y : Nat) : (y : Int) % 256 = ((y.toUInt8.toNat : Nat) : Int) := by
  have h3 : y.toUInt8.toNat = y % 256 := by simp
  rw [h3]; omega

set_option maxRecDepth 100000 in
set_option maxHeartbeats 400000 in
theorem var_any (ao : Option Addr) (n cap : Nat) (bs : List UInt8) (x : Nat) (w : World) (h : Rd w ao n cap bs) (hn : n ≤ 1099511627776) (hx : x < 18446744073709551616) :
    Calls Tryd.prog 83 #[.slice ao n cap, .int .u64 (x : Int)] w fun e w' => ∃ g cap', e = .returned (.slice (some ⟨g, 0, none⟩) (n + (Lib.uvarint x).length) cap') ∧ Own 5 w.heap.size w' g (n + (Lib.uvarint x).length) cap' (bs ++ Lib.uvarint x) ∧ Below w.heap.size w w' := by
  obtain ⟨i5, hi, hz0, hz1, hz2⟩ := info_parts Tryd.info5
  have hlen := Lib.uvarint_length64 hx
  go_enter Tryd.func83, Tryd.ntmps83
  go_wp2_with (go_at_call 93; refine (tight_any _ _ _ bs _ h).mono ?_; rintro e w' ⟨rfl, rfl⟩)
  go_loopw [1, 5] (fun v out wr => ∃ (y : Nat) (ao' : Option Addr) (cap' : Nat) (ks : List UInt8), v = .int .u64 (y : Int) ∧ out = .slice ao' (n + ks.length) cap' ∧ App 5 w.heap.size wr ao' (n + ks.length) cap' (bs ++ ks) ∧ ks ++ Lib.uvarint y = Lib.uvarint x ∧ y ≤ x ∧ Below w.heap.size w wr)
    (fun v _ _ => (intOf v).toNat)
  case atStart => exact ⟨x, ao, n, [], rfl, rfl, ⟨by simpa using ⟨h.len, Nat.le_refl _, Nat.le_trans h.le h.max, (fun h0 => by have := h.nil h0; have := h.le; omega), h.cells⟩, .inl rfl⟩, rfl, Nat.le_refl _, Below.refl _ _⟩
  case round =>
    obtain ⟨y, ao', cap', ks, rfl, rfl, hA, hk, hy, hb⟩ := hrel
    have hkl : ks.length ≤ 10 := by rw [← hk] at hlen; simp at hlen; omega
    have hsz := hb.size
    have HK : Hid (ks ++ Lib.uvarint y = Lib.uvarint x) := hk
    clear hk hlen
    by_cases hlt : 128 ≤ y
    · go_wp2_with (at_builtin; refine wpList_append_bytes (P := Tryd.prog) _ (by rfl) _ _ 22 22 (by rfl) 5 i5 Tryd.underlying22 hi hz0 hz1 hz2 w.heap.size (by simp; omega) (by rfl) (hA.alloc _) [(y % 128 + 128).toUInt8] (by rfl) (src_one _ Tryd.underlying22 _ _ _ (by simp [vb_or y (by omega)])) (.inl (by omega)) (by omega) ?_; intro g1 cap1 w1 ho1 hb1 hg1 hw1)
      go_roundw
      case rel =>
        refine ⟨y / 128, some ⟨g1, 0, none⟩, cap1, ks ++ [(y % 128 + 128).toUInt8], by go_num, by simp [Nat.add_assoc], ?_, ?_, by omega, (hb.alloc (by omega) _).trans hb1⟩
        · simpa [List.append_assoc, Nat.add_assoc] using ho1.app
        · rw [List.append_assoc, ← HK.out, Lib.uvarint_big hlt]; rfl
      case measure => simp [intOf]; omega
    · have hsm := Lib.uvarint_small (x := y) (by omega)
      have hux : Lib.uvarint x = ks ++ [y.toUInt8] := by rw [← HK.out, hsm]
      have HUX : Hid (Lib.uvarint x = ks ++ [y.toUInt8]) := hux
      clear hsm hux
      go_wp2_with (at_builtin; refine wpList_append_bytes (P := Tryd.prog) _ (by rfl) _ _ 22 22 (by rfl) 5 i5 Tryd.underlying22 hi hz0 hz1 hz2 w.heap.size (by simp; omega) (by rfl) (hA.alloc _) [y.toUInt8] (by rfl) (src_one _ Tryd.underlying22 _ _ _ (by simp; omega)) (.inl (by omega)) (by omega) ?_; intro g1 cap1 w1 ho1 hb1 hg1 hw1)
      go_ret
      rw [HUX.out]
      refine ⟨g1, cap1, by simp [Nat.add_assoc], by simpa [List.append_assoc, Nat.add_assoc] using ho1, (hb.alloc (by omega) _).trans hb1⟩

end Go.Proofs.YtkbpmpcbajnmlaaDoor

/- The walk of octet.TakeVar: what it tells is the function 'tv' of the bytes that it was given. No condition but that they can be read. -/
namespace Go.Proofs.YtkbpmpcbajnmlaaDoor
open Go.RowKit

/-- What TakeVar tells: the number, how many bytes it has, the error's number; i bytes are read, what they say is acc. -/
def tv (i acc : Nat) : List UInt8 → Nat × Nat × Nat
  | [] => (0, 0, 2)
  | c :: r => if i = 9 ∧ 1 < c.toNat then (0, 0, 4)
    else if 128 ≤ c.toNat then tv (i + 1) (acc + c.toNat % 128 * 2 ^ (7 * i)) r
    else if c.toNat = 0 ∧ 0 < i then (0, 0, 5) else (acc + c.toNat * 2 ^ (7 * i), i + 1, 0)

theorem or_step (k acc c : Nat) (hk : k ≤ 9) (hc : c < 256) (hacc : acc < 2 ^ (7 * k)) (h9 : k = 9 → c ≤ 1) :
    bits .or .u64 (acc : Int) (IntKind.u64.wrap (IntKind.u64.wrap (bits .and .u8 (c : Int) 127) * 2 ^ (7 * k))) = ((acc + c % 128 * 2 ^ (7 * k) : Nat) : Int) := by
  have h1 : bits .and .u8 (c : Int) 127 = ((c % 128 : Nat) : Int) := by rw [u8_and127 _ (by omega) (by omega)]; omega
  have h2 : IntKind.u64.wrap ((c % 128 : Nat) : Int) = ((c % 128 : Nat) : Int) := wraps_u64 _ (by omega) (by omega)
  have h3 : (((c % 128 : Nat) : Int)) * 2 ^ (7 * k) = ((c % 128 * 2 ^ (7 * k) : Nat) : Int) := by simp
  have hp : 2 ^ (7 * k) ≤ 2 ^ 63 := Nat.pow_le_pow_right (by decide) (by omega)
  have h4 : c % 128 * 2 ^ (7 * k) < 2 ^ 64 := by
    by_cases h : k = 9
    · have := Nat.mul_le_mul (show c % 128 ≤ 1 by have := h9 h; omega) hp
      omega
    · have hp' : 2 ^ (7 * k) ≤ 2 ^ 56 := Nat.pow_le_pow_right (by decide) (by omega)
      have := Nat.mul_le_mul (show c % 128 ≤ 127 by omega) hp'
      omega
  have h5 : IntKind.u64.wrap ((c % 128 * 2 ^ (7 * k) : Nat) : Int) = ((c % 128 * 2 ^ (7 * k) : Nat) : Int) := wraps_u64 _ (by omega) (by exact_mod_cast h4)
  rw [h1, h2, h3, h5]
  have h6 := bits_join_low .u64 64 (by decide) wraps_u64 (7 * k) (acc : Int) ((c % 128 * 2 ^ (7 * k) : Nat) : Int) (by omega) (by exact_mod_cast hacc) (by exact_mod_cast Nat.lt_of_lt_of_le hacc (Nat.le_trans hp (by decide)))
    (by omega) (by exact_mod_cast Nat.mul_mod_left _ _) (by exact_mod_cast h4)
  rw [h6]
  simp

theorem acc_step (k acc c : Nat) (hacc : acc < 2 ^ (7 * k)) : acc + c % 128 * 2 ^ (7 * k) < 2 ^ (7 * (k + 1)) := by
  have h1 : 2 ^ (7 * (k + 1)) = 128 * 2 ^ (7 * k) := by rw [Nat.mul_add, Nat.pow_add, Nat.mul_comm]
  have h2 := Nat.mul_le_mul_right (2 ^ (7 * k)) (show c % 128 ≤ 127 by omega)
  omega

theorem Rd.at {w : World} {ao : Option Addr} {n cap : Nat} {bs : List UInt8} (h : Rd w ao n cap bs) {k : Nat} (hk : k < n) :
    ∃ b off, ao = some ⟨b, off, none⟩ ∧ ∃ hk' : k < bs.length, w.cell? ⟨b, off + k, none⟩ = some (.int .u8 (bs[k].toNat : Int)) := by
  have hl := h.len
  cases ao with
  | none => have := h.nil rfl; have := h.le; omega
  | some a =>
    have h0 := h.cells a rfl 0 (bs[0]'(by omega)) (List.getElem?_eq_getElem _)
    have h1 := h.cells a rfl k (bs[k]'(by omega)) (List.getElem?_eq_getElem _)
    have h2 := World.cell?_spot h0
    obtain ⟨b, off, spot⟩ := a
    have h3 : spot = none := by simpa [Addr.add] using h2
    subst h3
    rw [Addr.add_lit] at h1
    exact ⟨b, off, rfl, by omega, h1⟩

set_option maxRecDepth 100000 in
set_option maxHeartbeats 400000 in
theorem takeVar_any (ao : Option Addr) (n cap : Nat) (bs : List UInt8) (w : World) (h : Rd w ao n cap bs) :
    Calls Tryd.prog 91 #[.slice ao n cap] w fun e w' => e = .returned (.tuple #[.int .u64 ((tv 0 0 bs).1 : Int), .int .i64 ((tv 0 0 bs).2.1 : Int), .int .i64 ((tv 0 0 bs).2.2 : Int)]) ∧ w = w' := by
  have hmax := h.max
  have hle := h.le
  have hlen := h.len
  unfold maxLen at hmax
  have HL : Hid (bs.length = n) := hlen
  clear hlen
  go_enter Tryd.func91, Tryd.ntmps91
  go_wp2_with fail
  go_loop [2, 9] (fun v i => ∃ (k acc : Nat), k ≤ n ∧ k ≤ 9 ∧ i = .int .i64 (k : Int) ∧ v = .int .u64 (acc : Int) ∧ acc < 2 ^ (7 * k) ∧ tv k acc (bs.drop k) = tv 0 0 bs)
    (fun _ i => n - (intOf i).toNat)
  case atStart => exact ⟨0, 0, Nat.zero_le _, Nat.zero_le _, rfl, rfl, by decide, rfl⟩
  case round =>
    obtain ⟨k, acc, hk, hk9, rfl, rfl, hacc, htv⟩ := hrel
    by_cases hlt : k < n
    · obtain ⟨b, off, rfl, hkl, hc⟩ := h.at hlt
      have hdr : bs.drop k = bs[k] :: bs.drop (k + 1) := List.drop_eq_getElem_cons hkl
      rw [hdr, tv] at htv
      generalize bs[k] = c at hc htv
      have hc256 : c.toNat < 256 := c.toNat_lt
      generalize c.toNat = c at hc htv hc256
      clear hdr hkl
      by_cases h1 : k = 9 ∧ 1 < c
      · rw [if_pos h1] at htv
        have HF : Hid ((0, 0, 4) = tv 0 0 bs) := htv
        clear htv
        obtain ⟨rfl, h1⟩ := h1
        go_wp2
        go_ret3
        exact ⟨by rw [← HF.out]; rfl, rfl⟩
      · rw [if_neg h1] at htv
        have hor := or_step k acc c hk9 hc256 hacc (by omega)
        have hac := acc_step k acc c hacc
        have HO : Hid _ := hor
        have HC : Hid _ := hac
        clear hor hac
        by_cases h2 : 128 ≤ c
        · rw [if_pos h2] at htv
          have HF : Hid _ := htv
          clear htv
          have hk8 : k < 9 := by omega
          clear h1
          go_wp2
          go_round
          case rel => exact ⟨k + 1, _, by omega, by omega, by go_num, by rw [HO.out], HC.out, HF.out⟩
          case measure => simp [intOf]; omega
        · rw [if_neg h2] at htv
          have hm : c % 128 = c := by omega
          by_cases h3 : c = 0 ∧ 0 < k
          · rw [if_pos h3] at htv
            have HF : Hid _ := htv
            obtain ⟨rfl, h4⟩ := h3
            clear htv hm h1 h2 hc256
            by_cases h6 : k = 9
            all_goals
              try subst h6
              go_wp2
              go_ret3
              exact ⟨by rw [← HF.out]; rfl, rfl⟩
          · rw [if_neg h3] at htv
            have HF : Hid _ := htv
            have HM : Hid _ := hm
            clear htv hm
            by_cases h6 : k = 9
            · subst h6
              have h7 : ¬ c = 0 := by omega
              clear h3
              go_wp2
              go_ret3
              refine ⟨?_, rfl⟩
              have e1 := HO.out
              rw [HM.out] at e1
              rw [← HF.out]
              simp at e1 ⊢
              exact e1
            · by_cases h7 : c = 0
              · subst h7
                obtain rfl : k = 0 := by omega
                have hc0 : w.cell? ⟨b, off, none⟩ = some (.int .u8 0) := by simpa using hc
                have h8 : (0 : Int) < (n : Int) := by omega
                clear hc h1 h2 h3 h6 hc256 hk hk9
                go_wp2
                go_ret3
                refine ⟨?_, rfl⟩
                have e1 := HO.out
                rw [← HF.out]
                simp at e1 ⊢
                exact e1
              · clear h3
                go_wp2
                go_ret3
                refine ⟨?_, rfl⟩
                have e1 := HO.out
                rw [HM.out] at e1
                rw [← HF.out]
                simp at e1 ⊢
                exact e1
    · have hd : bs.drop k = [] := List.drop_eq_nil_of_le (by rw [HL.out]; omega)
      rw [hd, tv] at htv
      have HF : Hid _ := htv
      clear htv hd
      go_wp2
      go_ret3
      exact ⟨by rw [← HF.out]; rfl, rfl⟩

end Go.Proofs.YtkbpmpcbajnmlaaDoor

/- The walks of octet.Eight, octet.TakeEight and octet.Text. No condition but that what is given can be read and is no longer than 2^40. -/
namespace Go.Proofs.YtkbpmpcbajnmlaaDoor
open Go.RowKit

/-- A number's eight bytes, the highest first. -/
def e8 (x : Nat) : List UInt8 := (List.range 8).map fun i => (x / 2 ^ (8 * (7 - i))).toUInt8

theorem e8_length (x : Nat) : (e8 x).length = 8 := by simp [e8]

theorem e8_step (x k : Nat) (hk : k < 8) : (e8 x).take (k + 1) = (e8 x).take k ++ [(x / 2 ^ (8 * (7 - k))).toUInt8] := by
  rw [List.take_succ_eq_append_getElem (by rw [e8_length]; exact hk)]
  congr 1
  simp [e8]

/-- The number that bytes are, the highest first. -/
def n8 (bs : List UInt8) : Nat := bs.foldl (fun v b => v * 256 + b.toNat) 0

theorem n8_snoc (bs : List UInt8) (b : UInt8) : n8 (bs ++ [b]) = n8 bs * 256 + b.toNat := by simp [n8]

theorem n8_lt (bs : List UInt8) : n8 bs < 256 ^ bs.length := by
  suffices ∀ (l : List UInt8) (a m : Nat), a < 256 ^ m → l.foldl (fun v b => v * 256 + b.toNat) a < 256 ^ (m + l.length) by
    have := this bs 0 0 (by decide)
    simpa [n8] using this
  intro l
  induction l with
  | nil => intro a m h; simpa using h
  | cons b l ih =>
    intro a m h
    have hb : b.toNat < 256 := b.toNat_lt
    have := ih (a * 256 + b.toNat) (m + 1) (by rw [Nat.pow_succ]; omega)
    simp only [List.foldl_cons, List.length_cons]
    rw [show m + (l.length + 1) = m + 1 + l.length by omega]
    exact this

theorem or_low (a c : Nat) (ha : a < 2 ^ 56) (hc : c < 256) : bits .or .u64 (IntKind.u64.wrap ((a : Int) * 256)) (c : Int) = ((a * 256 + c : Nat) : Int) := by
  have h1 : IntKind.u64.wrap ((a : Int) * 256) = (a : Int) * 256 := wraps_u64 _ (by omega) (by omega)
  rw [h1, bits_join .u64 64 (by decide) wraps_u64 8 ((a : Int) * 256) (c : Int) (by omega) (by omega) (by omega) (by omega) (by omega) (by omega)]
  omega

/-- What TakeEight tells. -/
def te (bs : List UInt8) : Nat × Nat := if bs.length < 8 then (0, 2) else (n8 (bs.take 8), 0)

set_option maxRecDepth 100000 in
set_option maxHeartbeats 400000 in
theorem text_any (ao : Option Addr) (n cap : Nat) (bs : List UInt8) (so : Option Addr) (m scap : Nat) (ss : List UInt8) (w : World) (h : Rd w ao n cap bs) (hs : Rd w so m scap ss) (hn : n ≤ 1099511627776) (hm : m ≤ 1099511627776) :
    Calls Tryd.prog 88 #[.slice ao n cap, .slice so m scap] w fun e w' => ∃ g cap', e = .returned (.slice (some ⟨g, 0, none⟩) (n + (Lib.uvarint m).length + m) cap') ∧ Own 5 w.heap.size w' g (n + (Lib.uvarint m).length + m) cap' (bs ++ Lib.uvarint m ++ ss) ∧ Below w.heap.size w w' := by
  obtain ⟨i5, hi, hz0, hz1, hz2⟩ := info_parts Tryd.info5
  have hlen := Lib.uvarint_length64 (x := m) (by omega)
  go_enter Tryd.func88, Tryd.ntmps88
  go_wp2_with fail
  refine (var_any ao n cap bs m w h hn (by omega)).mono ?_
  rintro e w1 ⟨g, cap1, rfl, ho, hb⟩
  have hs1 := hs.below hb (Nat.le_refl _)
  have hsz := hb.size
  go_wp2_with (at_builtin; refine wpList_append_bytes (P := Tryd.prog) _ (by rfl) _ _ 22 22 (by rfl) 5 i5 Tryd.underlying22 hi hz0 hz1 hz2 w.heap.size (by omega) (by rfl) ho.app ss (by rfl) (hs1.src _ Tryd.underlying22) (.inr ⟨g, rfl, ho⟩) (by omega) ?_; intro g2 cap2 w2 ho2 hb2 hg2 hw2)
  go_ret
  exact ⟨g2, cap2, rfl, ho2, hb.trans hb2⟩

end Go.Proofs.YtkbpmpcbajnmlaaDoor

/- Plain facts on varints, eights and hexadecimal digits: what was written is read. No condition but that numbers fit in 64 bits. -/
namespace Go.Proofs.YtkbpmpcbajnmlaaDoor
open Go.RowKit

theorem toU8 (x : Nat) (h : x < 256) : x.toUInt8.toNat = x := by simp; omega

/-- What was written is read, whatever stands behind. -/
theorem tv_uv (x : Nat) : ∀ (i acc : Nat) (rest : List UInt8), x * 2 ^ (7 * i) < 2 ^ 64 → (0 < i → 0 < x) → i ≤ 9 →
    tv i acc (Lib.uvarint x ++ rest) = (acc + x * 2 ^ (7 * i), i + (Lib.uvarint x).length, 0) := by
  induction x using Nat.strongRecOn with
  | _ x ih =>
    intro i acc rest hx hi h9
    have hp9 : i = 9 → x ≤ 1 := fun h => by subst h; omega
    by_cases hs : x < 128
    · rw [Lib.uvarint_small hs]
      have hc := toU8 x (by omega)
      simp only [List.cons_append, List.nil_append, List.length_cons, List.length_nil]
      rw [tv, hc, if_neg (by omega), if_neg (by omega), if_neg (by omega)]
    · rw [Lib.uvarint_big (by omega)]
      have hc := toU8 (x % 128 + 128) (by omega)
      simp only [List.cons_append, List.length_cons]
      have hpw : 2 ^ (7 * (i + 1)) = 128 * 2 ^ (7 * i) := by rw [Nat.mul_add, Nat.pow_add, Nat.mul_comm]
      have hdm : x = 128 * (x / 128) + x % 128 := by omega
      have hle : x / 128 * (128 * 2 ^ (7 * i)) + x % 128 * 2 ^ (7 * i) = x * 2 ^ (7 * i) := by
        rw [← Nat.mul_assoc, ← Nat.add_mul]
        congr 1
        omega
      rw [tv, hc, if_neg (by omega), if_pos (by omega), ih (x / 128) (by omega) (i + 1) _ rest (by rw [hpw]; omega) (by omega) (by omega), hpw]
      have : (x % 128 + 128) % 128 = x % 128 := by omega
      rw [this]
      simp only [Prod.mk.injEq, and_true]
      refine ⟨by omega, by omega⟩

theorem tv_back (x : Nat) (hx : x < 2 ^ 64) (rest : List UInt8) : tv 0 0 (Lib.uvarint x ++ rest) = (x, (Lib.uvarint x).length, 0) := by
  have := tv_uv x 0 0 rest (by simpa using hx) (by omega) (by omega)
  simpa using this

/-- No varint is the beginning of another one. -/
theorem uv_prefix (a b : Nat) (ha : a < 2 ^ 64) (hb : b < 2 ^ 64) (h : (Lib.uvarint b).take (Lib.uvarint a).length = Lib.uvarint a) : a = b := by
  have h1 := tv_back b hb []
  rw [List.append_nil] at h1
  have h2 := tv_back a ha ((Lib.uvarint b).drop (Lib.uvarint a).length)
  rw [show Lib.uvarint a ++ (Lib.uvarint b).drop (Lib.uvarint a).length = Lib.uvarint b by conv => lhs; arg 1; rw [← h]
                                                                                           exact List.take_append_drop _ _] at h2
  rw [h1] at h2
  simp at h2
  exact h2.1.symm

/-- Greater ones are not shorter. -/
theorem uv_mono (b : Nat) : ∀ a, a ≤ b → (Lib.uvarint a).length ≤ (Lib.uvarint b).length := by
  induction b using Nat.strongRecOn with
  | _ b ih =>
    intro a hab
    by_cases h : a < 128
    · rw [Lib.uvarint_small h]
      exact Lib.uvarint_pos b
    · rw [Lib.uvarint_big (x := a) (by omega), Lib.uvarint_big (x := b) (by omega), List.length_cons, List.length_cons]
      have := ih (b / 128) (by omega) (a / 128) (by omega)
      omega

end Go.Proofs.YtkbpmpcbajnmlaaDoor

/- The walk of octet.TakeText: what it tells is the function 'tt' of the bytes and the bound that it was given. No condition but that the bytes can be read and are no longer than 2^40. -/
namespace Go.Proofs.YtkbpmpcbajnmlaaDoor
open Go.RowKit

theorem tv_bounds (l : List UInt8) : ∀ (i acc : Nat), i ≤ 9 → acc < 2 ^ (7 * i) → (tv i acc l).1 < 2 ^ 64 ∧ (tv i acc l).2.1 ≤ i + l.length ∧ (tv i acc l).2.2 ≤ 5 := by
  induction l with
  | nil => intro i acc _ _; simp [tv]
  | cons c r ih =>
    intro i acc hi hacc
    have hc : c.toNat < 256 := c.toNat_lt
    rw [tv]
    by_cases h1 : i = 9 ∧ 1 < c.toNat
    · rw [if_pos h1]; simp
    · rw [if_neg h1]
      by_cases h2 : 128 ≤ c.toNat
      · rw [if_pos h2]
        have := ih (i + 1) _ (by omega) (acc_step i acc c.toNat hacc)
        simp only [List.length_cons]
        omega
      · rw [if_neg h2]
        by_cases h3 : c.toNat = 0 ∧ 0 < i
        · rw [if_pos h3]; simp
        · rw [if_neg h3]
          simp only [List.length_cons]
          refine ⟨?_, by omega, by omega⟩
          by_cases h9 : i = 9
          · subst h9
            omega
          · have h4 := acc_step i acc c.toNat hacc
            rw [show c.toNat % 128 = c.toNat by omega] at h4
            have h5 : 2 ^ (7 * (i + 1)) ≤ 2 ^ 63 := Nat.pow_le_pow_right (by decide) (by omega)
            omega

/-- What TakeText tells: the text, how many bytes it has with its length, the error's number. -/
def tt (bs : List UInt8) (most : Int) : List UInt8 × Nat × Nat :=
  if (tv 0 0 bs).2.2 ≠ 0 then ([], 0, (tv 0 0 bs).2.2)
  else if most.toNat < (tv 0 0 bs).1 then ([], 0, 3)
  else if bs.length - (tv 0 0 bs).2.1 < (tv 0 0 bs).1 then ([], 0, 2)
  else ((bs.drop (tv 0 0 bs).2.1).take (tv 0 0 bs).1, (tv 0 0 bs).2.1 + (tv 0 0 bs).1, 0)

theorem Tryd.info5t : (Tryd.prog.info? 5).map (fun i => (i.zero, i.size, i.bytes)) = some (some (.int .u8 0), 1, 1) := by kernel_rfl

theorem takeVar_at {ao : Option Addr} {n cap : Nat} {bs : List UInt8} {w : World} (h : Rd w ao n cap bs) {v hd er : Nat} (hr : tv 0 0 bs = (v, hd, er)) :
    Calls Tryd.prog 91 #[.slice ao n cap] w fun e w' => e = .returned (.tuple #[.int .u64 (v : Int), .int .i64 (hd : Int), .int .i64 (er : Int)]) ∧ w = w' := by
  have := takeVar_any ao n cap bs w h
  rw [hr] at this
  exact this

theorem res_nil (B : Nat) (w : World) : Res 5 B w none 0 0 [] := ⟨Rd.none' w none, .inl ⟨rfl, rfl, rfl⟩⟩

set_option maxRecDepth 100000 in
set_option maxHeartbeats 400000 in
theorem takeText_any (ao : Option Addr) (n cap : Nat) (bs : List UInt8) (most : Int) (w : World) (h : Rd w ao n cap bs) (hn : n ≤ 1099511627776) (hm0 : -9223372036854775808 ≤ most) (hm1 : most ≤ 9223372036854775807) :
    Calls Tryd.prog 78 #[.slice ao n cap, .int .i64 most] w fun e w' => ∃ ao' cap', e = .returned (.tuple #[.slice ao' (tt bs most).1.length cap', .int .i64 ((tt bs most).2.1 : Int), .int .i64 ((tt bs most).2.2 : Int)]) ∧
      Res 5 w.heap.size w' ao' (tt bs most).1.length cap' (tt bs most).1 ∧ Below w.heap.size w w' := by
  obtain ⟨i5, hi, hz0, hz1, hz2⟩ := info_parts Tryd.info5t
  have hle := h.le
  have hmax := h.max
  have hlen := h.len
  have hbd := tv_bounds bs 0 0 (by omega) (by decide)
  obtain ⟨v, hd, er, hr⟩ : ∃ v hd er, tv 0 0 bs = (v, hd, er) := ⟨_, _, _, rfl⟩
  have htt : tt bs most = if er ≠ 0 then ([], 0, er) else if most.toNat < v then ([], 0, 3) else if bs.length - hd < v then ([], 0, 2) else ((bs.drop hd).take v, hd + v, 0) := by unfold tt; rw [hr]
  generalize tt bs most = T at *
  rw [hr] at hbd
  simp only at hbd
  obtain ⟨hv, hhd, her⟩ := hbd
  have HR : Hid (tv 0 0 bs = (v, hd, er)) := hr
  have HL : Hid (bs.length = n) := hlen
  rw [hlen] at hhd htt
  clear hr hlen
  unfold maxLen at hmax
  by_cases c1 : er = 0
  · subst c1
    rw [if_neg (by simp)] at htt
    obtain ⟨M, hM0, hM, hMx⟩ : ∃ M : Nat, M ≤ 9223372036854775807 ∧ most.toNat = M ∧ ((0 ≤ most ∧ most = (M : Int)) ∨ (most < 0 ∧ M = 0)) := ⟨most.toNat, by omega, rfl, by omega⟩
    rw [hM] at htt
    clear hM
    by_cases c2 : M < v
    · rw [if_pos c2] at htt
      subst htt
      rcases hMx with ⟨_, rfl⟩ | ⟨hneg, rfl⟩
      all_goals
        go_enter Tryd.func78, Tryd.ntmps78
        go_wp2_with fail
        refine (takeVar_at h HR.out).mono ?_
        rintro e w1 ⟨rfl, rfl⟩
        go_wp2
        go_ret3
        exact ⟨none, 0, rfl, res_nil _ _, Below.refl _ _⟩
    · rw [if_neg c2] at htt
      by_cases c3 : n - hd < v
      · rw [if_pos c3] at htt
        subst htt
        rcases hMx with ⟨_, rfl⟩ | ⟨hneg, rfl⟩
        · go_enter Tryd.func78, Tryd.ntmps78
          go_wp2_with fail
          refine (takeVar_at h HR.out).mono ?_
          rintro e w1 ⟨rfl, rfl⟩
          go_wp2
          go_ret3
          exact ⟨none, 0, rfl, res_nil _ _, Below.refl _ _⟩
        · omega
      · rw [if_neg c3] at htt
        by_cases c4 : v = 0
        · subst c4
          simp only [List.take_zero, Nat.add_zero] at htt
          subst htt
          rcases hMx with ⟨_, rfl⟩ | ⟨hneg, rfl⟩
          all_goals
            go_enter Tryd.func78, Tryd.ntmps78
            go_wp2_with fail
            refine (takeVar_at h HR.out).mono ?_
            rintro e w1 ⟨rfl, rfl⟩
            go_wp2_with (at_builtin; refine wpList_append_none (P := Tryd.prog) _ (by rfl) _ _ 22 22 (by rfl) 5 5 i5 Tryd.underlying22 Tryd.underlying22 hi (by rfl) (by rfl) ?_)
            go_ret3
            exact ⟨none, 0, by simp, res_nil _ _, Below.refl _ _⟩
        · rcases hMx with ⟨_, rfl⟩ | ⟨hneg, rfl⟩
          · obtain ⟨b, off, rfl, hk0, hck⟩ := h.at (show 0 < n by omega)
            have hcut := h.cut w hd (hd + v - hd) (hd + v - hd) (by omega) (Nat.le_refl _) (by unfold maxLen; omega)
            have htl : T.1.length = v := by rw [htt]; simp [HL.out]; omega
            have HT : Hid (T = ((bs.drop hd).take v, hd + v, 0)) := htt
            have HTL : Hid (T.1.length = v) := htl
            clear htt htl hck hk0
            go_enter Tryd.func78, Tryd.ntmps78
            go_wp2_with fail
            refine (takeVar_at h HR.out).mono ?_
            rintro e w1 ⟨rfl, rfl⟩
            go_wp2_with (at_builtin; refine wpList_append_bytes (P := Tryd.prog) _ (by rfl) _ _ 22 22 (by rfl) 5 i5 Tryd.underlying22 hi hz0 hz1 hz2 w.heap.size (Nat.le_refl _) (by rfl) (App.nil 5 _ _) ((bs.drop hd).take (hd + v - hd)) (by rfl) (hcut.src _ Tryd.underlying22) (.inl (by omega)) (by omega) ?_; intro g1 cap1 w1 ho1 hb1 hg1 hw1)
            go_ret3
            rw [HTL.out]
            refine ⟨some ⟨g1, 0, none⟩, cap1, by rw [HT.out]; simp, ?_, hb1⟩
            rw [HT.out]
            simpa using ho1.res
          · omega
  · rw [if_pos c1] at htt
    subst htt
    go_enter Tryd.func78, Tryd.ntmps78
    go_wp2_with fail
    refine (takeVar_at h HR.out).mono ?_
    rintro e w1 ⟨rfl, rfl⟩
    go_wp2
    go_ret3
    exact ⟨none, 0, rfl, res_nil _ _, Below.refl _ _⟩

end Go.Proofs.YtkbpmpcbajnmlaaDoor
