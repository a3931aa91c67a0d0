/- The walks of the document's Less and of the law's alike. No condition but that what comes in can be read. -/
import Derived.Test.YtahfaeamjbcepaaGreatDoorHas
import Derived.BigQuiet
import Derived.Deep.QuietTactic
namespace Go.Proofs.YtahfaeamjbcepaaGreatDoor
open Go.RowKit

theorem lt_at : ∀ (i : Nat) (x y : List UInt8) (a b : UInt8), (∀ j, j < i → x[j]? = y[j]?) → x[i]? = some a → y[i]? = some b → a ≠ b → (x < y ↔ a < b)
  | 0, x, y, a, b, _, hx, hy, hne => by
    cases x with
    | nil => simp at hx
    | cons c x =>
      cases y with
      | nil => simp at hy
      | cons d y =>
        simp at hx hy
        subst hx hy
        rw [List.cons_lt_cons_iff]
        simp [hne]
  | i + 1, x, y, a, b, h, hx, hy, hne => by
    cases x with
    | nil => simp at hx
    | cons c x =>
      cases y with
      | nil => simp at hy
      | cons d y =>
        have h0 := h 0 (by omega)
        simp at h0
        subst h0
        rw [List.cons_lt_cons_iff]
        have ih := lt_at i x y a b (fun j hj => by have := h (j + 1) (by omega); simpa using this) (by simpa using hx) (by simpa using hy) hne
        simp [UInt8.lt_irrefl, ih]

theorem lt_end : ∀ (x y : List UInt8), (∀ j, j < x.length → j < y.length → x[j]? = y[j]?) → (x < y ↔ x.length < y.length)
  | [], [], _ => by simp
  | [], _ :: _, _ => by simp
  | _ :: _, [], _ => by simp
  | c :: x, d :: y, h => by
    have h0 := h 0 (by simp) (by simp)
    simp at h0
    subst h0
    have ih := lt_end x y (fun j hj hj' => by have := h (j + 1) (by simpa using hj) (by simpa using hj'); simpa using this)
    rw [List.cons_lt_cons_iff]
    simp [UInt8.lt_irrefl, ih]

theorem str_at {s : List UInt8} {j : Nat} {a : UInt8} (h : s[j]? = some a) (w : World) : (Instr.index 9 (.string ⟨s.toArray⟩) (.int .i64 (j : Int))).run Tryz.prog w = .ok (.int .u8 (a.toNat : Int)) w := by
  obtain ⟨hj, rfl⟩ := List.getElem?_eq_some_iff.1 h
  rw [run_index_string w 9 _ .i64 _ Tryz.underlying9, dif_pos ⟨by omega, by simp [ByteArray.size]; omega⟩]
  rfl

set_option maxRecDepth 100000 in
theorem rless_draws (x y : List UInt8) (w : World) (hx : x.length ≤ 1000000000) (_hy : y.length ≤ 1000000000) :
    Calls Tryz.prog 16 #[tx x, tx y] w fun e w' => e = .returned (.bool (decide (x < y))) ∧ ∃ q, w' = w.drewN q := by
  have hsx : (ByteArray.mk x.toArray).size = x.length := by simp [ByteArray.size]
  have hsy : (ByteArray.mk y.toArray).size = y.length := by simp [ByteArray.size]
  obtain ⟨r, HR⟩ : ∃ r, Hid (decide (x < y) = r) := ⟨_, rfl⟩
  rw [HR.out]
  unfold tx
  go_enter Tryz.func16, Tryz.ntmps16
  go_wp2_with fail
  go_loopw [5] (fun s5 wr => ∃ k : Nat, k ≤ x.length ∧ k ≤ y.length ∧ s5 = .int .i64 (k : Int) ∧ (∀ j, j < k → x[j]? = y[j]?) ∧ ∃ q, wr = w.drewN q) (fun s5 _ => x.length - (intOf s5).toNat)
  case atStart => exact ⟨0, Nat.zero_le _, Nat.zero_le _, rfl, fun j hj => absurd hj (Nat.not_lt_zero _), 0, rfl⟩
  case round =>
    obtain ⟨k, hkx, hky, rfl, hall, q, rfl⟩ := hrel
    by_cases hlx : k < x.length
    · have dx : decide ((k : Int) < (x.length : Int)) = true := by simpa using hlx
      by_cases hly : k < y.length
      · have dy : decide ((k : Int) < (y.length : Int)) = true := by simpa using hly
        obtain ⟨a, ha⟩ : ∃ a, x[k]? = some a := ⟨_, List.getElem?_eq_getElem hlx⟩
        obtain ⟨b, hb⟩ : ∃ b, y[k]? = some b := ⟨_, List.getElem?_eq_getElem hly⟩
        have ix := fun w => str_at ha w
        have iy := fun w => str_at hb w
        by_cases hab : a = b
        · subst hab
          have HA : Hid (∀ j, j < k + 1 → x[j]? = y[j]?) := fun j hj => by
            by_cases e : j = k
            · subst e; rw [ha, hb]
            · exact hall j (by omega)
          have hne : ((a.toNat : Int) != (a.toNat : Int)) = false := by simp
          clear hall ha hb
          go_wp2_with fail
          go_quiet (fail)
          go_wp2_with fail
          go_roundw
          case measure => simp [intOf]; omega
          case rel => exact ⟨k + 1, by omega, by omega, rfl, HA.out, _, rfl⟩
        · have hlt := lt_at k x y a b hall ha hb hab
          have hnn : a.toNat ≠ b.toNat := fun e => hab (UInt8.toNat_inj.1 e)
          have hne : ((a.toNat : Int) != (b.toNat : Int)) = true := by simp; omega
          have HRR : Hid (decide (a.toNat < b.toNat) = r) := by
            rw [← HR.out]
            refine decide_eq_decide.2 ?_
            rw [hlt, UInt8.lt_iff_toNat_lt]
          clear hall ha hb hlt hab hnn
          go_wp2_with fail
          go_quiet (fail)
          go_wp2_with fail
          go_quiet (fail)
          go_wp2_with fail
          go_ret
          exact ⟨ret_bool HRR.out, _, (by rw [World.drewN_drewN, World.drewN_drewN])⟩
      · have dy : decide ((k : Int) < (y.length : Int)) = false := by simp; omega
        have HRR : Hid (decide (x.length < y.length) = r) := by
          rw [← HR.out]
          exact decide_eq_decide.2 (lt_end x y (fun j hj hj' => hall j (by omega))).symm
        clear hall
        go_wp2_with fail
        go_ret
        exact ⟨ret_bool HRR.out, q, rfl⟩
    · have dx : decide ((k : Int) < (x.length : Int)) = false := by simp; omega
      have HRR : Hid (decide (x.length < y.length) = r) := by
        rw [← HR.out]
        exact decide_eq_decide.2 (lt_end x y (fun j hj hj' => hall j (by omega))).symm
      clear hall
      go_wp2_with fail
      go_ret
      exact ⟨ret_bool HRR.out, q, rfl⟩

theorem rless_any (x y : List UInt8) (w : World) (hx : x.length ≤ 1000000000) (hy : y.length ≤ 1000000000) :
    Calls Tryz.prog 16 #[tx x, tx y] w fun e w' => e = .returned (.bool (decide (x < y))) ∧ Below w.heap.size w w' :=
  (rless_draws x y w hx hy).mono (by rintro e w' ⟨rfl, q, rfl⟩; exact ⟨rfl, bel_drewN (Below.refl _ _) q⟩)

set_option maxRecDepth 100000 in
theorem alike_any (ao : Option Addr) (n cap : Nat) (ss : List (List UInt8)) (ao' : Option Addr) (n' cap' : Nat) (tt : List (List UInt8)) (w : World) (hR : SR w ao n cap ss) (hR' : SR w ao' n' cap' tt) (hn : n ≤ 1000000000) (hn' : n' ≤ 1000000000) :
    Calls Tryz.prog 10 #[.slice ao n cap, .slice ao' n' cap'] w fun e w' => e = .returned (.bool (decide (ss = tt))) ∧ Below w.heap.size w w' := by
  obtain ⟨r, HR⟩ : ∃ r, Hid (decide (ss = tt) = r) := ⟨_, rfl⟩
  rw [HR.out]
  have HL : Hid (ss.length = n) := hR.len
  have HL' : Hid (tt.length = n') := hR'.len
  by_cases hnn : n = n'
  · subst hnn
    have d : ((n : Int) != (n : Int)) = false := by simp
    go_enter Tryz.func10, Tryz.ntmps10
    go_wp2_with fail
    go_loopw [5] (fun s5 wr => ∃ k : Nat, k ≤ n ∧ s5 = .int .i64 (k : Int) ∧ (∀ j, j < k → ss[j]? = tt[j]?) ∧ Below w.heap.size w wr) (fun s5 _ => n - (intOf s5).toNat)
    case atStart => exact ⟨0, Nat.zero_le _, rfl, fun j hj => absurd hj (Nat.not_lt_zero _), Below.refl _ _⟩
    case round =>
      obtain ⟨k, hk, rfl, hall, bel⟩ := hrel
      by_cases hlt : k < n
      · have hd : decide ((k : Int) < (n : Int)) = true := by simpa using hlt
        obtain ⟨s, hs⟩ : ∃ s, ss[k]? = some s := ⟨_, List.getElem?_eq_getElem (by rw [HL.out]; exact hlt)⟩
        obtain ⟨t, ht⟩ : ∃ t, tt[k]? = some t := ⟨_, List.getElem?_eq_getElem (by rw [HL'.out]; exact hlt)⟩
        obtain ⟨b, off, rfl, hbl, hcell⟩ := (hR.on bel).cells k s hs
        obtain ⟨b', off', rfl, hbl', hcell'⟩ := (hR'.on bel).cells k t ht
        unfold tx at hcell hcell'
        by_cases hst : s = t
        · subst hst
          have HA : Hid (∀ j, j < k + 1 → ss[j]? = tt[j]?) := fun j hj => by
            by_cases e : j = k
            · subst e; rw [hs, ht]
            · exact hall j (by omega)
          clear hall hs ht hR hR'
          go_wp2_with fail
          go_quiet (fail)
          go_wp2_with fail
          go_roundw
          case measure => simp [intOf]; omega
          case rel => exact ⟨k + 1, by omega, rfl, HA.out, bel_drewN bel _⟩
        · have hbq : (s == t) = false := beq_eq_false_iff_ne.2 hst
          have hbn : (s != t) = true := by simpa using hst
          have HRR : Hid (false = r) := by
            rw [← HR.out]
            refine Eq.symm (decide_eq_false (fun e => hst ?_))
            subst e
            rw [hs] at ht
            cases ht
            rfl
          clear hall hs ht hR hR' hst
          go_wp2_with fail
          go_quiet (fail)
          go_wp2_with fail
          go_ret
          exact ⟨ret_bool HRR.out, bel_drewN bel _⟩
      · have hke : k = n := by omega
        subst hke
        have hd : decide ((k : Int) < (k : Int)) = false := by simp
        have HRR : Hid (true = r) := by
          rw [← HR.out]
          refine Eq.symm (decide_eq_true (List.ext_getElem? (fun j => ?_)))
          by_cases hj : j < k
          · exact hall j hj
          · rw [List.getElem?_eq_none (by rw [HL.out]; omega), List.getElem?_eq_none (by rw [HL'.out]; omega)]
        clear hall hR hR'
        go_wp2_with fail
        go_ret
        exact ⟨ret_bool HRR.out, bel⟩
  · have d : ((n : Int) != (n' : Int)) = true := by simp; omega
    have HRR : Hid (false = r) := by
      rw [← HR.out]
      refine Eq.symm (decide_eq_false (fun e => hnn ?_))
      rw [← HL.out, ← HL'.out, e]
    clear hR hR' hnn
    go_enter Tryz.func10, Tryz.ntmps10
    go_wp2_with fail
    go_ret
    exact ⟨ret_bool HRR.out, Below.refl _ _⟩
end Go.Proofs.YtahfaeamjbcepaaGreatDoor
