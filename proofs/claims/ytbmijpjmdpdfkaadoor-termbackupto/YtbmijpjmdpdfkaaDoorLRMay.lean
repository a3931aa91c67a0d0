/- The walks of the document's args, Parts, whole and May. No condition but that what was given is a level in memory. -/
import Derived.Test.YtbmijpjmdpdfkaaDoorProg
import Derived.Test.YtbmijpjmdpdfkaaDoorNext
namespace Go.Proofs.YtbmijpjmdpdfkaaDoor
open Go.RowKit

set_option maxRecDepth 100000 in
theorem args_any (k : Int) (w : World) : Calls Tryd.prog 88 #[.int .i64 k] w fun e w' => e = .returned (.int .i64 (cnt k)) ∧ w = w' := by
  by_cases h0 : k = 0
  · subst h0
    go_enter Tryd.func88, Tryd.ntmps88
    go_wp2
    go_ret
    exact ⟨rfl, rfl⟩
  by_cases h4 : k = 4
  · subst h4
    go_enter Tryd.func88, Tryd.ntmps88
    go_wp2
    go_ret
    exact ⟨rfl, rfl⟩
  by_cases h1 : k = 1
  · subst h1
    go_enter Tryd.func88, Tryd.ntmps88
    go_wp2
    go_ret
    exact ⟨rfl, rfl⟩
  by_cases h2 : k = 2
  · subst h2
    go_enter Tryd.func88, Tryd.ntmps88
    go_wp2
    go_ret
    exact ⟨rfl, rfl⟩
  by_cases h3 : k = 3
  · subst h3
    go_enter Tryd.func88, Tryd.ntmps88
    go_wp2
    go_ret
    exact ⟨rfl, rfl⟩
  have hc : cnt k = -1 := by unfold cnt; rw [if_neg (by omega), if_neg h1, if_neg (by omega)]
  rw [hc]
  clear hc
  go_enter Tryd.func88, Tryd.ntmps88
  go_wp2
  go_ret
  exact ⟨rfl, rfl⟩

set_option maxRecDepth 100000 in
set_option maxHeartbeats 400000 in
theorem parts_node (k n : Int) (args : List Lv) (ih : ∀ L ∈ args, ∀ (most : Nat) (w : World) (B : Nat) (v : Value), most ≤ 1000 → B ≤ w.heap.size → In w (· < B) L v →
      Calls Tryd.prog 72 #[v, .int .i64 (most : Int)] w fun e w' => e = .returned (.int .i64 ((min L.size (most + 1) : Nat) : Int)) ∧ Below w.heap.size w w')
    (most : Nat) (w : World) (B : Nat) (a : Option Addr) (cap : Nat) (hm : most ≤ 1000) (hB : B ≤ w.heap.size) (hN : Node w (· < B) k n args a cap) :
    Calls Tryd.prog 72 #[.agg #[.int .i64 k, .int .i64 n, .slice a args.length cap], .int .i64 (most : Int)] w fun e w' => e = .returned (.int .i64 ((min (Lv.sizes args + 1) (most + 1) : Nat) : Int)) ∧ Below w.heap.size w w' := by
  have hle := hN.le
  have hmx := hN.max
  go_enter Tryd.func72, Tryd.ntmps72
  go_wp2
  go_loopw [5, 6] (fun x i wr => ∃ (c j : Nat), x = .int .i64 (c : Int) ∧ i = .int .i64 (j : Int) ∧ j ≤ args.length ∧ c = min (Lv.sizes (args.take j) + 1) (most + 1) ∧ Blk wr w.heap.size 58 [.int .i64 k, .int .i64 n, .slice a args.length cap] ∧ Below w.heap.size w wr) (fun _ i _ => args.length - (intOf i).toNat)
  case atStart => exact ⟨1, 0, rfl, rfl, by omega, by simp [Lv.sizes], Blk.new _ _ _, (Below.refl _ _).alloc (Nat.le_refl _) _⟩
  case round =>
    obtain ⟨c, j, rfl, rfl, hj, hc, hb, hbel⟩ := hrel
    have c2 := hb.cell (j := 2) rfl
    have HC : Hid (c = min (Lv.sizes (args.take j) + 1) (most + 1)) := hc
    have hc1 : c ≤ most + 1 := by omega
    have hc0 : 1 ≤ c := by omega
    clear hc
    by_cases hlt : j < args.length
    · by_cases hcm : c ≤ most
      · obtain ⟨L, hL⟩ : ∃ L, args[j]? = some L := ⟨_, List.getElem?_eq_getElem hlt⟩
        obtain ⟨b, off, k', n', args', a', cap', rfl, hS, rfl, e0, e1, e2, hN'⟩ := (hN.below hbel hB).get hL
        have HL : Hid (args[j]? = some (.mk k' n' args')) := hL
        clear hL
        have hsz : w.heap.size ≤ wr.heap.size := hbel.size
        go_wp2_with (go_at_call 72; rw [show ((most : Int) - (c : Int)) = ((most - c : Nat) : Int) by omega]; refine (ih _ (List.mem_of_getElem? HL.out) (most - c) wr B _ (by omega) (by omega) hN'.is).mono ?_; rintro e w' ⟨rfl, hb2⟩)
        go_roundw
        case rel =>
          have h1 := Lv.sizes_take HL.out
          have h2 := HC.out
          exact ⟨c + min (Lv.mk k' n' args').size (most - c + 1), j + 1, by go_num, by go_num, by omega, by omega, hb.below hb2 (hb.lt), hbel.trans (hb2.mono hsz)⟩
        case measure => simp [intOf]; omega
      · clear hN
        go_wp2_with fail
        go_ret
        have h3 := Lv.sizes_take_le args j
        have h2 := HC.out
        exact ⟨ret_int (by omega), hbel⟩
    · clear hN
      go_wp2_with fail
      go_ret
      have h2 := HC.out
      rw [List.take_of_length_le (by omega)] at h2
      exact ⟨ret_int (by omega), hbel⟩

theorem parts_any (L : Lv) : ∀ (most : Nat) (w : World) (B : Nat) (v : Value), most ≤ 1000 → B ≤ w.heap.size → In w (· < B) L v →
    Calls Tryd.prog 72 #[v, .int .i64 (most : Int)] w fun e w' => e = .returned (.int .i64 ((min L.size (most + 1) : Nat) : Int)) ∧ Below w.heap.size w w' := by
  refine Lv.ind (P := fun L => ∀ (most : Nat) (w : World) (B : Nat) (v : Value), most ≤ 1000 → B ≤ w.heap.size → In w (· < B) L v →
    Calls Tryd.prog 72 #[v, .int .i64 (most : Int)] w fun e w' => e = .returned (.int .i64 ((min L.size (most + 1) : Nat) : Int)) ∧ Below w.heap.size w w') ?_ L
  intro k n args ih most w B v hm hB hin
  obtain ⟨a, cap, rfl, hN⟩ := hin.node
  rw [Lv.size_mk]
  exact parts_node k n args ih most w B a cap hm hB hN

set_option maxRecDepth 100000 in
set_option maxHeartbeats 1000000 in
theorem whole_node (k n p : Int) (args : List Lv) (d : Nat) (hd : d ≤ 33)
    (ih : ∀ L ∈ args, ∀ (w : World) (B : Nat) (v : Value), d + 1 ≤ 33 → B ≤ w.heap.size → In w (· < B) L v →
      Calls Tryd.prog 73 #[v, .int .i64 p, .int .i64 ((d + 1 : Nat) : Int)] w fun e w' => e = .returned (.bool (L.ok p 32 (d + 1))) ∧ Below w.heap.size w w')
    (w : World) (B : Nat) (a : Option Addr) (cap : Nat) (hB : B ≤ w.heap.size) (hN : Node w (· < B) k n args a cap) :
    Calls Tryd.prog 73 #[.agg #[.int .i64 k, .int .i64 n, .slice a args.length cap], .int .i64 p, .int .i64 (d : Int)] w fun e w' => e = .returned (.bool ((Lv.mk k n args).ok p 32 d)) ∧ Below w.heap.size w w' := by
  have hle := hN.le
  have hmx := hN.max
  have hk0 := hN.k0
  have hk1 := hN.k1
  have hn0 := hN.n0
  have hn1 := hN.n1
  by_cases hd32 : d ≤ 32
  · have hd' : decide ((32 : Int) < (d : Int)) = false := by simp; omega
    by_cases hc : cnt k = args.length
    · by_cases hnum : numB p k n = true
      · have hcase : (k = 4 ∧ 0 ≤ n ∧ n < p) ∨ (k ≠ 4 ∧ n = 0) := by
          unfold numB at hnum
          by_cases h4 : k = 4
          · rw [if_pos h4] at hnum; exact .inl ⟨h4, by simpa using hnum⟩
          · rw [if_neg h4] at hnum; exact .inr ⟨h4, by simpa using hnum⟩
        have HR : Hid ((Lv.mk k n args).ok p 32 d = Lv.oks p 32 (d + 1) args) := by show _ = _; rw [Lv.ok_mk]; simp [hc, hnum]; omega
        clear hnum
        have hcc : (cnt k != (args.length : Int)) = false := by rw [hc]; simp
        rcases hcase with ⟨rfl, hlo, hhi⟩ | ⟨h4, rfl⟩
        all_goals
          go_enter Tryd.func73, Tryd.ntmps73
          go_wp2_with fail
          go_quiet ((go_at_call 88; exact Calls.quiet_of_same ((args_any _ _).mono fun e w' ⟨h1, h2⟩ => ⟨h1, h2.symm⟩)))
          clear hd' hcc hc
          go_wp2_with fail
          go_loopw [7] (fun i wr => ∃ (j : Nat), i = .int .i64 (j : Int) ∧ j ≤ args.length ∧ Lv.oks p 32 (d + 1) (args.take j) = true ∧ Blk wr w.heap.size 58 [.int .i64 _, .int .i64 _, .slice a args.length cap] ∧ Below w.heap.size w wr) (fun i _ => args.length - (intOf i).toNat)
          case atStart => exact ⟨0, rfl, by omega, by simp [Lv.oks], (Blk.new _ _ _).drewN _, bel_drewN ((Below.refl _ _).alloc (Nat.le_refl _) _) _⟩
          case round =>
            obtain ⟨j, rfl, hj, hok, hb, hbel⟩ := hrel
            have c2 := hb.cell (j := 2) rfl
            have HO : Hid (Lv.oks p 32 (d + 1) (args.take j) = true) := hok
            clear hok
            have hsz : w.heap.size ≤ wr.heap.size := hbel.size
            by_cases hlt : j < args.length
            · obtain ⟨L, hL⟩ : ∃ L, args[j]? = some L := ⟨_, List.getElem?_eq_getElem hlt⟩
              obtain ⟨b, off, k', n', args', a', cap', rfl, hS, rfl, e0, e1, e2, hN'⟩ := (hN.below hbel hB).get hL
              have HL : Hid (args[j]? = some (.mk k' n' args')) := hL
              clear hL
              by_cases hw : (Lv.mk k' n' args').ok p 32 (d + 1) = true
              · go_wp2_with (go_at_call 73; rw [show ((d : Int) + 1) = ((d + 1 : Nat) : Int) by omega]; refine (ih _ (List.mem_of_getElem? HL.out) wr B _ (by omega) (by omega) hN'.is).mono ?_; rintro e w' ⟨rfl, hb2⟩)
                go_roundw
                case rel => exact ⟨j + 1, by go_num, by omega, Lv.oks_take_succ HL.out HO.out hw, hb.below hb2 hb.lt, hbel.trans (hb2.mono hsz)⟩
                case measure => simp [intOf]; omega
              · have hw' : (Lv.mk k' n' args').ok p 32 (d + 1) = false := by simpa using hw
                clear hw
                go_wp2_with (go_at_call 73; rw [show ((d : Int) + 1) = ((d + 1 : Nat) : Int) by omega]; refine (ih _ (List.mem_of_getElem? HL.out) wr B _ (by omega) (by omega) hN'.is).mono ?_; rintro e w' ⟨rfl, hb2⟩)
                go_ret
                exact ⟨ret_bool (by rw [HR.out, Lv.oks_false HL.out hw']), hbel.trans (hb2.mono hsz)⟩
            · clear hN
              go_wp2_with fail
              go_ret
              have h2 := HO.out
              rw [List.take_of_length_le (by omega)] at h2
              exact ⟨ret_bool (by rw [HR.out, h2]), hbel⟩
      · have HR : Hid ((Lv.mk k n args).ok p 32 d = false) := by show _ = _; rw [Lv.ok_mk]; simp [hnum]
        have hcase : (k = 4 ∧ n < 0) ∨ (k = 4 ∧ ¬ n < 0 ∧ p ≤ n) ∨ (k ≠ 4 ∧ (k != 4) = true ∧ (n != 0) = true) := by
          unfold numB at hnum
          by_cases h4 : k = 4
          · rw [if_pos h4] at hnum; simp at hnum; omega
          · rw [if_neg h4] at hnum; exact .inr (.inr ⟨h4, by simpa using h4, by simpa using hnum⟩)
        clear hnum
        have hcc : (cnt k != (args.length : Int)) = false := by rw [hc]; simp
        rcases hcase with ⟨rfl, hlo⟩ | ⟨rfl, hlo, hhi⟩ | ⟨h4, h4', hn⟩
        all_goals
          go_enter Tryd.func73, Tryd.ntmps73
          go_wp2_with fail
          go_quiet ((go_at_call 88; exact Calls.quiet_of_same ((args_any _ _).mono fun e w' ⟨h1, h2⟩ => ⟨h1, h2.symm⟩)))
          go_wp2_with fail
          go_ret
          exact ⟨ret_bool HR.out.symm, bel_drewN ((Below.refl _ _).alloc (Nat.le_refl _) _) _⟩
    · have HR : Hid ((Lv.mk k n args).ok p 32 d = false) := by show _ = _; rw [Lv.ok_mk]; simp [hc]
      go_enter Tryd.func73, Tryd.ntmps73
      go_wp2_with fail
      go_quiet ((go_at_call 88; exact Calls.quiet_of_same ((args_any _ _).mono fun e w' ⟨h1, h2⟩ => ⟨h1, h2.symm⟩)))
      go_wp2_with fail
      go_ret
      exact ⟨ret_bool HR.out.symm, bel_drewN ((Below.refl _ _).alloc (Nat.le_refl _) _) _⟩
  · have HR : Hid ((Lv.mk k n args).ok p 32 d = false) := by show _ = _; rw [Lv.ok_mk]; simp; omega
    have hd' : decide ((32 : Int) < (d : Int)) = true := by simp; omega
    go_enter Tryd.func73, Tryd.ntmps73
    go_wp2_with fail
    go_quiet (fail)
    go_wp2_with fail
    go_ret
    exact ⟨ret_bool HR.out.symm, bel_drewN ((Below.refl _ _).alloc (Nat.le_refl _) _) _⟩

theorem whole_any (p : Int) (L : Lv) : ∀ (d : Nat) (w : World) (B : Nat) (v : Value), d ≤ 33 → B ≤ w.heap.size → In w (· < B) L v →
    Calls Tryd.prog 73 #[v, .int .i64 p, .int .i64 (d : Int)] w fun e w' => e = .returned (.bool (L.ok p 32 d)) ∧ Below w.heap.size w w' := by
  refine Lv.ind (P := fun L => ∀ (d : Nat) (w : World) (B : Nat) (v : Value), d ≤ 33 → B ≤ w.heap.size → In w (· < B) L v →
    Calls Tryd.prog 73 #[v, .int .i64 p, .int .i64 (d : Int)] w fun e w' => e = .returned (.bool (L.ok p 32 d)) ∧ Below w.heap.size w w') ?_ L
  intro k n args ih d w B v hd hB hin
  obtain ⟨a, cap, rfl, hN⟩ := hin.node
  exact whole_node k n p args d hd (fun L hL w B v hd' hB hin => ih L hL (d + 1) w B v hd' hB hin) w B a cap hB hN

/-- May it be, as the document says? -/
def mayB (L : Lv) (params : Int) : Bool := decide (L.size ≤ 64) && L.ok (min (max params 0) 4) 32 1

set_option maxRecDepth 100000 in
theorem rmay_any (L : Lv) (params : Int) (w : World) (B : Nat) (v : Value) (hB : B ≤ w.heap.size) (hin : In w (· < B) L v) :
    Calls Tryd.prog 38 #[v, .int .i64 params] w fun e w' => e = .returned (.bool (mayB L params)) ∧ Below w.heap.size w w' := by
  obtain ⟨k, n, args⟩ := L
  obtain ⟨a, cap, rfl, hN⟩ := hin.node
  have hb0 : Below w.heap.size w (w.alloc (.cells #[.int .i64 k, .int .i64 n, .slice a args.length cap] 58)) := (Below.refl _ _).alloc (Nat.le_refl _) _
  have hin' := hin.below hb0 hB
  have hp := parts_any (Lv.mk k n args) 64 _ B _ (by omega) (by simp; omega) hin'
  by_cases h64 : (Lv.mk k n args).size ≤ 64
  · have HM : Hid (mayB (Lv.mk k n args) params = (Lv.mk k n args).ok (min (max params 0) 4) 32 1) := by show _ = _; unfold mayB; simp [h64]
    rw [show min (Lv.mk k n args).size (64 + 1) = (Lv.mk k n args).size by omega] at hp
    obtain ⟨q, HQ, hcase⟩ : ∃ q, Hid (min (max params 0) 4 = q) ∧ ((params < 0 ∧ q = 0) ∨ (0 ≤ params ∧ params ≤ 4 ∧ q = params) ∨ (4 < params ∧ 0 ≤ params ∧ q = 4)) := ⟨_, rfl, by omega⟩
    rw [HM.out, HQ.out]
    clear HM HQ
    rcases hcase with ⟨hl, rfl⟩ | ⟨hl, hu, rfl⟩ | ⟨hl, hu, rfl⟩
    all_goals
      go_enter Tryd.func38, Tryd.ntmps38
      go_wp2_with (first
        | (go_at_call 72; refine hp.mono ?_; rintro e w1 ⟨rfl, hb1⟩; have hc := (bcell hb1).1; have hsz : w.heap.size + 1 ≤ w1.heap.size := by have := hb1.size; simp at this; omega)
        | (go_at_call 73; refine (whole_any _ (Lv.mk k n args) 1 _ B _ (by omega) (by omega) (hin'.below hb1 (by simp; omega))).mono ?_; rintro e w2 ⟨rfl, hb2⟩))
      go_ret
      exact ⟨rfl, (hb0.trans (hb1.mono (by simp))).trans (hb2.mono (by omega))⟩
  · have HM : Hid (mayB (Lv.mk k n args) params = false) := by show _ = _; unfold mayB; simp [h64]
    rw [show min (Lv.mk k n args).size (64 + 1) = 65 by omega] at hp
    rw [HM.out]
    go_enter Tryd.func38, Tryd.ntmps38
    go_wp2_with (go_at_call 72; refine hp.mono ?_; rintro e w1 ⟨rfl, hb1⟩)
    go_ret
    exact ⟨rfl, hb0.trans (hb1.mono (by simp))⟩

end Go.Proofs.YtbmijpjmdpdfkaaDoor
