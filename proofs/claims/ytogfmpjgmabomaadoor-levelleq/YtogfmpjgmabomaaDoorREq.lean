/- The walk of the document's Equal. No condition but that what was given are levels in memory. -/
import Derived.Test.YtogfmpjgmabomaaDoorWipe
import Derived.Test.YtogfmpjgmabomaaDoorOver
namespace Go.Proofs.YtogfmpjgmabomaaDoor
open Go.RowKit

/-- Equal at one level. -/
def REqAt (x : Lv) : Prop := ∀ (y : Lv) (w : World) (B : Nat) (va vb : Value), B ≤ w.heap.size → In w (· < B) x va → In w (· < B) y vb →
    Calls Tryd.prog 24 #[va, vb] w fun e w' => e = .returned (.bool (x.eqB y)) ∧ Below w.heap.size w w'

set_option maxRecDepth 100000 in
set_option maxHeartbeats 1000000 in
theorem req_node (k n : Int) (args : List Lv) (ih : ∀ x ∈ args, REqAt x) (k' n' : Int) (args' : List Lv) (a a' : Option Addr) (cap cap' : Nat) (w : World) (B : Nat)
    (hB : B ≤ w.heap.size) (hN : Node w (· < B) k n args a cap) (hN' : Node w (· < B) k' n' args' a' cap') :
    Calls Tryd.prog 24 #[.agg #[.int .i64 k, .int .i64 n, .slice a args.length cap], .agg #[.int .i64 k', .int .i64 n', .slice a' args'.length cap']] w fun e w' => e = .returned (.bool ((Lv.mk k n args).eqB (.mk k' n' args'))) ∧ Below w.heap.size w w' := by
  have hle := hN.le
  have hmx := hN.max
  have hle' := hN'.le
  have hmx' := hN'.max
  obtain ⟨w1, hw1, hb1, P1, Q1, hs1⟩ := two_new w [.int .i64 k, .int .i64 n, .slice a args.length cap] [.int .i64 k', .int .i64 n', .slice a' args'.length cap'] 24 24
  have p0 := P1.cell (j := 0) rfl
  have p1 := P1.cell (j := 1) rfl
  have p2 := P1.cell (j := 2) rfl
  have q0 := Q1.cell (j := 0) rfl
  have q1 := Q1.cell (j := 1) rfl
  have q2 := Q1.cell (j := 2) rfl
  by_cases hk : k = k'
  · subst hk
    have hkk : (k != k) = false := by simp
    by_cases hn : n = n'
    · subst hn
      have hnn : (n != n) = false := by simp
      by_cases hlen : args.length = args'.length
      · have hne : ((args.length : Int) != (args'.length : Int)) = false := by simp; omega
        have hE : (Lv.mk k n args).eqB (.mk k n args') = Lv.eqs args args' := by rw [Lv.eqB_mk]; simp
        rw [hE]
        clear hE
        have HLen : Hid (args.length = args'.length) := hlen
        clear hlen
        go_enter Tryd.func24, Tryd.ntmps24
        go_wp2_with fail
        clear hne
        go_loopw [5] (fun i wr => ∃ (j : Nat), i = .int .i64 (j : Int) ∧ j ≤ args.length ∧ Lv.eqs (args.take j) (args'.take j) = true ∧ Below w1.heap.size w1 wr) (fun i _ => args.length - (intOf i).toNat)
        case atStart => exact ⟨0, rfl, by omega, by simp [Lv.eqs], Below.refl _ _⟩
        case round =>
          obtain ⟨j, rfl, hj, hok, hbel⟩ := hrel
          have HE : Hid (Lv.eqs (args.take j) (args'.take j) = true) := hok
          clear hok
          have hsz := hbel.size
          have hb0 : Below w.heap.size w wr := hb1.trans (hbel.mono (by omega))
          have P2 := P1.below hbel (by omega)
          have Q2 := Q1.below hbel (by omega)
          have u2 := P2.cell (j := 2) rfl
          by_cases hlt : j < args.length
          · have hlt' : j < args'.length := by have := HLen.out; omega
            obtain ⟨x, hx⟩ : ∃ L, args[j]? = some L := ⟨_, List.getElem?_eq_getElem hlt⟩
            obtain ⟨y, hy⟩ : ∃ L, args'[j]? = some L := ⟨_, List.getElem?_eq_getElem hlt'⟩
            obtain ⟨b, off, k1, n1, args1, a1, cap1, rfl, hS, rfl, e0, e1, e2, M1⟩ := (hN.below hb0 hB).get hx
            obtain ⟨b', off', k2, n2, args2, a2, cap2, rfl, hS', rfl, d0, d1, d2, M2⟩ := (hN'.below hb0 hB).get hy
            have HX : Hid (args[j]? = some (.mk k1 n1 args1) ∧ args'[j]? = some (.mk k2 n2 args2)) := ⟨hx, hy⟩
            clear hx hy
            have U2 := over_cell u2
            have V2 := over_cell (Q2.cell (j := 2) rfl)
            have E0 := over_cell e0
            have E1 := over_cell e1
            have E2 := over_cell e2
            have D0 := over_cell d0
            have D1 := over_cell d1
            have D2 := over_cell d2
            have hbu : ∀ u, Below wr.heap.size wr (over wr u) := fun u => over_below wr u
            have hc : ∀ u, Calls Tryd.prog 24 #[.agg #[.int .i64 k1, .int .i64 n1, .slice a1 args1.length cap1], .agg #[.int .i64 k2, .int .i64 n2, .slice a2 args2.length cap2]] (over wr u) fun e w' => e = .returned (.bool ((Lv.mk k1 n1 args1).eqB (.mk k2 n2 args2))) ∧ Below (over wr u).heap.size (over wr u) w' := fun u =>
              ih _ (List.mem_of_getElem? HX.out.1) _ _ B _ _ (by have := (hbu u).size; omega) (M1.below (hbu u) (by omega)).is (M2.below (hbu u) (by omega)).is
            cases hr : (Lv.mk k1 n1 args1).eqB (.mk k2 n2 args2) with
            | true =>
              rw [hr] at hc
              go_wp2_with fail
              refine wp_region_over wr (Below.refl _ _) (by kernel_rfl) (by kernel_rfl) ?_
              repeat (go_big_quiet_step (first | (go_at_call 24; exact Calls.over (hc _))))
              refine wpQuiet_nil ?_
              rintro _ ⟨u, rfl⟩
              go_wp2_with fail
              go_roundw
              case rel => exact ⟨j + 1, by go_num, by omega, Lv.eqs_succ HX.out.1 HX.out.2 hr HE.out, hbel.trans ((hbu u).mono hsz)⟩
              case measure => simp [intOf]; omega
            | false =>
              rw [hr] at hc
              have HR : Hid (Lv.eqs args args' = false) := Lv.eqs_bad HX.out.1 HX.out.2 hr
              go_wp2_with fail
              refine wp_region_over wr (Below.refl _ _) (by kernel_rfl) (by kernel_rfl) ?_
              repeat (go_big_quiet_step (first | (go_at_call 24; exact Calls.over (hc _))))
              refine wpQuiet_nil ?_
              rintro _ ⟨u, rfl⟩
              go_wp2_with fail
              go_ret
              exact ⟨ret_bool HR.out.symm, hb0.trans ((hbu u).mono hb0.size)⟩
          · go_wp2_with fail
            go_ret
            have o1 := HE.out
            rw [List.take_of_length_le (by omega), List.take_of_length_le (by have := HLen.out; omega)] at o1
            exact ⟨ret_bool o1.symm, hb0⟩
      · have HR : Hid ((Lv.mk k n args).eqB (.mk k n args') = false) := by show _ = _; rw [Lv.eqB_mk, Lv.eqs_len hlen]; simp
        have hne : ((args.length : Int) != (args'.length : Int)) = true := by simp; omega
        go_enter Tryd.func24, Tryd.ntmps24
        go_wp2_with fail
        go_ret
        exact ⟨ret_bool HR.out.symm, hb1⟩
    · have HR : Hid ((Lv.mk k n args).eqB (.mk k n' args') = false) := by show _ = _; rw [Lv.eqB_mk]; simp [hn]
      have hn' : (n != n') = true := by simpa using hn
      go_enter Tryd.func24, Tryd.ntmps24
      go_wp2_with fail
      go_ret
      exact ⟨ret_bool HR.out.symm, hb1⟩
  · have HR : Hid ((Lv.mk k n args).eqB (.mk k' n' args') = false) := by show _ = _; rw [Lv.eqB_mk]; simp [hk]
    have hk' : (k != k') = true := by simpa using hk
    go_enter Tryd.func24, Tryd.ntmps24
    go_wp2_with fail
    go_ret
    exact ⟨ret_bool HR.out.symm, hb1⟩

theorem req_any (x : Lv) : REqAt x := by
  refine Lv.ind (P := fun x => REqAt x) ?_ x
  intro k n args ih y w B va vb hB ha hb
  obtain ⟨k', n', args'⟩ := y
  obtain ⟨a, cap, rfl, hN⟩ := ha.node
  obtain ⟨a', cap', rfl, hN'⟩ := hb.node
  exact req_node k n args ih k' n' args' a a' cap cap' w B hB hN hN'
end Go.Proofs.YtogfmpjgmabomaaDoor
