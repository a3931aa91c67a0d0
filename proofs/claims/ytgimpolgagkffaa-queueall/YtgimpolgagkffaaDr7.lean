/- The walk of slices' DeleteFunc over a queue's row, with has of another row. No condition but sizes. -/
import Derived.Test.YtgimpolgagkffaaDr6
namespace Go.Proofs.Ytgimpolgagkffaa
open Go.RowKit

/-- Those that are not in G. -/
def outOf (G L : List En) : List En := L.filter (fun x => decide (x ∉ G))

theorem outOf_all {G L : List En} (h : ∀ x ∈ L, x ∉ G) : outOf G L = L := List.filter_eq_self.2 (fun x hx => decide_eq_true (h x hx))

theorem outOf_take {G L : List En} {i : Nat} (h : i < L.length) : outOf G (L.take (i + 1)) = outOf G (L.take i) ++ (if nth L i ∈ G then [] else [nth L i]) := by
  have e : L.take (i + 1) = L.take i ++ [nth L i] := by rw [List.take_add_one, nth_get h]; rfl
  unfold outOf
  rw [e, List.filter_append, List.filter_cons]
  by_cases hg : nth L i ∈ G <;> simp [hg]

/-- What DeleteFunc has, i kept out of j. -/
structure Dl (w : World) (b cap n : Nat) (L : List En) (ag : Option Addr) (cg : Nat) (G : List En) (i j : Nat) (M : List En) (wr : World) : Prop where
  len : M.length = n
  row : Row wr b cap M
  ij : i < j
  jn : j ≤ n
  take : M.take i = outOf G (L.take j)
  back : ∀ k, j ≤ k → nth M k = nth L k
  g : ORow wr ag cg G
  keep : Keep w wr (· = b)

theorem Dl.low {w : World} {b cap n : Nat} {L : List En} {ag : Option Addr} {cg : Nat} {G : List En} {i j : Nat} {M : List En} {wr w' : World} (h : Dl w b cap n L ag cg G i j M wr) (hb : Below wr.heap.size wr w') : Dl w b cap n L ag cg G i j M w' :=
  ⟨h.len, h.row.below hb h.row.lt, h.ij, h.jn, h.take, h.back, owns_below h.g hb, h.keep.low hb h.keep.size⟩

theorem Dl.skip {w : World} {b cap n : Nat} {L : List En} {ag : Option Addr} {cg : Nat} {G : List En} {i j : Nat} {M : List En} {wr : World} (h : Dl w b cap n L ag cg G i j M wr) (hl : L.length = n) (hj : j < n) (hg : nth L j ∈ G) : Dl w b cap n L ag cg G i (j + 1) M wr :=
  ⟨h.len, h.row, by have := h.ij; omega, hj, by rw [outOf_take (by omega), if_pos hg, List.append_nil]; exact h.take, fun k hk => h.back k (by omega), h.g, h.keep⟩

theorem Dl.put {w : World} {b cap n : Nat} {L : List En} {ag : Option Addr} {cg : Nat} {G : List En} {i j : Nat} {M : List En} {wr w' : World} (h : Dl w b cap n L ag cg G i j M wr) (hl : L.length = n) (hj : j < n) (hg : nth L j ∉ G)
    (hne : (Value.slice ag G.length cg).ownBlock ≠ some b) (hr : Row w' b cap (M.set i (nth L j))) (hk : Keep wr w' (· = b)) : Dl w b cap n L ag cg G (i + 1) (j + 1) (M.set i (nth L j)) w' := by
  have hij := h.ij
  have hm := h.len
  refine ⟨by rw [List.length_set]; exact h.len, hr, by omega, hj, ?_, fun k hk' => ?_, owns_block h.g (fun k e => hk.block k (owns_own h.g e).2 (fun e' => hne (by rw [← e']; exact e))), h.keep.trans hk (fun _ _ e => e)⟩
  · rw [outOf_take (by omega), if_neg hg, ← h.take, List.take_add_one, List.take_set, List.getElem?_set_self (by omega)]
    congr 1
    rw [List.set_eq_of_length_le (by rw [List.length_take]; omega)]
  · rw [← h.back k (by omega)]
    unfold nth
    rw [List.getD_eq_getElem?_getD, List.getElem?_set_ne (by omega), List.getD_eq_getElem?_getD]

/-- What DeleteFunc tells. -/
structure Deld (w w' : World) (ao : Option Addr) (n cap : Nat) (K : List En) (v' : Value) : Prop where
  row : w'.ownsRow 0 57 3 v' K.length (flat K)
  own : v'.ownBlock = (Value.slice ao n cap).ownBlock
  keep : Keep w w' (fun k => (Value.slice ao n cap).ownBlock = some k)

theorem IsFirst.start {w w' : World} {b cap n : Nat} {L : List En} {ag : Option Addr} {cg : Nat} {G : List En} {k : Nat} (hl : L.length = n) (hk : k < n) (hg : nth L k ∈ G) (hno : ∀ j, j < k → nth L j ∉ G) (hr : Row w b cap L) (h : ORow w ag cg G) (hb : Below w.heap.size w w') : Dl w b cap n L ag cg G k (k + 1) L w' := by
  refine ⟨hl, hr.below hb hr.lt, by omega, hk, ?_, fun _ _ => rfl, owns_below h hb, Keep.of_below hb (Nat.le_refl _)⟩
  rw [outOf_take (by omega), if_pos hg, List.append_nil, outOf_all]
  intro x hx
  obtain ⟨j, hj, e⟩ := mem_nth hx
  rw [List.length_take] at hj
  have : nth (L.take k) j = nth L j := nth_of (by rw [List.getElem?_take_of_lt (by omega)]; exact nth_get (by omega))
  rw [← e, this]; exact hno j (by omega)

theorem Dl.done {w wr w' : World} {b cap n : Nat} {L : List En} {ag : Option Addr} {cg : Nat} {G : List En} {i : Nat} {M : List En} (h : Dl w b cap n L ag cg G i n M wr) (hl : L.length = n) (hr : Row w' b cap (M.take i)) (hk : Keep wr w' (· = b)) : Deld w w' (some ⟨b, 0, none⟩) n cap (outOf G L) (.slice (some ⟨b, 0, none⟩) i cap) := by
  have e := h.take
  rw [← hl, List.take_length] at e
  have hi : (M.take i).length = i := by rw [List.length_take, h.len]; have := h.ij; omega
  unfold Row at hr
  rw [hi, e] at hr
  refine ⟨?_, rfl, (h.keep.trans hk (fun _ _ e => e)).mono (fun k e => by rw [e]; rfl)⟩
  rw [← e, hi, e]; exact hr

set_option maxRecDepth 100000 in
set_option maxHeartbeats 4000000 in
theorem deletef_any (ao : Option Addr) (cap : Nat) (L : List En) (ag : Option Addr) (cg : Nat) (G : List En) (w : World) (h : ORow w ao cap L) (hG : ORow w ag cg G) (hm : L.length ≤ 256) (hmg : G.length ≤ 256) (hne : ∀ k, (Value.slice ao L.length cap).ownBlock = some k → (Value.slice ag G.length cg).ownBlock ≠ some k) :
    Calls Try.prog 20 #[.slice ao L.length cap, .func (.func 21) #[.slice ag G.length cg] #[]] w fun e w' => ∃ v', e = .returned v' ∧ Deld w w' ao L.length cap (outOf G L) v' := by
  have e21 : ∀ args w, (callFunc 21 args).run Try.prog w = .ok (.enter 21 args) w := enter_of Try.func21 (by kernel_rfl) rfl
  have cI := indexf_any ao cap L ag cg G w h hG hm (by omega)
  obtain ⟨n, HN⟩ : ∃ n, Hid (L.length = n) := ⟨_, rfl⟩
  obtain ⟨m, HM⟩ : ∃ m, Hid (G.length = m) := ⟨_, rfl⟩
  rw [HN.out] at hm cI ⊢
  rw [HM.out] at cI ⊢
  go_enter Try.func20, Try.ntmps20
  go_wp2_with fail
  refine cI.mono ?_
  rintro e w1 ⟨i, rfl, hF, hb1⟩
  clear cI
  rcases hF with ⟨rfl, hno⟩ | ⟨k, rfl, hk, hkg, hno⟩
  · have FF : Hid (Deld w w1 ao n cap (outOf G L) (.slice ao n cap)) := by
      rw [outOf_all hno]
      refine ⟨?_, rfl, Keep.of_below hb1 (Nat.le_refl _)⟩
      have := owns_below h hb1
      rw [← HN.out]; exact this
    clear h hG hno
    go_wp2_with fail
    go_ret
    exact ⟨_, rfl, FF.out⟩
  · obtain ⟨b, cap', e1, hR⟩ := row_of h (by omega)
    have e2 : ao = some ⟨b, 0, none⟩ ∧ cap = cap' := by simpa using e1
    obtain ⟨rfl, rfl⟩ := e2
    clear e1
    have hne' : (Value.slice ag G.length cg).ownBlock ≠ some b := hne b rfl
    have hkn : k < n := by have := HN.out; omega
    have ST := IsFirst.start HN.out hkn hkg hno hR hG hb1
    have hle := hR.le
    rw [HN.out] at hle
    have hk1 : ((k : Int) == -1) = false := beq_eq_false_iff_ne.2 (by omega)
    clear h hG hkg hno hR hb1 hne hk
    go_wp2_with fail
    go_loopw [5, 6] (fun vi vj wr => ∃ (i j : Nat) (M : List En), vi = .int .i64 (i : Int) ∧ vj = .int .i64 (j : Int) ∧ Dl w b cap n L ag cg G i j M wr) (fun _ vj _ => n - (intOf vj).toNat)
    case atStart => exact ⟨k, k + 1, L, rfl, by go_num, ST⟩
    case round =>
      clear ST
      obtain ⟨i, j, M, rfl, rfl, hD⟩ := hrel
      have hij := hD.ij
      have hjn := hD.jn
      by_cases hj : j < n
      · obtain ⟨y0, y1, y2⟩ := hD.row.cells (i := j) (by have := hD.len; omega)
        obtain ⟨t0, t1, t2⟩ := hD.row.cells (i := i) (by have := hD.len; omega)
        have cb := hD.back j (Nat.le_refl _)
        rw [cb] at y0 y1 y2
        clear cb
        have lb := hD.row.lt
        obtain ⟨y, hy⟩ : ∃ y, nth L j = y := ⟨_, rfl⟩
        rw [hy] at y0 y1 y2
        obtain ⟨w6, hw6, hb6, P6, hs6⟩ := one_new wr [.int .i64 y.wt, .int .i64 y.num, .int .i64 (y.turn : Int)] 57
        have cH := has_any ag cg G y w6 (owns_below hD.g hb6) (by omega)
        unfold En.val at cH
        rw [HM.out] at cH
        have z0 := P6.cell (j := 0) rfl
        have z1 := P6.cell (j := 1) rfl
        have z2 := P6.cell (j := 2) rfl
        have HW : Hid _ := hw6
        have HY : Hid _ := hy
        clear hw6 hy
        obtain ⟨yw, yn, yt⟩ := y
        simp only at y0 y1 y2 z0 z1 z2 HW cH P6
        cases hd : decide ((⟨yw, yn, yt⟩ : En) ∈ G) with
        | true =>
          rw [hd] at cH
          have hg1 : (⟨yw, yn, yt⟩ : En) ∈ G := of_decide_eq_true hd
          have HG : Hid _ := hg1
          clear hg1
          clear hd
          go_wp2_with fail
          rw [HW.out]
          go_wp2_with fail
          refine cH.mono ?_
          rintro e w7 ⟨rfl, hb7⟩
          have REL : Hid (Dl w b cap n L ag cg G i (j + 1) M w7) := ((hD.low hb6).low hb7).skip HN.out hj (by rw [HY.out]; exact HG.out)
          clear cH z0 z1 z2 P6 hD y0 y1 y2 t0 t1 t2 hb6 hb7
          go_wp2_with fail
          go_roundw
          case rel => exact ⟨i, j + 1, M, rfl, by go_num, REL.out⟩
          case measure => simp [intOf]; omega
        | false =>
          rw [hd] at cH
          have hg1 : (⟨yw, yn, yt⟩ : En) ∉ G := of_decide_eq_false hd
          have HG : Hid _ := hg1
          clear hg1
          clear hd
          go_wp2_with fail
          rw [HW.out]
          go_wp2_with fail
          refine cH.mono ?_
          rintro e w7 ⟨rfl, hb7⟩
          have hD7 := (hD.low hb6).low hb7
          have P7 := P6.below hb7 P6.lt
          clear cH z0 z1 z2 P6 hD y0 y1 y2 t0 t1 t2
          have z0 := P7.cell (j := 0) rfl
          have z1 := P7.cell (j := 1) rfl
          have z2 := P7.cell (j := 2) rfl
          obtain ⟨t0, t1, t2⟩ := hD7.row.cells (i := i) (by have := hD7.len; omega)
          have hf := hD7.row.frozen
          have REL : Hid (Dl w b cap n L ag cg G (i + 1) (j + 1) (M.set i ⟨yw, yn, yt⟩) (((w7.setCell ⟨b, i * 3, none⟩ (.int .i64 yw)).setCell ⟨b, i * 3 + 1, none⟩ (.int .i64 yn)).setCell ⟨b, i * 3 + 2, none⟩ (.int .i64 (yt : Int)))) := by
            have := hD7.put HN.out hj (by rw [HY.out]; exact HG.out) hne' (by rw [HY.out]; exact hD7.row.set (by have := hD7.len; omega) _) (((Keep.setCell (Keep.refl w7 (· = b)) (g := b) (fun _ => rfl) _ _).setCell (g := b) (fun _ => rfl) _ _).setCell (g := b) (fun _ => rfl) _ _)
            rw [HY.out] at this
            exact this
          clear hD7 P7 hb6 hb7
          generalize nth M i = tt at t0 t1 t2
          go_wp2_with fail
          go_roundw
          case rel => exact ⟨i + 1, j + 1, _, by go_num, by go_num, REL.out⟩
          case measure => simp [intOf]; omega
      · obtain rfl : j = n := by omega
        have hR := hD.row
        have hl := hD.len
        have HD : Hid _ := hD
        clear hD
        go_wp2_with (refine wpList_clear3 (by rfl) (.tmp 38) (by rfl) b cap M hR i j (cap - i) (by rfl) hl hij ?_; intro w9 hr9 hk9)
        have FF : Hid (Deld w w9 (some ⟨b, 0, none⟩) j cap (outOf G L) (.slice (some ⟨b, 0, none⟩) i cap)) := HD.out.done HN.out hr9 hk9
        clear hR hr9 hk9 HD
        go_wp2_with fail
        go_ret
        exact ⟨_, rfl, FF.out⟩
end Go.Proofs.Ytgimpolgagkffaa
