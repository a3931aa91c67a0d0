/- The walk of term's copied, of a list that is not empty. No condition but that the Levels lie in memory and are few. -/
import Derived.Test.YtbmijpjmdpdfkaaDoorCg3
import Derived.Test.YtbmijpjmdpdfkaaDoorOfD
namespace Go.Proofs.YtbmijpjmdpdfkaaDoor
open Go.RowKit

/-- A list that append made of another one. -/
theorem cp_made {w w1 : World} {B B' g n cap b off : Nat} {l : List Lv} {vs : List Value} (ho : w1.ownsRow B' 58 3 (.slice (some ⟨g, 0, none⟩) n cap) n vs) (hn : l.length = n) (hpos : 0 < n) (hBg : B ≤ g) (hvs : ∀ j u, vs[j]? = some u → w.cell? ⟨b, off + j, none⟩ = some u) (hin : InAll w (· < B) b off l) (hS : ∀ k, k < B → w1.heap[k]? = w.heap[k]?) :
    CpOk w1 B ⟨g, l, cap⟩ ∧ InAll w1 (· < B) g 0 l := by
  have hl := ho.1
  obtain ⟨g2, cap2, e2, _, _, h3, h4⟩ := owns_shape ho hpos
  simp only [Value.slice.injEq, Option.some.injEq, Addr.mk.injEq, and_true, true_and] at e2
  obtain ⟨rfl, rfl⟩ := e2
  refine ⟨⟨hBg, ?_, by show l.length ≤ cap; omega, by show cap ≤ 9223372036854775807; unfold maxLen at h4; omega, by show 0 < l.length; omega⟩, inall_copy hS hin fun j hj => ?_⟩
  · rcases ho.2 with ⟨h0, _⟩ | ⟨g', c', cur, he, _, hcur, hc1, _, hc2, _⟩
    · cases h0
    · simp only [Value.slice.injEq, Option.some.injEq, Addr.mk.injEq, true_and, and_true] at he
      obtain ⟨rfl, rfl⟩ := he
      exact ⟨cur, hcur, by show l.length * 3 ≤ _; rw [hc2]; omega⟩
  · obtain ⟨u, hu⟩ : ∃ u, vs[j]? = some u := ⟨_, List.getElem?_eq_getElem (by omega)⟩
    obtain ⟨g3, e3, _, _, _, _, hc⟩ := owns_cell ho hu
    simp only [Option.some.injEq, Addr.mk.injEq, and_true] at e3
    subst e3
    rw [hvs j u hu, Nat.zero_add]; exact hc
theorem owns_of_blk {w : World} {B g n : Nat} {e : TypeId} {l : List Value} (h : Blk w g e l) (hB : B ≤ g) (hl : l.length = n) (hn : n ≤ 1000) : w.ownsRow B e 1 (.slice (some ⟨g, 0, none⟩) n n) n l :=
  ⟨by omega, .inr ⟨g, n, l.toArray, rfl, hB, h, Nat.le_refl _, by unfold maxLen; omega, by simp [hl], by simp [List.take_of_length_le, hl]⟩⟩
theorem owns_cp {w : World} {B n : Nat} {v : Value} {xs : List Value} {y : Cp} (h : w.ownsRow B 22 1 v n xs) {B' : Nat} (hy : CpOk w B' y) : v.ownBlock ≠ some y.g := fun e => by
  rcases h.2 with ⟨rfl, _⟩ | ⟨g, cap, cur, rfl, _, hcur, _⟩
  · cases e
  · simp [Value.ownBlock] at e
    obtain ⟨cs, h1, _⟩ := hy.ty
    rw [← e, hcur] at h1
    simp at h1
theorem CpOk.frozen {w : World} {B : Nat} {y : Cp} (h : CpOk w B y) (j : Nat) : w.frozen? ⟨y.g, j, none⟩ = false := by
  obtain ⟨cs, h1, _⟩ := h.ty
  simp [World.frozen?, h1]
theorem cpMass_len {w : World} {B : Nat} (P : List Cp) (h : ∀ y ∈ P, CpOk w B y) : P.length ≤ cpMass P := by
  induction P with
  | nil => exact Nat.le_refl _
  | cons x r ih =>
    have := (h x (List.mem_cons_self ..)).pos
    have := ih (fun y hy => h y (List.mem_cons_of_mem _ hy))
    have := Lv.sizes_belows x.l
    simp only [List.length_cons, cpMass]; omega

set_option maxRecDepth 100000 in
set_option maxHeartbeats 4000000 in
theorem copied_some (ls : List Lv) (b off c : Nat) (w : World) (hin : InAll w (· < w.heap.size) b off ls) (hpos : 0 < ls.length) (hsz : Lv.sizes ls ≤ 262144) :
    Calls Tryd.prog 44 #[.slice (some ⟨b, off, none⟩) ls.length c] w fun e w' => ∃ oa oc, e = .returned (.slice oa ls.length oc) ∧ Node w' (fun k => w.heap.size ≤ k ∧ k < w'.heap.size ∧ ¬ XB w' k) 0 0 ls oa oc ∧ Below w.heap.size w w' := by
  obtain ⟨vs, hv1, hv2, hv3⟩ := inall_cells hin
  have hsb := Lv.sizes_belows ls
  obtain ⟨n, hn⟩ : ∃ n, ls.length = n := ⟨_, rfl⟩
  rw [hn] at hpos hv1 hsb
  obtain ⟨i58, hi58, hz58, hs58, hb58⟩ := info58
  obtain ⟨i22, hi22, hz22, hs22, hb22⟩ := info22
  have HN : Hid (ls.length = n ∧ Lv.sizes ls = n + Lv.belows ls) := ⟨hn, hsb⟩
  have hn2 : n ≤ 262144 := by omega
  rw [hn]
  clear hn hsb
  go_enter Tryd.func44, Tryd.ntmps44
  go_wp2_with (refine wpList_append_two (by rfl) (.const (.slice none 0 0)) (.tmp 8) 22 (by rfl) w.heap.size 58 i58 _ 3 40 Tryd.underlying22 hi58 hz58 hs58 hb58 (by rfl) (by decide) (.slice none 0 0) 0 [] (by rfl) ⟨rfl, .inl ⟨rfl, rfl⟩⟩ ⟨b, off, none⟩ n c vs (by rfl) hv1 (fun j u hj => by rw [Addr.add_lit]; exact hv2 j u hj) hv3 (by unfold maxLen; omega) (by omega) (Nat.le_refl _) hpos ?_; intro v1 w1 h1 hg1 hn1; simp only [Nat.zero_add, List.nil_append] at h1; obtain ⟨g, cap, rfl, hg11, hg12, hg13, hg14⟩ := owns_shape h1 hpos)
  have hgn : w.grownBy w1 none := hg1
  have hb1 : Below w.heap.size w w1 := ⟨hgn.os, hgn.tape, hgn.output, hgn.size, fun k hk => hgn.block k hk (fun e => by cases e)⟩
  obtain ⟨ok1, in1⟩ := cp_made (l := ls) h1 HN.out.1 hpos hg11 hv2 hin (fun k hk => hb1.block k hk)
  obtain ⟨w2, hw2, hb2, R2, hs2⟩ := one_new w1 [.slice (some ⟨g, 0, none⟩) n cap] 22
  have C1 := CI.start hb1 ok1 in1
  have hz1 := hb1.size
  have C2 := C1.carry (hb2.mono hz1) (fun y hy => by rw [List.mem_singleton.1 hy]; exact hb2.block _ hg12)
  have row2 : w2.ownsRow w.heap.size 22 1 (.slice (some ⟨w1.heap.size, 0, none⟩) 1 1) 1 (cpVals [⟨g, ls, cap⟩]) := by
    have := owns_of_blk (B := w.heap.size) (n := 1) R2 hz1 rfl (by omega)
    simpa [cpVals, Cp.val, HN.out.1] using this
  rw [hw2]
  clear hw2 h1 hg1 hn1 hgn ok1 in1 C1 hv1 hv2 hv3
  have hNs : Lv.sizes ls ≤ 262144 := hsz
  obtain ⟨N, hNN⟩ : ∃ N, Lv.sizes ls = N := ⟨_, rfl⟩
  rw [hNN] at C2 hNs
  have HNN : Hid (Lv.sizes ls = N) := hNN
  clear hNN hsz
  go_loopw [4] (fun v wr => ∃ A P, CI w wr A P none N ∧ wr.ownsRow w.heap.size 22 1 v P.length (cpVals P) ∧ (⟨g, ls, cap⟩ : Cp) ∈ A) (fun v wr => leastOf (fun m => ∃ A P, cpMass P = m ∧ CI w wr A P none N ∧ wr.ownsRow w.heap.size 22 1 v P.length (cpVals P) ∧ (⟨g, ls, cap⟩ : Cp) ∈ A))
  case atStart => exact ⟨_, _, C2, row2, List.mem_singleton.2 rfl⟩
  case round =>
    obtain ⟨A0, P0, CC0, rr0, mm0⟩ := hrel
    obtain ⟨A, P, hmass, CC, row, mA⟩ := leastOf_is (P := fun m => ∃ A P, cpMass P = m ∧ CI w wr A P none N ∧ wr.ownsRow w.heap.size 22 1 u4 P.length (cpVals P) ∧ (⟨g, ls, cap⟩ : Cp) ∈ A) ⟨_, A0, P0, rfl, CC0, rr0, mm0⟩
    have HM : Hid (cpMass P = leastOf (fun m => ∃ A P, cpMass P = m ∧ CI w wr A P none N ∧ wr.ownsRow w.heap.size 22 1 u4 P.length (cpVals P) ∧ (⟨g, ls, cap⟩ : Cp) ∈ A)) := hmass
    clear hmass CC0 rr0 mm0 C2 row2 R2
    cases P with
    | nil =>
      obtain ⟨ao, cp, rfl⟩ := owns_sl row
      simp only [List.length_nil] at row
      go_wp2_with fail
      go_ret
      have hS : ∀ y ∈ A, w.heap.size ≤ y.g ∧ y.g < wr.heap.size ∧ ¬ XB wr y.g := fun y hy => ⟨(CC.ok y hy).ge, (CC.ok y hy).lt, fun ⟨cs, t, fr, e1, e2⟩ => by
        obtain ⟨cs', e3, _⟩ := (CC.ok y hy).ty
        rw [e3] at e1
        simp only [Option.some.injEq, Obj.cells.injEq] at e1
        obtain ⟨_, rfl, _⟩ := e1
        exact absurd e2 (by decide)⟩
      have hw := CC.whole (S := fun k => w.heap.size ≤ k ∧ k < wr.heap.size ∧ ¬ XB wr k) hS (Lv.sizes ls) ⟨g, ls, cap⟩ (Nat.le_refl _) mA
      exact ⟨_, _, rfl, ⟨by omega, by omega, by omega, by omega, (CC.ok _ mA).le, (CC.ok _ mA).max, .inr ⟨g, 0, rfl, hS _ mA, hw⟩⟩, CC.low⟩
    | cons x r =>
      obtain ⟨q, cp, rfl, hq1, hq2, hq3, hq4⟩ := owns_shape row (by simp)
      have hxl := cpMass_len (x :: r) (fun y hy => CC.ok y (CC.pend y hy).1)
      have hmN := CC.mass
      simp only [curLeft] at hmN
      simp only [List.length_cons, cpVals] at row hxl hq3
      have at_ : wr.cell? ⟨q, r.length, none⟩ = some x.val := by
        obtain ⟨g2, e2, _, _, _, _, h2⟩ := owns_cell row (i := r.length) (c := x.val) (by rw [List.getElem?_append_right (by rw [cpVals_len]; exact Nat.le_refl _), cpVals_len, Nat.sub_self]; rfl)
        simp only [Option.some.injEq, Addr.mk.injEq, and_true] at e2
        rw [e2]; exact h2
      have row' := owns_cut (m := r.length) row (by rw [cpVals_len]; omega) (by omega)
      have CT := CC.take
      have hpx := (CC.ok x (CC.pend x (List.mem_cons_self ..)).1)
      have hmx : cpMass (x :: r) = Lv.sizes x.l + cpMass r := rfl
      have hsx := Lv.sizes_belows x.l
      have hpos' := hpx.pos
      obtain ⟨m, hmr⟩ : ∃ m, r.length = m := ⟨_, rfl⟩
      rw [hmr] at at_ row' hxl hq3
      have HR : Hid (r.length = m) := hmr
      rw [show (x :: r).length = m + 1 by rw [List.length_cons, hmr]] at HM ⊢
      have e1 : ((m : Int) + 1 - 1) = (m : Int) := by omega
      have e2 : decide ((0 : Int) < (m : Int) + 1) = true := decide_eq_true (by omega)
      unfold Cp.val at at_
      obtain ⟨xl, hxl2⟩ : ∃ xl, x.l.length = xl := ⟨_, rfl⟩
      rw [hxl2] at at_ hsx hpos'
      have HX : Hid (x.l.length = xl ∧ cpMass (x :: r) = Lv.sizes x.l + cpMass r ∧ Lv.sizes x.l = xl + Lv.belows x.l) := ⟨hxl2, hmx, hsx⟩
      have hxl3 : xl ≤ 262144 := by omega
      have hmN3 : m + 1 ≤ 262144 := by omega
      clear hxl2 hmx hsx hmr row CC hmN hxl
      go_wp2_with fail
      obtain ⟨wo, hwo⟩ : ∃ wo, wo = wr := ⟨_, rfl⟩
      subst hwo
      go_loopw [4, 27] (fun v i wr => ∃ (j : Nat) (A P : List Cp), i = .int .i64 (j : Int) ∧ j ≤ xl ∧ CI w wr A P (some (x, j)) N ∧ wr.ownsRow w.heap.size 22 1 v P.length (cpVals P) ∧ (⟨g, ls, cap⟩ : Cp) ∈ A ∧ cpMass P + Lv.belows (x.l.drop j) ≤ cpMass r + Lv.belows x.l) (fun _ i _ => xl - (intOf i).toNat)
      case atStart => exact ⟨0, A, r, rfl, by omega, CT, by rw [HR.out]; exact row', mA, by simp⟩
      case round =>
        obtain ⟨j, A2, P2, rfl, hj, C3, row3, mA2, hms⟩ := hrel
        obtain ⟨x1, x2, x3, x4⟩ := C3.cur x j rfl
        have okx := C3.ok x x1
        have hmC := C3.mass
        simp only [curLeft] at hmC
        have hP2 := cpMass_len P2 (fun y hy => C3.ok y (C3.pend y hy).1)
        by_cases hjl : j < xl
        · have hdj : decide ((j : Int) < (xl : Int)) = true := decide_eq_true (by omega)
          obtain ⟨⟨k', n', args'⟩, hL⟩ : ∃ L, x.l[j]? = some L := ⟨_, List.getElem?_eq_getElem (by rw [HX.out.1]; exact hjl)⟩
          obtain ⟨a', c', y0, y1, y2, hN'⟩ := (x4 j _ hL).2 (Nat.le_refl _)
          have fz := okx.frozen (j * 3 + 2)
          have hbd := Lv.belows_drop hL
          cases args' with
          | nil =>
            have y2' : wr.cell? ⟨x.g, j * 3 + 2, none⟩ = some (.slice a' 0 c') := y2
            have C4 := C3.empty hL
            have z2 := World.cell?_setCell_same wr ⟨x.g, j * 3 + 2, none⟩ (.slice none 0 0) y2'
            go_wp2_with (refine wpList_append_e (by rfl) (.tmp 36) (by rfl) a' c' (by rfl) ?_)
            go_roundw
            case rel => exact ⟨j + 1, A2, P2, by simp, by omega, C4, owns_block row3 (fun k e => Below.heap_setCell _ _ _ _ (fun h => owns_cp row3 okx (by rw [e]; exact congrArg some h))), mA2, by simp only [Lv.sizes] at hbd; omega⟩
            case measure => simp [intOf]; omega
          | cons a0 ar =>
            rcases hN'.all with h0 | ⟨b', off', rfl, hb', hin'⟩
            · cases h0
            · obtain ⟨vs2, hv1, hv2, hv3⟩ := inall_cells hin'
              have hsb := Lv.sizes_belows (a0 :: ar)
              obtain ⟨na, hna⟩ : ∃ na, (a0 :: ar).length = na := ⟨_, rfl⟩
              rw [hna] at y2 hv1 hsb
              have hna0 : 0 < na := by rw [← hna]; simp
              have HA : Hid ((a0 :: ar).length = na) := hna
              have hna2 : na ≤ 262144 := by omega
              have hP3 : P2.length ≤ 262144 := by omega
              have HB : Hid (cpMass P2 + Lv.belows (x.l.drop j) ≤ cpMass r + Lv.belows x.l ∧ Lv.belows (x.l.drop j) = Lv.sizes (a0 :: ar) + Lv.belows (x.l.drop (j + 1))) := ⟨hms, hbd⟩
              clear hna hsb hbd hms hmC hP2
              have hpf : ∀ (w5 : World) (g5 cap5 : Nat), w5.ownsRow wr.heap.size 58 3 (.slice (some ⟨g5, 0, none⟩) na cap5) na vs2 → wr.grownBy w5 none → wr.heap.size ≤ g5 →
                  CI w (w5.setCell ⟨x.g, j * 3 + 2, none⟩ (.slice (some ⟨g5, 0, none⟩) na cap5)) (⟨g5, a0 :: ar, cap5⟩ :: A2) (⟨g5, a0 :: ar, cap5⟩ :: P2) (some (x, j + 1)) N ∧ ((w5.setCell ⟨x.g, j * 3 + 2, none⟩ (.slice (some ⟨g5, 0, none⟩) na cap5)).alloc (.cells #[.slice (some ⟨g5, 0, none⟩) na cap5] 22)).ownsRow w.heap.size 22 1 u4 P2.length (cpVals P2) ∧
                  w.heap.size ≤ ((w5.setCell ⟨x.g, j * 3 + 2, none⟩ (.slice (some ⟨g5, 0, none⟩) na cap5)).alloc (.cells #[.slice (some ⟨g5, 0, none⟩) na cap5] 22)).heap.size ∧ Blk ((w5.setCell ⟨x.g, j * 3 + 2, none⟩ (.slice (some ⟨g5, 0, none⟩) na cap5)).alloc (.cells #[.slice (some ⟨g5, 0, none⟩) na cap5] 22)) w5.heap.size 22 [.slice (some ⟨g5, 0, none⟩) na cap5] := by
                intro w5 g5 cap5 h5 hgn5 hg51
                have hb5 : Below wr.heap.size wr w5 := ⟨hgn5.os, hgn5.tape, hgn5.output, hgn5.size, fun k hk => hgn5.block k hk (fun e => by cases e)⟩
                have hz := C3.low.size
                obtain ⟨ok5, in5⟩ := cp_made (B := w.heap.size) (l := a0 :: ar) h5 HA.out hna0 (by omega) hv2 hin' (fun k hk => hb5.block k (by omega))
                have C6 := C3.push (y := ⟨g5, a0 :: ar, cap5⟩) hL hb5 hg51 rfl ok5 in5
                have hval : (Cp.mk g5 (a0 :: ar) cap5).val = .slice (some ⟨g5, 0, none⟩) na cap5 := by unfold Cp.val; rw [HA.out]
                rw [hval] at C6
                have row5 := owns_below row3 hb5
                have okx5 := okx.carry (hb5.block x.g okx.lt)
                have row6 : (w5.setCell ⟨x.g, j * 3 + 2, none⟩ (.slice (some ⟨g5, 0, none⟩) na cap5)).ownsRow w.heap.size 22 1 u4 P2.length (cpVals P2) := owns_block row5 (fun k e => Below.heap_setCell _ _ _ _ (fun h => owns_cp row5 okx5 (by rw [e]; exact congrArg some h)))
                have hb7 := below_alloc (w5.setCell ⟨x.g, j * 3 + 2, none⟩ (.slice (some ⟨g5, 0, none⟩) na cap5)) (.cells #[.slice (some ⟨g5, 0, none⟩) na cap5] 22)
                refine ⟨C6, owns_below row6 hb7, Nat.le_trans C6.low.size hb7.size, ?_⟩
                have := Blk.new (w5.setCell ⟨x.g, j * 3 + 2, none⟩ (.slice (some ⟨g5, 0, none⟩) na cap5)) 22 [.slice (some ⟨g5, 0, none⟩) na cap5]
                rwa [show (w5.setCell ⟨x.g, j * 3 + 2, none⟩ (.slice (some ⟨g5, 0, none⟩) na cap5)).heap.size = w5.heap.size by simp [World.setCell]] at this
              go_wp2_with (first
                | (refine wpList_append_two (by rfl) (.const (.slice none 0 0)) (.tmp 36) 22 (by rfl) wr.heap.size 58 i58 _ 3 40 Tryd.underlying22 hi58 hz58 hs58 hb58 (by rfl) (by decide) (.slice none 0 0) 0 [] (by rfl) ⟨rfl, .inl ⟨rfl, rfl⟩⟩ ⟨b', off', none⟩ na c' vs2 (by rfl) hv1 (fun j u hj => by rw [Addr.add_lit]; exact hv2 j u hj) hv3 (by unfold maxLen; omega) (by omega) (Nat.le_refl _) hna0 ?_; intro v5 w5 h5 hg5 hn5; simp only [Nat.zero_add, List.nil_append] at h5; obtain ⟨g5, cap5, rfl, hg51, hg52, hg53, hg54⟩ := owns_shape h5 hna0; have hgn5 : wr.grownBy w5 none := hg5; have z2 := (World.cell?_of_block (hgn5.block x.g okx.lt (fun e => by cases e))).trans y2; have zf := (okx.carry (hgn5.block x.g okx.lt (fun e => by cases e))).frozen (j * 3 + 2); obtain ⟨C6, row7, hz7, X7⟩ := hpf w5 g5 cap5 h5 hgn5 hg51)
                | (refine wpList_append_two (by rfl) (.tmp 47) (.tmp 53) 107 (by rfl) w.heap.size 22 i22 _ 1 24 Tryd.underlying107 hi22 hz22 hs22 hb22 (by rfl) (by decide) u4 P2.length (cpVals P2) (by rfl) row7 ⟨w5.heap.size, 0, none⟩ 1 1 [.slice (some ⟨g5, 0, none⟩) na cap5] (by rfl) (by rfl) (fun i u hu => by rw [Addr.add_lit, Nat.zero_add]; exact X7.cell hu) (by simp [Value.oneCell']) (by unfold maxLen; omega) (by omega) hz7 (by decide) ?_; intro v8 w8 h8 hg8 hn8))
              have hb7 := below_alloc (w5.setCell ⟨x.g, j * 3 + 2, none⟩ (.slice (some ⟨g5, 0, none⟩) na cap5)) (.cells #[.slice (some ⟨g5, 0, none⟩) na cap5] 22)
              have C7 := C6.carry (hb7.mono C6.low.size) (fun y hy => hb7.block _ (C6.ok y hy).lt)
              have C8 := C7.carry (wr' := w8) ⟨hg8.os, hg8.tape, hg8.output, hg8.size, fun k hk => hg8.block k (by omega) (fun e => by have := (owns_own row7 e.symm).1; omega)⟩ (fun y hy => hg8.block _ (C7.ok y hy).lt (fun e => owns_cp row7 (C7.ok y hy) e.symm))
              refine ⟨⟨j + 1, _, _, by simp, by omega, C8, ?_, List.mem_cons_of_mem _ mA2, ?_⟩, by simp [intOf]; omega⟩
              · simp only [cpVals, List.length_cons, Cp.val, HA.out]; exact h8
              · have := HB.out
                simp only [cpMass]
                omega
        · have hdj : decide ((j : Int) < (xl : Int)) = false := decide_eq_false (by omega)
          have hje : j = x.l.length := by rw [HX.out.1]; omega
          have C4 : CI w wr A2 P2 none N := by rw [hje] at C3; exact C3.finish
          have hmf : cpMass P2 < cpMass (x :: r) := by
            rw [hje, List.drop_length] at hms
            have := HX.out
            simp only [Lv.belows] at hms
            omega
          go_wp2_with fail
          go_roundw
          case rel => exact ⟨A2, P2, C4, row3, mA2⟩
          case measure =>
            rw [← HM.out]
            exact Nat.lt_of_le_of_lt (leastOf_le ⟨A2, P2, rfl, C4, row3, mA2⟩) hmf
end Go.Proofs.YtbmijpjmdpdfkaaDoor
