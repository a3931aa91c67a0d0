/- The walks of the document's Size of terms. No condition but that the term lies in memory. -/
import Derived.Test.YtkbpmpcbajnmlaaDoorTm
import Derived.Test.YtkbpmpcbajnmlaaDoorRw
import Derived.Deep.RegionHeld3
import Derived.Test.YtkbpmpcbajnmlaaDoorProg
import Derived.Test.YtkbpmpcbajnmlaaDoorOn
import Derived.Test.YtkbpmpcbajnmlaaDoorBg3
import Derived.Test.YtkbpmpcbajnmlaaDoorBg4
namespace Go.Proofs.YtkbpmpcbajnmlaaDoor
open Go.RowKit

/-- The i-th arg, read as a value. -/
theorem TIn.arg {w : World} {S : Nat → Prop} {T : Tr} (h : TIn w S T) {i : Nat} {L : Tr} (hi : T.args[i]? = some L) :
    ∃ b off, T.a = some ⟨b, off, none⟩ ∧ S b ∧ b < w.heap.size ∧ w.cell? ⟨b, off + i * 5, none⟩ = some (.int .i64 L.k) ∧ w.cell? ⟨b, off + i * 5 + 1, none⟩ = some (.int .i64 L.n) ∧ w.cell? ⟨b, off + i * 5 + 2, none⟩ = some (.string L.s) ∧
      w.cell? ⟨b, off + i * 5 + 3, none⟩ = some (.slice L.la L.ls.length L.lc) ∧ w.cell? ⟨b, off + i * 5 + 4, none⟩ = some (.slice L.a L.args.length L.c) ∧ TIn w S L := by
  obtain ⟨h1, h2, h3, h4⟩ := h.get hi
  exact ⟨T.b, T.off, h1, h2, h3.lt, h3.c0, h3.c1, h3.c2, h3.c3, h3.c4, h4⟩

abbrev tl (T : Tr) : List Value := [.int .i64 T.k, .int .i64 T.n, .string T.s, .slice T.la T.ls.length T.lc, .slice T.a T.args.length T.c]

set_option maxRecDepth 100000 in
set_option maxHeartbeats 400000 in
theorem rsize_neg (T : Tr) (most : Int) (w : World) (hm : most < 0) (hlen : T.args.length ≤ 9223372036854775807) : Calls Tryd.prog 23 #[T.val, .int .i64 most] w fun e w' => e = .returned (.int .i64 1) ∧ Below w.heap.size w w' := by
  unfold Tr.val
  generalize T.args.length = len at *
  by_cases h0 : len = 0
  · subst h0
    go_enter Tryd.func23, Tryd.ntmps23
    go_wp2_with fail
    go_loopw [5, 6] (fun x i wr => x = .int .i64 1 ∧ i = .int .i64 0 ∧ wr = w.alloc (.cells #[.int .i64 T.k, .int .i64 T.n, .string T.s, .slice T.la T.ls.length T.lc, .slice T.a 0 T.c] 33)) (fun _ _ _ => 0)
    case atStart => exact ⟨rfl, rfl, rfl⟩
    case round =>
      obtain ⟨rfl, rfl, rfl⟩ := hrel
      go_wp2_with fail
      go_ret
      exact ⟨rfl, below_allocG _ _⟩
  · have hpos : (0 : Int) < (len : Int) := by omega
    go_enter Tryd.func23, Tryd.ntmps23
    go_wp2_with fail
    go_loopw [5, 6] (fun x i wr => x = .int .i64 1 ∧ i = .int .i64 0 ∧ wr = w.alloc (.cells #[.int .i64 T.k, .int .i64 T.n, .string T.s, .slice T.la T.ls.length T.lc, .slice T.a len T.c] 33)) (fun _ _ _ => 0)
    case atStart => exact ⟨rfl, rfl, rfl⟩
    case round =>
      obtain ⟨rfl, rfl, rfl⟩ := hrel
      go_wp2_with fail
      go_ret
      exact ⟨rfl, below_allocG _ _⟩

set_option maxRecDepth 100000 in
set_option maxHeartbeats 1000000 in
theorem rsize_node (T : Tr) (ih : ∀ L ∈ T.args, ∀ (most : Int) (w : World) (B : Nat), 0 ≤ most → most ≤ 9223372036854775807 → (most ≤ 4611686018427387904 ∨ L.size ≤ 4611686018427387904) → B ≤ w.heap.size → TIn w (· < B) L →
      Calls Tryd.prog 23 #[L.val, .int .i64 most] w fun e w' => e = .returned (.int .i64 (min (L.size : Int) (most + 1))) ∧ Below w.heap.size w w')
    (most : Int) (w : World) (B : Nat) (hm0 : 0 ≤ most) (hm1 : most ≤ 9223372036854775807) (hsm : most ≤ 4611686018427387904 ∨ T.size ≤ 4611686018427387904) (hB : B ≤ w.heap.size) (hin : TIn w (· < B) T) :
    Calls Tryd.prog 23 #[T.val, .int .i64 most] w fun e w' => e = .returned (.int .i64 (min (T.size : Int) (most + 1))) ∧ Below w.heap.size w w' := by
  have hN := tin_iff.1 hin
  have hle := hN.le
  have hmx := hN.max
  rw [T.size_eq] at hsm ⊢
  obtain ⟨w1, hw1, hb1, X1, hs1⟩ := one_newG w (tl T) 33
  have hss : ∀ j, Tr.sizes (T.args.take j) ≤ Tr.sizes T.args := fun j => Tr.sizes_take_le T.args j
  have HSM : Hid (most ≤ 4611686018427387904 ∨ Tr.sizes T.args + 1 ≤ 4611686018427387904) := hsm
  clear hsm
  unfold Tr.val
  unfold tl at hw1 X1
  obtain ⟨k, n, s, ls, la, lc, a, c0, tb, toff, args⟩ := T
  simp only [Tr.k, Tr.n, Tr.s, Tr.ls, Tr.la, Tr.lc, Tr.a, Tr.c, Tr.args] at hle hmx ih hss HSM hw1 X1 ⊢
  go_enter Tryd.func23, Tryd.ntmps23
  go_wp2_with fail
  go_loopw [5, 6] (fun x i wr => ∃ (c : Int) (j : Nat), x = .int .i64 c ∧ i = .int .i64 (j : Int) ∧ j ≤ args.length ∧ c = min ((Tr.sizes (args.take j) + 1 : Nat) : Int) (most + 1) ∧ Blk wr w.heap.size 33 [.int .i64 k, .int .i64 n, .string s, .slice la ls.length lc, .slice a args.length c0] ∧ Below w.heap.size w wr) (fun _ i _ => args.length - (intOf i).toNat)
  case atStart => exact ⟨1, 0, rfl, rfl, by omega, by simp [Tr.sizes]; omega, X1, hb1⟩
  case round =>
    obtain ⟨c, j, rfl, rfl, hj, hc, hb, hbel⟩ := hrel
    have x4 := hb.cell (j := 4) rfl
    have HC : Hid (c = min ((Tr.sizes (args.take j) + 1 : Nat) : Int) (most + 1)) := hc
    have hc1 : c ≤ most + 1 := by omega
    have hc3 : c ≤ ((Tr.sizes (args.take j) : Nat) : Int) + 1 := by omega
    have hc0 : 1 ≤ c := by omega
    have hc2 : c ≤ 4611686018427387905 := by have := HSM.out; have := hss j; omega
    clear hc
    have hsz : w.heap.size ≤ wr.heap.size := hbel.size
    by_cases hlt : j < args.length
    · by_cases hcm : c ≤ most
      · obtain ⟨L, hL⟩ : ∃ L, args[j]? = some L := ⟨_, List.getElem?_eq_getElem hlt⟩
        obtain ⟨b, off, ha, hS, hbl, e0, e1, e2, e3, e4, hL'⟩ := (hin.below hbel hB).arg (T := .mk k n s ls la lc a c0 tb toff args) hL
        simp only [Tr.a] at ha
        subst ha
        have hst := Tr.sizes_take hL
        have hmem := List.mem_of_getElem? hL
        have hsL := Tr.size_mem hmem
        have HL : Hid (Tr.sizes (args.take (j + 1)) = Tr.sizes (args.take j) + L.size ∧ L.size ≤ Tr.sizes args) := ⟨hst, hsL⟩
        have hcall := ih L hmem (most - c) wr B (by omega) (by omega) (by have := HSM.out; omega) (by omega) hL'
        clear hL hst hsL hmem
        simp only [Tr.val] at hcall
        have hres : c + min (L.size : Int) (most - c + 1) ≤ 9223372036854775807 := by have h1 := HSM.out; have h2 := HL.out; have h3 := hss (j + 1); clear HC; omega
        have hres0 : 0 ≤ min (L.size : Int) (most - c + 1) := by omega
        generalize hg : min (L.size : Int) (most - c + 1) = rr at *
        have HG : Hid (min (L.size : Int) (most - c + 1) = rr) := hg
        clear hg
        go_wp2_with (go_at_call 23; refine hcall.mono ?_; rintro e w' ⟨rfl, hb2⟩)
        go_roundw
        case rel =>
          have h1 := HL.out
          have h2 := HC.out
          have h3 := HG.out
          exact ⟨c + rr, j + 1, by go_num, by go_num, by omega, by omega, hb.below hb2 hb.lt, hbel.trans (hb2.mono hsz)⟩
        case measure => simp [intOf]; omega
      · go_wp2_with fail
        go_ret
        have h3 := hss j
        have h2 := HC.out
        exact ⟨ret_int (by omega), hbel⟩
    · by_cases hcm : c ≤ most
      · go_wp2_with fail
        go_ret
        have h2 := HC.out
        rw [List.take_of_length_le (by omega)] at h2
        exact ⟨ret_int (by omega), hbel⟩
      · go_wp2_with fail
        go_ret
        have h2 := HC.out
        rw [List.take_of_length_le (by omega)] at h2
        exact ⟨ret_int (by omega), hbel⟩

theorem rsize_pos (T : Tr) : ∀ (most : Int) (w : World) (B : Nat), 0 ≤ most → most ≤ 9223372036854775807 → (most ≤ 4611686018427387904 ∨ T.size ≤ 4611686018427387904) → B ≤ w.heap.size → TIn w (· < B) T →
    Calls Tryd.prog 23 #[T.val, .int .i64 most] w fun e w' => e = .returned (.int .i64 (min (T.size : Int) (most + 1))) ∧ Below w.heap.size w w' := by
  refine Tr.ind' (P := fun T => ∀ (most : Int) (w : World) (B : Nat), 0 ≤ most → most ≤ 9223372036854775807 → (most ≤ 4611686018427387904 ∨ T.size ≤ 4611686018427387904) → B ≤ w.heap.size → TIn w (· < B) T →
    Calls Tryd.prog 23 #[T.val, .int .i64 most] w fun e w' => e = .returned (.int .i64 (min (T.size : Int) (most + 1))) ∧ Below w.heap.size w w') ?_ T
  intro T ih most w B h1 h2 h3 h4 h5
  exact rsize_node T ih most w B h1 h2 h3 h4 h5

theorem rsize_any (T : Tr) (most : Int) (w : World) (B : Nat) (hm1 : most ≤ 9223372036854775807) (hsm : most ≤ 4611686018427387904 ∨ T.size ≤ 4611686018427387904) (hB : B ≤ w.heap.size) (hin : TIn w (· < B) T) :
    Calls Tryd.prog 23 #[T.val, .int .i64 most] w fun e w' => e = .returned (.int .i64 (min (T.size : Int) (max most 0 + 1))) ∧ Below w.heap.size w w' := by
  by_cases h : 0 ≤ most
  · rw [show max most 0 = most by omega]; exact rsize_pos T most w B h hm1 hsm hB hin
  · rw [show min (T.size : Int) (max most 0 + 1) = 1 by have := T.size_pos; omega]
    have hN := tin_iff.1 hin
    exact rsize_neg T most w (by omega) (Nat.le_trans hN.le hN.max)

end Go.Proofs.YtkbpmpcbajnmlaaDoor

/- What the statement CodecDeep's bytes say, by the kernel. No condition. -/
namespace Go.Proofs.YtkbpmpcbajnmlaaDoor
open Go.RowKit

/-- The error's number. -/
def erC {α : Type} : Er α → Nat
  | .ok _ => 0
  | .bad c => c

def bS (c : Nat) : Bs := List.replicate c 1 ++ [0]
def bL (c : Nat) : Bs := (List.replicate c ([4, 0, 0] : Bs)).flatten ++ [0, 0]
def bM (c : Nat) : Bs := (List.replicate c ([2, 0] : Bs)).flatten ++ [0]

theorem deep_S : ∀ d, d < 6 → erC (rLevel (bS (28 + d))) = if d ≤ 3 then 0 else 6 := by decide +kernel
theorem deep_L : ∀ d, d < 6 → erC (rTerm (bL (96 + d))) = if d ≤ 3 then 0 else 6 := by decide +kernel
theorem deep_M : ∀ d, d < 6 → erC (rLevel (bM ((61 + d) / 2))) = if (61 + d) / 2 + 1 > 32 then 6 else 0 := by decide +kernel

def wP : Nat → Pm
  | 0 => .mk 0 0 ⟨#[]⟩ [] []
  | k + 1 => .mk 3 0 ⟨#[]⟩ [] [wP k, wP k]
def wB : Nat → Bs
  | 0 => [0, 0]
  | k + 1 => 3 :: (wB k ++ wB k)

theorem deep_W : ∀ d, d < 3 → erC (rTerm (wB (9 + d))) = if d = 0 then 0 else 3 := by decide +kernel

theorem uv0 : Lib.uvarint 0 = [0] := by rw [Lib.uvarint]; simp
theorem uv3 : Lib.uvarint 3 = [3] := by rw [Lib.uvarint]; simp
theorem eT_wP (k : Nat) : eT (wP k) = wB k := by
  induction k with
  | zero => simp [wP, wB, eT_mk, eHead, eTs, uv0]
  | succ k ih => simp [wP, wB, eT_mk, eHead, eTs, uv3, ih]
theorem wB_len (k : Nat) : (wB k).length = 3 * 2 ^ k - 1 := by
  induction k with
  | zero => rfl
  | succ k ih =>
    have : 1 ≤ 2 ^ k := Nat.one_le_two_pow
    simp only [wB, List.length_cons, List.length_append, ih, Nat.pow_succ]
    omega
end Go.Proofs.YtkbpmpcbajnmlaaDoor

/- The walk of the document's App. No condition but that its terms lie in memory, that no list in them is longer than 2^40, and that their numbers have room. -/
namespace Go.Proofs.YtkbpmpcbajnmlaaDoor
open Go.RowKit

set_option maxRecDepth 100000 in
set_option maxHeartbeats 4000000 in
theorem app_any (T0 T1 : Tr) (hok : LfOk 0 T1) (hsz : T1.size ≤ 9223372036854775807) (w : World) (S : Nat → Prop) (hS : ∀ b, S b → b < w.heap.size) (hin : TIn w S T0) (hin1 : TIn w S T1) :
    Calls Tryd.prog 41 #[T0.val, T1.val] w fun e w' => ∃ P : Tr, e = .returned P.val ∧ P.pl = .mk 3 0 ⟨#[]⟩ [] [T0.pl, T1.pl] ∧ TIn w' (fun b => S b ∨ (w.heap.size ≤ b ∧ b < w'.heap.size)) P ∧ Below w.heap.size w w' := by
  obtain ⟨w1, hw1, hb1, P0, P1, P2, hs1⟩ := three_newG w [.int .i64 T0.k, .int .i64 T0.n, .string T0.s, .slice T0.la T0.ls.length T0.lc, .slice T0.a T0.args.length T0.c] [.int .i64 T1.k, .int .i64 T1.n, .string T1.s, .slice T1.la T1.ls.length T1.lc, .slice T1.a T1.args.length T1.c] [.int .i64 0, .int .i64 0, .string { data := #[] }, .slice none 0 0, .slice none 0 0] 33 33 33
  have x0 := P0.cell (j := 0) rfl
  have x1 := P0.cell (j := 1) rfl
  have x2 := P0.cell (j := 2) rfl
  have x3 := P0.cell (j := 3) rfl
  have x4 := P0.cell (j := 4) rfl
  have v0 := P1.cell (j := 0) rfl
  have v1 := P1.cell (j := 1) rfl
  have v2 := P1.cell (j := 2) rfl
  have v3 := P1.cell (j := 3) rfl
  have v4 := P1.cell (j := 4) rfl
  have hi1 : TIn w1.drew (· < w.heap.size) T1 := (TIn.carry (w := w) (w' := w1) (S := (· < w.heap.size)) (fun b hb => hb1.block b hb) (fun b hb => hb) T1 (hin1.mono hS)).drew
  have hcall := rcopy_any T1 hok hsz w1.drew w.heap.size (by show w.heap.size ≤ w1.heap.size; omega) hi1
  have HI : Hid _ := hin
  unfold Tr.val at hcall ⊢
  clear hin hin1 hi1 hok
  go_enter Tryd.func41, Tryd.ntmps41
  go_wp2_with fail
  go_region_law (refine step_call1G (by rfl) 42 enter42 (.tmp 6) #[33] (by rfl) _ (by rfl) (hcall.mono ?_); rintro e w2 ⟨U, rfl, hU, hRL, hb2'⟩; refine ⟨_, rfl, ?_⟩; have hb2 : Below w1.heap.size w1 w2 := Below.trans (Below.refl _ _).drew hb2'; have Q0 := P0.below hb2 P0.lt; have a0 := Q0.cell (j := 0) rfl; have a1 := Q0.cell (j := 1) rfl; have a2 := Q0.cell (j := 2) rfl; have a3 := Q0.cell (j := 3) rfl; have a4 := Q0.cell (j := 4) rfl; obtain ⟨w3, hw3, hb3, P3, hs3⟩ := one_newG w2 [.int .i64 T0.k, .int .i64 T0.n, .string T0.s, .slice T0.la T0.ls.length T0.lc, .slice T0.a T0.args.length T0.c, .int .i64 U.k, .int .i64 U.n, .string U.s, .slice U.la U.ls.length U.lc, .slice U.a U.args.length U.c] 33; have Q2 := (P2.below hb2 P2.lt).below hb3 (by have := hb2.size; omega); have y0 := Q2.cell (j := 0) rfl; have y1 := Q2.cell (j := 1) rfl; have y2 := Q2.cell (j := 2) rfl; have y3 := Q2.cell (j := 3) rfl; have y4 := Q2.cell (j := 4) rfl; have f0 := Q2.frozen 0; have f1 := Q2.frozen 1; have f2 := Q2.frozen 2; have f3 := Q2.frozen 3; have f4 := Q2.frozen 4; unfold Tr.val)
  all_goals
    go_wp2_with fail
    obtain ⟨Q, K⟩ := st5G Q2 (.int .i64 3) (.int .i64 0) (.string { data := #[] }) (.slice none 0 0) (.slice (some ⟨w2.heap.size, 0, none⟩) 2 2)
    have q0 := Q.cell (j := 0) rfl
    have q1 := Q.cell (j := 1) rfl
    have q2 := Q.cell (j := 2) rfl
    have q3 := Q.cell (j := 3) rfl
    have q4 := Q.cell (j := 4) rfl
    have hs2 := hb2.size
    have hsK := K.size
    have P4 := P3.keep K (by omega)
    have hbf := ((hb1.trans (hb2.mono (by omega))).trans (hb3.mono (by omega))).trans (K.below (B := w.heap.size) (by omega) (by omega))
    refine bodyPost_ret (v := .agg #[.int .i64 3, .int .i64 0, .string { data := #[] }, .slice none 0 0, .slice (some ⟨w2.heap.size, 0, none⟩) 2 2]) (by simp [results, Tryd.results41, go_sem, q0, q1, q2, q3, q4]) rfl ⟨.mk 3 0 ⟨#[]⟩ [] none 0 (some ⟨w2.heap.size, 0, none⟩) 2 w2.heap.size 0 [T0, U], rfl, ?_, ?_, hbf⟩
    · rw [Tr.pl_eq]
      show Pm.mk 3 0 _ [] [T0.pl, U.pl] = _
      rw [rlift_pl hRL rfl]
      rfl
    · rw [tin_iff]
      refine ⟨of_decide_eq_true rfl, of_decide_eq_true rfl, of_decide_eq_true rfl, of_decide_eq_true rfl, node_none _ _, of_decide_eq_true rfl, of_decide_eq_true rfl, .inr ⟨rfl, .inr ⟨by show w.heap.size ≤ w2.heap.size; omega, by show w2.heap.size < _; omega⟩, ?_⟩⟩
      show TAll _ _ w2.heap.size 0 [T0, U]
      refine tall_cons.2 ⟨⟨⟨P4.cell (j := 0) rfl, P4.cell (j := 1) rfl, P4.cell (j := 2) rfl, P4.cell (j := 3) rfl, P4.cell (j := 4) rfl⟩, ?_⟩, tall_cons.2 ⟨⟨⟨P4.cell (j := 5) rfl, P4.cell (j := 6) rfl, P4.cell (j := 7) rfl, P4.cell (j := 8) rfl, P4.cell (j := 9) rfl⟩, ?_⟩, by rw [TAll]; trivial⟩⟩
      · exact TIn.carry (w := w) (S := S) (fun b hb => hbf.block b (hS b hb)) (fun b hb => .inl hb) T0 HI.out
      · exact TIn.carry (w := w2) (fun b hb => (K.block b (by have := hb.2; omega) (by have h1 : w1.drew.heap.size ≤ b := hb.1; have h2 : w1.drew.heap.size = w1.heap.size := rfl; omega)).trans (hb3.block b hb.2)) (fun b hb => .inr ⟨by have h1 : w1.drew.heap.size ≤ b := hb.1; have h2 : w1.drew.heap.size = w1.heap.size := rfl; omega, by have := hb.2; omega⟩) U hU
end Go.Proofs.YtkbpmpcbajnmlaaDoor

/- The walk of the statement CodecDeep's wide. No condition but that it is not deeper than 20. -/
namespace Go.Proofs.YtkbpmpcbajnmlaaDoor
open Go.RowKit

theorem wP_args {T : Tr} {k : Nat} (h : T.pl = wP (k + 1)) : T.k = 3 ∧ T.ls = [] ∧ T.args.length = 2 ∧ ∀ U ∈ T.args, U.pl = wP k := by
  rw [Tr.pl_eq, wP] at h
  simp only [Pm.mk.injEq] at h
  obtain ⟨h1, h2, h3, h4, h5⟩ := h
  have hl := congrArg List.length h5
  simp only [List.length_map, List.length_cons, List.length_nil] at hl
  refine ⟨h1, h4, hl, fun U hU => ?_⟩
  have hm : U.pl ∈ T.args.map Tr.pl := List.mem_map_of_mem hU
  rw [h5] at hm
  simpa using hm
theorem wP_leaf {T : Tr} (h : T.pl = wP 0) : T.n = 0 ∧ T.ls = [] ∧ T.args = [] := by
  rw [Tr.pl_eq, wP] at h
  simp only [Pm.mk.injEq] at h
  obtain ⟨h1, h2, h3, h4, h5⟩ := h
  exact ⟨h2, h4, by simpa using h5⟩

theorem wP_ok (k : Nat) : ∀ T : Tr, T.pl = wP k → LfOk 0 T := by
  induction k with
  | zero =>
    intro T h
    obtain ⟨h1, h2, h3⟩ := wP_leaf h
    exact .mk (by rw [h2]; decide) (by rw [h2]; simp) (by rw [h3]; decide) (fun _ => by rw [h1]; decide) (by rw [h3]; simp)
  | succ k ih =>
    intro T h
    obtain ⟨h1, h2, h3, h4⟩ := wP_args h
    exact .mk (by rw [h2]; decide) (by rw [h2]; simp) (by rw [h3]; decide) (fun hk => by rw [h1] at hk; cases hk) (fun L hL => ih L (h4 L hL))

theorem wP_size (k : Nat) : ∀ T : Tr, T.pl = wP k → T.size = 2 ^ (k + 1) - 1 := by
  induction k with
  | zero =>
    intro T h
    obtain ⟨h1, h2, h3⟩ := wP_leaf h
    rw [Tr.size_eq, h3]; rfl
  | succ k ih =>
    intro T h
    obtain ⟨h1, h2, h3, h4⟩ := wP_args h
    rw [Tr.size_eq]
    match ha : T.args, h3 with
    | [A, B], _ =>
      rw [ha] at h4
      have hA := ih A (h4 A (by simp))
      have hB := ih B (h4 B (by simp))
      have : 1 ≤ 2 ^ (k + 1) := Nat.one_le_two_pow
      simp only [Tr.sizes, hA, hB]
      rw [Nat.pow_succ 2 (k + 1)]
      omega

theorem wP_wf (k : Nat) : WfT (wP k) := by
  induction k with
  | zero => exact .mk ⟨by decide, by decide, by decide, by decide, rfl, fun _ => rfl, fun _ => rfl, ⟨fun h => absurd h (by decide), fun _ _ => rfl, by decide⟩, by simp⟩ (by simp)
  | succ k ih => exact .mk ⟨by decide, by decide, by decide, by decide, rfl, fun _ => rfl, fun _ => rfl, ⟨fun h => absurd h (by decide), fun _ _ => rfl, by decide⟩, by simp⟩ (fun t ht => by simp at ht; rw [ht]; exact ih)

/-- In the midst of wide. -/
structure WdS (w wr : World) (g3 j : Nat) (T : Tr) : Prop where
  pl : T.pl = wP (j - 1)
  res : Blk wr w.heap.size 33 [.int .i64 0, .int .i64 0, .string { data := #[] }, .slice none 0 0, .slice none 0 0]
  blk : Blk wr g3 33 [.int .i64 T.k, .int .i64 T.n, .string T.s, .slice T.la T.ls.length T.lc, .slice T.a T.args.length T.c]
  inn : TIn wr (fun b => b < wr.heap.size ∧ b ≠ w.heap.size ∧ b ≠ g3) T
  bel : Below w.heap.size w wr

set_option maxRecDepth 100000 in
set_option maxHeartbeats 4000000 in
theorem wideT_any (k : Nat) (hk : 1 ≤ k) (hk2 : k ≤ 20) (w : World) : Calls Tryd.prog 22 #[.int .i64 (k : Int)] w fun e w' => ∃ T, e = .returned (Tr.val T) ∧ T.pl = wP (k - 1) ∧ TIn w' (· < w'.heap.size) T ∧ Below w.heap.size w w' := by
  obtain ⟨w1, hw1, hb1, P1, hs1⟩ := one_newE w [.int .i64 0, .int .i64 0, .string { data := #[] }, .slice none 0 0, .slice none 0 0] 33
  have H1 : Hid _ := hw1
  clear hw1
  go_enter Tryd.func22, Tryd.ntmps22
  go_wp2_with fail
  rw [H1.out]
  refine (var_tm 0 w1).mono ?_
  rintro e w2 ⟨rfl, hb2⟩
  have z2 := hb2.size
  obtain ⟨w3, hw3, hb3, P3, hs3⟩ := one_newE w2 [.int .i64 0, .int .i64 0, .string { data := #[] }, .slice none 0 0, .slice none 0 0] 33
  have H3 : Hid _ := hw3
  have R0 : WdS w w3 w2.heap.size 1 tV := ⟨rfl, (P1.below hb2 P1.lt).below hb3 (by have := P1.lt; omega), P3, tV_in _ _, (hb1.trans (hb2.mono (by omega))).trans (hb3.mono (by omega))⟩
  obtain ⟨g3, hg3⟩ : ∃ g3, w2.heap.size = g3 := ⟨_, rfl⟩
  have hg3w : w.heap.size < g3 := by omega
  clear hw3 P1 P3
  go_wp2_with fail
  rw [H3.out]
  rw [hg3] at R0
  clear hg3
  go_loopw [4] (fun i wr => ∃ (j : Nat) (T : Tr), i = .int .i64 (j : Int) ∧ 1 ≤ j ∧ j ≤ k ∧ WdS w wr g3 j T) (fun i _ => k - (intOf i).toNat)
  case atStart => exact ⟨1, tV, rfl, by omega, hk, R0⟩
  case round =>
    clear R0
    obtain ⟨j, T, rfl, hj1, hjk, R⟩ := hrel
    have c0 := R.blk.cell (j := 0) rfl
    have c1 := R.blk.cell (j := 1) rfl
    have c2 := R.blk.cell (j := 2) rfl
    have c3 := R.blk.cell (j := 3) rfl
    have c4 := R.blk.cell (j := 4) rfl
    by_cases hlt : j < k
    · have hd : decide ((j : Int) < (k : Int)) = true := decide_eq_true (by omega)
      have hsz := wP_size _ T R.pl
      have hpw : 2 ^ (j - 1 + 1) ≤ 2 ^ 20 := Nat.pow_le_pow_right (by decide) (by omega)
      have ha := app_any T T (wP_ok _ T R.pl) (by omega) wr _ (fun b hb => hb.1) R.inn R.inn
      unfold Tr.val at ha
      have HR : Hid _ := R
      clear R hsz hpw
      go_wp2_with fail
      refine ha.mono ?_
      rintro e w5 ⟨P, rfl, hP, iP, b5⟩
      have G5 := HR.out.blk.below b5 HR.out.blk.lt
      have glt := HR.out.blk.lt
      have z5 := b5.size
      have d0 := G5.cell (j := 0) rfl
      have d1 := G5.cell (j := 1) rfl
      have d2 := G5.cell (j := 2) rfl
      have d3 := G5.cell (j := 3) rfl
      have d4 := G5.cell (j := 4) rfl
      have f5 := G5.frozen
      clear ha c0 c1 c2 c3 c4
      go_wp2_with fail
      obtain ⟨G6, K6⟩ := st5G G5 (.int .i64 P.k) (.int .i64 P.n) (.string P.s) (.slice P.la P.ls.length P.lc) (.slice P.a P.args.length P.c)
      have z6 := K6.size
      have R6 := HR.out
      go_roundw
      case rel =>
        refine ⟨j + 1, P, by simp, by omega, by omega, ?_, (R6.res.below b5 R6.res.lt).keep K6 (by omega), G6, ?_, R6.bel.trans ((b5.mono R6.bel.size).trans (K6.below (by have := R6.bel.size; omega) (fun k e => by omega)))⟩
        · rw [hP, R6.pl, show j + 1 - 1 = (j - 1) + 1 by omega, wP]
        · refine TIn.carry (w := w5) (fun b hb => K6.block b ?_ ?_) (fun b hb => ⟨?_, ?_, ?_⟩) P iP
          all_goals
            have hr := R6.res.lt
            rcases hb with hb | hb
            all_goals omega
      case measure => simp [intOf]; omega
    · have hd : decide ((j : Int) < (k : Int)) = false := decide_eq_false (by omega)
      obtain rfl : j = k := by omega
      have r0 := R.res.cell (j := 0) rfl
      have r1 := R.res.cell (j := 1) rfl
      have r2 := R.res.cell (j := 2) rfl
      have r3 := R.res.cell (j := 3) rfl
      have r4 := R.res.cell (j := 4) rfl
      have fr := R.res.frozen
      have HR : Hid _ := R
      clear R
      go_wp2_with fail
      obtain ⟨Q, K⟩ := st5G HR.out.res (.int .i64 T.k) (.int .i64 T.n) (.string T.s) (.slice T.la T.ls.length T.lc) (.slice T.a T.args.length T.c)
      have q0 := Q.cell (j := 0) rfl
      have q1 := Q.cell (j := 1) rfl
      have q2 := Q.cell (j := 2) rfl
      have q3 := Q.cell (j := 3) rfl
      have q4 := Q.cell (j := 4) rfl
      have zK := K.size
      refine bodyPost_ret (v := .agg #[.int .i64 T.k, .int .i64 T.n, .string T.s, .slice T.la T.ls.length T.lc, .slice T.a T.args.length T.c]) (by simp [results, Tryd.results22, go_sem, q0, q1, q2, q3, q4]) rfl ⟨T, rfl, HR.out.pl, ?_, HR.out.bel.trans (K.below HR.out.bel.size (fun k e => by omega))⟩
      exact TIn.carry (fun b hb => K.block b hb.1 hb.2.1) (fun b hb => by have := hb.1; omega) T HR.out.inn
end Go.Proofs.YtkbpmpcbajnmlaaDoor
