/- The walk of the document's Size of terms. No condition but that the term lies in memory. -/
import Derived.Test.YtemgmphddmlmlaaNums
namespace Go.Proofs.Ytemgmphddmlmlaa
open Go.RowKit

/-- The i-th arg, read as a value. -/
theorem TIn.arg {w : World} {S : Nat → Prop} {T : Tr} (h : TIn w S T) {i : Nat} {L : Tr} (hi : T.args[i]? = some L) :
    ∃ b off, T.a = some ⟨b, off, none⟩ ∧ S b ∧ b < w.heap.size ∧ w.cell? ⟨b, off + i * 5, none⟩ = some (.int .i64 L.k) ∧ w.cell? ⟨b, off + i * 5 + 1, none⟩ = some (.int .i64 L.n) ∧ w.cell? ⟨b, off + i * 5 + 2, none⟩ = some (.string L.s) ∧
      w.cell? ⟨b, off + i * 5 + 3, none⟩ = some (.slice L.la L.ls.length L.lc) ∧ w.cell? ⟨b, off + i * 5 + 4, none⟩ = some (.slice L.a L.args.length L.c) ∧ TIn w S L := by
  obtain ⟨h1, h2, h3, h4⟩ := h.get hi
  exact ⟨T.b, T.off, h1, h2, h3.lt, h3.c0, h3.c1, h3.c2, h3.c3, h3.c4, h4⟩

abbrev tl (T : Tr) : List Value := [.int .i64 T.k, .int .i64 T.n, .string T.s, .slice T.la T.ls.length T.lc, .slice T.a T.args.length T.c]

set_option maxRecDepth 100000 in
set_option maxHeartbeats 400000 in
theorem rsize_neg (T : Tr) (most : Int) (w : World) (hm : most < 0) (hlen : T.args.length ≤ 9223372036854775807) : Calls Try.prog 6 #[T.val, .int .i64 most] w fun e w' => e = .returned (.int .i64 1) ∧ Below w.heap.size w w' := by
  unfold Tr.val
  generalize T.args.length = len at *
  by_cases h0 : len = 0
  · subst h0
    go_enter Try.func6, Try.ntmps6
    go_wp2_with fail
    go_loopw [5, 6] (fun x i wr => x = .int .i64 1 ∧ i = .int .i64 0 ∧ wr = w.alloc (.cells #[.int .i64 T.k, .int .i64 T.n, .string T.s, .slice T.la T.ls.length T.lc, .slice T.a 0 T.c] 27)) (fun _ _ _ => 0)
    case atStart => exact ⟨rfl, rfl, rfl⟩
    case round =>
      obtain ⟨rfl, rfl, rfl⟩ := hrel
      go_wp2_with fail
      go_ret
      exact ⟨rfl, below_alloc _ _⟩
  · have hpos : (0 : Int) < (len : Int) := by omega
    go_enter Try.func6, Try.ntmps6
    go_wp2_with fail
    go_loopw [5, 6] (fun x i wr => x = .int .i64 1 ∧ i = .int .i64 0 ∧ wr = w.alloc (.cells #[.int .i64 T.k, .int .i64 T.n, .string T.s, .slice T.la T.ls.length T.lc, .slice T.a len T.c] 27)) (fun _ _ _ => 0)
    case atStart => exact ⟨rfl, rfl, rfl⟩
    case round =>
      obtain ⟨rfl, rfl, rfl⟩ := hrel
      go_wp2_with fail
      go_ret
      exact ⟨rfl, below_alloc _ _⟩

set_option maxRecDepth 100000 in
set_option maxHeartbeats 1000000 in
theorem rsize_node (T : Tr) (ih : ∀ L ∈ T.args, ∀ (most : Int) (w : World) (B : Nat), 0 ≤ most → most ≤ 9223372036854775807 → (most ≤ 4611686018427387904 ∨ L.size ≤ 4611686018427387904) → B ≤ w.heap.size → TIn w (· < B) L →
      Calls Try.prog 6 #[L.val, .int .i64 most] w fun e w' => e = .returned (.int .i64 (min (L.size : Int) (most + 1))) ∧ Below w.heap.size w w')
    (most : Int) (w : World) (B : Nat) (hm0 : 0 ≤ most) (hm1 : most ≤ 9223372036854775807) (hsm : most ≤ 4611686018427387904 ∨ T.size ≤ 4611686018427387904) (hB : B ≤ w.heap.size) (hin : TIn w (· < B) T) :
    Calls Try.prog 6 #[T.val, .int .i64 most] w fun e w' => e = .returned (.int .i64 (min (T.size : Int) (most + 1))) ∧ Below w.heap.size w w' := by
  have hN := tin_iff.1 hin
  have hle := hN.le
  have hmx := hN.max
  rw [T.size_eq] at hsm ⊢
  obtain ⟨w1, hw1, hb1, X1, hs1⟩ := one_new w (tl T) 27
  have hss : ∀ j, Tr.sizes (T.args.take j) ≤ Tr.sizes T.args := fun j => Tr.sizes_take_le T.args j
  have HSM : Hid (most ≤ 4611686018427387904 ∨ Tr.sizes T.args + 1 ≤ 4611686018427387904) := hsm
  clear hsm
  unfold Tr.val
  unfold tl at hw1 X1
  obtain ⟨k, n, s, ls, la, lc, a, c0, tb, toff, args⟩ := T
  simp only [Tr.k, Tr.n, Tr.s, Tr.ls, Tr.la, Tr.lc, Tr.a, Tr.c, Tr.args] at hle hmx ih hss HSM hw1 X1 ⊢
  go_enter Try.func6, Try.ntmps6
  go_wp2_with fail
  go_loopw [5, 6] (fun x i wr => ∃ (c : Int) (j : Nat), x = .int .i64 c ∧ i = .int .i64 (j : Int) ∧ j ≤ args.length ∧ c = min ((Tr.sizes (args.take j) + 1 : Nat) : Int) (most + 1) ∧ Blk wr w.heap.size 27 [.int .i64 k, .int .i64 n, .string s, .slice la ls.length lc, .slice a args.length c0] ∧ Below w.heap.size w wr) (fun _ i _ => args.length - (intOf i).toNat)
  case atStart => exact ⟨1, 0, rfl, rfl, by omega, by simp [Tr.sizes]; omega, X1, hb1⟩
  case round =>
    obtain ⟨c, j, rfl, rfl, hj, hc, hb, hbel⟩ := hrel
    have x4 := hb.cell (j := 4) rfl
    have HC : Hid (c = min ((Tr.sizes (args.take j) + 1 : Nat) : Int) (most + 1)) := hc
    have hc1 : c ≤ most + 1 := by omega
    have hc3 : c ≤ ((Tr.sizes (args.take j) : Nat) : Int) + 1 := by omega
    have hc0 : 1 ≤ c := by omega
    have hc2 : c ≤ 4611686018427387905 := by have := HSM.out; have := hss j; omega
    clear hc
    have hsz : w.heap.size ≤ wr.heap.size := hbel.size
    by_cases hlt : j < args.length
    · by_cases hcm : c ≤ most
      · obtain ⟨L, hL⟩ : ∃ L, args[j]? = some L := ⟨_, List.getElem?_eq_getElem hlt⟩
        obtain ⟨b, off, ha, hS, hbl, e0, e1, e2, e3, e4, hL'⟩ := (hin.below hbel hB).arg (T := .mk k n s ls la lc a c0 tb toff args) hL
        simp only [Tr.a] at ha
        subst ha
        have hst := Tr.sizes_take hL
        have hmem := List.mem_of_getElem? hL
        have hsL := Tr.size_mem hmem
        have HL : Hid (Tr.sizes (args.take (j + 1)) = Tr.sizes (args.take j) + L.size ∧ L.size ≤ Tr.sizes args) := ⟨hst, hsL⟩
        have hcall := ih L hmem (most - c) wr B (by omega) (by omega) (by have := HSM.out; omega) (by omega) hL'
        clear hL hst hsL hmem
        simp only [Tr.val] at hcall
        have hres : c + min (L.size : Int) (most - c + 1) ≤ 9223372036854775807 := by have h1 := HSM.out; have h2 := HL.out; have h3 := hss (j + 1); clear HC; omega
        have hres0 : 0 ≤ min (L.size : Int) (most - c + 1) := by omega
        generalize hg : min (L.size : Int) (most - c + 1) = rr at *
        have HG : Hid (min (L.size : Int) (most - c + 1) = rr) := hg
        clear hg
        go_wp2_with (go_at_call 6; refine hcall.mono ?_; rintro e w' ⟨rfl, hb2⟩)
        go_roundw
        case rel =>
          have h1 := HL.out
          have h2 := HC.out
          have h3 := HG.out
          exact ⟨c + rr, j + 1, by go_num, by go_num, by omega, by omega, hb.below hb2 hb.lt, hbel.trans (hb2.mono hsz)⟩
        case measure => simp [intOf]; omega
      · go_wp2_with fail
        go_ret
        have h3 := hss j
        have h2 := HC.out
        exact ⟨ret_int (by omega), hbel⟩
    · by_cases hcm : c ≤ most
      · go_wp2_with fail
        go_ret
        have h2 := HC.out
        rw [List.take_of_length_le (by omega)] at h2
        exact ⟨ret_int (by omega), hbel⟩
      · go_wp2_with fail
        go_ret
        have h2 := HC.out
        rw [List.take_of_length_le (by omega)] at h2
        exact ⟨ret_int (by omega), hbel⟩

theorem rsize_pos (T : Tr) : ∀ (most : Int) (w : World) (B : Nat), 0 ≤ most → most ≤ 9223372036854775807 → (most ≤ 4611686018427387904 ∨ T.size ≤ 4611686018427387904) → B ≤ w.heap.size → TIn w (· < B) T →
    Calls Try.prog 6 #[T.val, .int .i64 most] w fun e w' => e = .returned (.int .i64 (min (T.size : Int) (most + 1))) ∧ Below w.heap.size w w' := by
  refine Tr.ind' (P := fun T => ∀ (most : Int) (w : World) (B : Nat), 0 ≤ most → most ≤ 9223372036854775807 → (most ≤ 4611686018427387904 ∨ T.size ≤ 4611686018427387904) → B ≤ w.heap.size → TIn w (· < B) T →
    Calls Try.prog 6 #[T.val, .int .i64 most] w fun e w' => e = .returned (.int .i64 (min (T.size : Int) (most + 1))) ∧ Below w.heap.size w w') ?_ T
  intro T ih most w B h1 h2 h3 h4 h5
  exact rsize_node T ih most w B h1 h2 h3 h4 h5

theorem rsize_any (T : Tr) (most : Int) (w : World) (B : Nat) (hm1 : most ≤ 9223372036854775807) (hsm : most ≤ 4611686018427387904 ∨ T.size ≤ 4611686018427387904) (hB : B ≤ w.heap.size) (hin : TIn w (· < B) T) :
    Calls Try.prog 6 #[T.val, .int .i64 most] w fun e w' => e = .returned (.int .i64 (min (T.size : Int) (max most 0 + 1))) ∧ Below w.heap.size w w' := by
  by_cases h : 0 ≤ most
  · rw [show max most 0 = most by omega]; exact rsize_pos T most w B h hm1 hsm hB hin
  · rw [show min (T.size : Int) (max most 0 + 1) = 1 by have := T.size_pos; omega]
    have hN := tin_iff.1 hin
    exact rsize_neg T most w (by omega) (Nat.le_trans hN.le hN.max)

end Go.Proofs.Ytemgmphddmlmlaa
