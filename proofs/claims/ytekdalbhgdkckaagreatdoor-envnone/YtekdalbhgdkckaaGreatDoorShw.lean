/- The walks of package text's constant, term and Show of a Const without Levels, and of names.May: whether a text is a name. No condition but that the tables hold what the program's text lays, and that the text is short. -/
import Derived.Test.YtekdalbhgdkckaaGreatDoorWr
namespace Go.Proofs.YtekdalbhgdkckaaGreatDoor
open Go.RowKit

/-- A Const without Levels. -/
def tC (s : List UInt8) : Tr := .mk 2 0 ⟨s.toArray⟩ [] none 0 none 0 0 0 []

theorem tC_in (w : World) (S : Nat → Prop) (s : List UInt8) : TIn w S (tC s) := by
  unfold tC
  simp only [TIn]
  refine ⟨by omega, by omega, ?_, by simp, by unfold maxLen; omega, .inl trivial⟩
  exact ⟨by omega, by omega, by omega, by omega, by simp, by omega, .inl rfl⟩

theorem tC_may (g : Nat) (s : List UInt8) : mayE g (tC s) 0 4 ≠ 5 := by
  unfold mayE
  have h1 : (Pt.mk g 0 (tC s) 1 0).seq = [Pt.mk g 0 (tC s) 1 0] := by simp [Pt.seq, tC, Tr.seq, Tr.seqs]
  have h2 : (tC s).wholeB = true := by
    simp [Tr.wholeB, Tr.formB, tC, Tr.k, Tr.args, tcnt, constB, Tr.n]
  have h3 : (tC s).size = 1 := by simp [tC, Tr.size, Tr.sizes]
  have h4 : (tC s).depth = 1 := by simp [tC, Tr.depth, Tr.depths]
  rw [h1, h3, h4]
  simp only [allW, List.all_cons, h2, List.all_nil, Bool.and_self, Bool.true_eq_false, if_false, firstE]
  have hk : (tC s).k = 2 := rfl
  have hl : (tC s).lvE 4 = 0 := by simp [Tr.lvE, tC, Tr.ls, lvsB]
  have hc : Pt.chkE ⟨g, 0, tC s, 1, 0⟩ (max 0 0) 4 = if emB (tC s).s = true ∨ 24 < (tC s).s.size then 9 else 0 := by
    simp only [Pt.chkE, hk, Tr.conE, hl]
    simp
  rw [hc]
  by_cases h : emB (tC s).s = true ∨ 24 < (tC s).s.size
  · rw [if_pos h]; simp
  · rw [if_neg h]; simp

/-- What a writer's text is, as far as it is a Const's. -/
structure Wrote (w : World) (g : Nat) (tv : Value) (t : List UInt8) : Prop where
  txt : ∃ a n c r1, Blk w g 135 [.slice a n c, r1, tv] ∧ Rd w a n c t

set_option maxRecDepth 100000 in
theorem constant_any (g b : Nat) (s : List UInt8) (tv v0 v1 v4 : Value) (w : World) (hg : Blk w g 135 [.slice none 0 0, .bool false, tv]) (hb : Blk w b 29 [v0, v1, .string ⟨s.toArray⟩, .slice none 0 0, v4]) (hs : s.length ≤ 1000000000) (hbg : b ≠ g) :
    Calls Tryz.prog 94 #[.pointer (some ⟨g, 0, none⟩), .pointer (some ⟨b, 0, none⟩)] w fun e w' => e = .returned (.tuple #[]) ∧ Wrote w' g tv (if nmB s then s else []) ∧ Keep w w' (· = g) := by
  have h83 := isName_any s w hs
  have hgl := hg.lt
  have hbl := hb.lt
  have t2 := hb.cell (j := 2) rfl
  have t3 := hb.cell (j := 3) rfl
  cases hn : nmB s
  · rw [hn] at h83
    unfold tx at h83
    clear hb
    go_enter Tryz.func94, Tryz.ntmps94
    go_wp2_with (first | (go_at_call 117; refine h83.mono ?_; rintro e w2 ⟨rfl, b2⟩; have X2 := hg.below b2 hgl) | (go_at_call 113; refine (spoil_any g _ _ _ w2 X2).mono ?_; rintro e w3 ⟨rfl, X3, b3⟩))
    refine bodyPost_ret (results_none rfl _ _ _) rfl ?_
    exact ⟨rfl, ⟨_, _, _, _, X3, by simpa using Rd.none' w3 none⟩, (Keep.of_below b2 (Nat.le_refl _)).trans b3 (fun _ _ h => h)⟩
  · have hnn : nmB s = true := hn
    have h01 : 0 < s.length ∧ s.length ≤ 24 := by
      unfold nmB at hnn
      simp only [Bool.and_eq_true] at hnn
      refine ⟨?_, (okN_iff.1 hnn.2).1⟩
      by_cases h : 0 < s.length
      · exact h
      · rw [bt_end (by omega)] at hnn
        exact absurd hnn.1 (by decide)
    obtain ⟨h0, h1⟩ := h01
    rw [hn] at h83
    unfold tx at h83
    go_enter Tryz.func94, Tryz.ntmps94
    go_wp2_with (first | (go_at_call 117; refine h83.mono ?_; rintro e w2 ⟨rfl, b2⟩; have X2 := hg.below b2 hgl; have T2 := hb.below b2 hbl; have u2 := T2.cell (j := 2) rfl; have u3 := T2.cell (j := 3) rfl) | (go_at_call 114; refine (add_any g s tv w2 X2 h0 (by omega)).mono ?_; rintro e w3 ⟨rfl, ⟨gt, cap, X3, R3⟩, b3⟩; have T3 := T2.keep b3 (by omega); have q3 := T3.cell (j := 3) rfl))
    go_end0
    exact ⟨rfl, ⟨_, _, _, _, X3, by simpa using R3⟩, (Keep.of_below b2 (Nat.le_refl _)).trans b3 (fun _ _ h => h)⟩

set_option maxRecDepth 100000 in
theorem term_any (g tg b : Nat) (s : List UInt8) (v1 v4 c0 c1 c3 c4 c5 c6 : Value) (w : World) (hg : Blk w g 135 [.slice none 0 0, .bool false, .slice (some ⟨tg, 0, none⟩) 7 7]) (ht : Blk w tg 99 [c0, c1, .func (.func 94) #[.pointer (some ⟨g, 0, none⟩)] #[], c3, c4, c5, c6]) (hb : Blk w b 29 [.int .i64 2, v1, .string ⟨s.toArray⟩, .slice none 0 0, v4]) (hs : s.length ≤ 1000000000) (hbg : b ≠ g) (htg : tg ≠ g) :
    Calls Tryz.prog 70 #[.pointer (some ⟨g, 0, none⟩), .pointer (some ⟨b, 0, none⟩)] w fun e w' => e = .returned (.tuple #[]) ∧ Wrote w' g (.slice (some ⟨tg, 0, none⟩) 7 7) (if nmB s then s else []) ∧ Keep w w' (· = g) := by
  have g1 := hg.cell (j := 1) rfl
  have g2 := hg.cell (j := 2) rfl
  have t2 := ht.cell (j := 2) rfl
  have b0 := hb.cell (j := 0) rfl
  have h56 := constant_any g b s _ _ _ _ w.drew hg.drew hb.drew hs hbg
  generalize (if nmB s then s else []) = r at *
  have fin : ∀ w3, Wrote w3 g (.slice (some ⟨tg, 0, none⟩) 7 7) r → Keep w.drew w3 (· = g) → w3.cell? ⟨g, 2, none⟩ = some (.slice (some ⟨tg, 0, none⟩) 7 7) ∧ w3.cell? ⟨tg, 2, none⟩ = some (.func (.func 94) #[.pointer (some ⟨g, 0, none⟩)] #[]) ∧ w3.cell? ⟨b, 0, none⟩ = some (.int .i64 2) := fun w3 hW hK => by
    obtain ⟨a, n, c, r1, X, _⟩ := hW.txt
    exact ⟨X.cell rfl, (ht.drew.keep hK htg).cell rfl, (hb.drew.keep hK hbg).cell rfl⟩
  have HF : Hid (∀ w3, Wrote w3 g (.slice (some ⟨tg, 0, none⟩) 7 7) r → Keep w.drew w3 (· = g) → w3.cell? ⟨g, 2, none⟩ = some (.slice (some ⟨tg, 0, none⟩) 7 7) ∧ w3.cell? ⟨tg, 2, none⟩ = some (.func (.func 94) #[.pointer (some ⟨g, 0, none⟩)] #[]) ∧ w3.cell? ⟨b, 0, none⟩ = some (.int .i64 2)) := fin
  clear hb hg ht fin
  go_enter Tryz.func70, Tryz.ntmps70
  go_wp2_with fail
  go_region_held3 (fun w' => w'.cell? ⟨g, 2, none⟩ = some (.slice (some ⟨tg, 0, none⟩) 7 7) ∧ w'.cell? ⟨tg, 2, none⟩ = some (.func (.func 94) #[.pointer (some ⟨g, 0, none⟩)] #[]) ∧ w'.cell? ⟨b, 0, none⟩ = some (.int .i64 2)) (go_keep) ((go_at_call 94; refine h56.mono ?_; rintro e w3 ⟨rfl, hW3, hK3⟩; obtain ⟨z1, z2, z3⟩ := HF.out w3 hW3 hK3))
  go_wp2_with fail
  go_end0
  exact ⟨rfl, hW3, (Keep.drew (Keep.refl w _)).trans hK3 (fun _ _ h => h)⟩

set_option maxRecDepth 100000 in
theorem show_any (s : List UInt8) (w : World) (hT : Tabs w) (hs : s.length ≤ 1000000000) :
    Calls Tryz.prog 29 #[.agg #[.int .i64 2, .int .i64 0, .string ⟨s.toArray⟩, .slice none 0 0, .slice none 0 0]] w fun e w' => e = .returned (tx (if nmB s then s else [])) ∧ Below w.heap.size w w' := by
  obtain ⟨w1, HW1, hb1, B1, hs1⟩ := new_one w [.int .i64 2, .int .i64 0, .string ⟨s.toArray⟩, .slice none 0 0, .slice none 0 0] 29
  have h30 := tmay_any (tC s) 0 4 w1 w1.heap.size (hT.on hb1) (hT.on hb1).lt (Nat.le_refl _) (tC_in _ _ _) (by simp [tC, Tr.size, Tr.sizes])
  have hm := tC_may w1.heap.size s
  generalize mayE w1.heap.size (tC s) 0 4 = m at *
  have hmd : ((m : Int) == 5) = false := by simpa using hm
  have hv : (tC s).val = .agg #[.int .i64 2, .int .i64 0, .string ⟨s.toArray⟩, .slice none 0 0, .slice none 0 0] := rfl
  rw [hv] at h30
  have c0 := B1.cell (j := 0) rfl
  have c1 := B1.cell (j := 1) rfl
  have c2 := B1.cell (j := 2) rfl
  have c3 := B1.cell (j := 3) rfl
  have c4 := B1.cell (j := 4) rfl
  have HW : Hid (w.alloc (.cells #[.int .i64 2, .int .i64 0, .string ⟨s.toArray⟩, .slice none 0 0, .slice none 0 0] 29) = w1) := HW1
  clear HW1 hv hm
  obtain ⟨r, HR⟩ : ∃ r, Hid ((if nmB s then s else []) = r) := ⟨_, rfl⟩
  rw [HR.out]
  go_enter Tryz.func29, Tryz.ntmps29
  go_wp2_with (first
    | (go_at_call 68; rw [HW.out]; refine h30.mono ?_; rintro e w2 ⟨rfl, b2⟩; have hz2 := b2.size; have B2 := B1.below b2 (by omega))
    | (go_at_call 69; refine (newWriter_any w2).mono ?_; rintro e w3 ⟨g, tg, k3, k4, k5, k6, rfl, hg3, G3, hne3, T3, b3⟩; have hz3 := b3.size; have B3 := B2.below b3 (by omega))
    | (go_at_call 70; have h32 := term_any g tg w.heap.size s _ _ _ _ _ _ _ _ w3 G3 T3 B3 hs (by omega) hne3; rw [HR.out] at h32; refine h32.mono ?_; rintro e w4 ⟨rfl, hW4, hK4⟩; obtain ⟨a, n, c, r1, X4, R4⟩ := hW4.txt; have x0 := X4.cell (j := 0) rfl; have cv := Rd.str w4 Tryz.underlying132 Tryz.underlying5 Tryz.underlying9 R4))
  go_ret
  exact ⟨rfl, ((hb1.trans (b2.mono (by omega))).trans (b3.mono (by omega))).trans (hK4.below (by omega) (fun k hk => by omega))⟩

theorem nmB_some {s : List UInt8} (h : nmB s = true) : s ≠ [] := fun e => by
  subst e
  exact absurd h (by decide)

set_option maxRecDepth 100000 in
theorem may_name (s : List UInt8) (w : World) (hT : Tabs w) (hs : s.length ≤ 1000000000) :
    Calls Tryz.prog 23 #[tx s] w fun e w' => e = .returned (.bool (nmB s)) ∧ Below w.heap.size w w' := by
  have h := show_any s w hT hs
  unfold tx at h ⊢
  cases hn : nmB s
  · rw [hn] at h
    simp only [Bool.false_eq_true, if_false] at h
    clear hn
    go_enter Tryz.func23, Tryz.ntmps23
    go_wp2_with (go_at_call 29; refine h.mono ?_; rintro e w2 ⟨rfl, b2⟩)
    go_ret
    exact ⟨rfl, b2⟩
  · have hne := nmB_some hn
    rw [hn] at h
    simp only [if_true] at h
    clear hn
    have hb : (s == []) = false := beq_eq_false_iff_ne.2 hne
    clear hne
    go_enter Tryz.func23, Tryz.ntmps23
    go_wp2_with (go_at_call 29; refine h.mono ?_; rintro e w2 ⟨rfl, b2⟩)
    go_ret
    exact ⟨rfl, b2⟩

end Go.Proofs.YtekdalbhgdkckaaGreatDoor
