/- The walks of the gauge's holds and of Fits. No condition but that the term lies in memory, and that its parts and Levels are at most 2^20. -/
import Derived.Test.YtemgmphddmlmlaaG5
import Derived.Test.YtemgmphddmlmlaaRFits
namespace Go.Proofs.Ytemgmphddmlmlaa
open Go.RowKit

mutual

/-- How many terms and Levels are met below a term. -/
def Tr.wt : Tr → Nat
  | .mk _ _ _ ls _ _ _ _ _ _ args => ls.length + args.length + Tr.wts args

def Tr.wts : List Tr → Nat
  | [] => 0
  | T :: r => T.wt + Tr.wts r

end

theorem Tr.wt_eq (T : Tr) : T.wt = T.ls.length + T.args.length + Tr.wts T.args := by cases T; simp only [Tr.wt, Tr.ls, Tr.args]

/-- What is still to be counted. -/
def pendS : List Sp → Nat
  | [] => 0
  | s :: r => Tr.sizes (s.ts.drop s.i) + pendS r

def pendW : List Sp → Nat
  | [] => 0
  | s :: r => Tr.wts (s.ts.drop s.i) + pendW r

def pendF : List Sp → Bool
  | [] => true
  | s :: r => Tr.fits (s.ts.drop s.i) && pendF r

theorem pendS_snoc (r : List Sp) (s : Sp) : pendS (r ++ [s]) = pendS r + Tr.sizes (s.ts.drop s.i) := by
  induction r with
  | nil => simp [pendS]
  | cons x r ih => simp only [List.cons_append, pendS, ih]; omega

theorem pendW_snoc (r : List Sp) (s : Sp) : pendW (r ++ [s]) = pendW r + Tr.wts (s.ts.drop s.i) := by
  induction r with
  | nil => simp [pendW]
  | cons x r ih => simp only [List.cons_append, pendW, ih]; omega

theorem pendF_snoc (r : List Sp) (s : Sp) : pendF (r ++ [s]) = (pendF r && Tr.fits (s.ts.drop s.i)) := by
  induction r with
  | nil => simp [pendF]
  | cons x r ih => simp only [List.cons_append, pendF, ih, Bool.and_assoc]

theorem drop_at {α : Type} {l : List α} {i : Nat} {x : α} (h : l[i]? = some x) : l.drop i = x :: l.drop (i + 1) := by
  have hi := (List.getElem?_eq_some_iff.1 h).1
  rw [List.drop_eq_getElem_cons hi, (List.getElem?_eq_some_iff.1 h).2]

theorem pendS_pushed (sp : List Sp) (T : Tr) (l : Nat) : pendS (pushed sp T l) = pendS sp + Tr.sizes T.args := by
  unfold pushed
  split
  · next h => rw [h]; simp [Tr.sizes]
  · rw [pendS_snoc]; simp

theorem pendW_pushed (sp : List Sp) (T : Tr) (l : Nat) : pendW (pushed sp T l) = pendW sp + Tr.wts T.args := by
  unfold pushed
  split
  · next h => rw [h]; simp [Tr.wts]
  · rw [pendW_snoc]; simp

theorem pendF_pushed (sp : List Sp) (T : Tr) (l : Nat) : pendF (pushed sp T l) = (pendF sp && Tr.fits T.args) := by
  unfold pushed
  split
  · next h => rw [h]; simp [Tr.fits]
  · rw [pendF_snoc]; simp

theorem pushed_len (sp : List Sp) (T : Tr) (l : Nat) : (pushed sp T l).length ≤ sp.length + 1 := by
  unfold pushed
  split
  · omega
  · simp

/-- What stands in the way of the end. -/
def meas (g : Nat) (s : Value) (w : World) : Nat :=
  match s with
  | .bool true => 2 * (intOf ((w.cell? ⟨g, 0, none⟩).getD undef)).toNat + (match w.cell? ⟨g, 2, none⟩ with | some (.slice _ n _) => n | _ => 0) + 1
  | _ => 0

theorem meas_gs {base g left met : Nat} {sp : List Sp} {v : Value} {w : World} (h : GS base g left met sp v w) : meas g (.bool true) w = 2 * left + sp.length + 1 := by
  have c0 := h.blk.cell (j := 0) rfl
  have c2 := h.blk.cell (j := 2) rfl
  obtain ⟨ao, cap, rfl⟩ : ∃ ao cap, v = .slice ao sp.length cap := by
    rcases h.row.2 with ⟨h0, h1⟩ | ⟨g, cap, cur, rfl, _⟩
    · exact ⟨none, 0, by rw [h0, h1]⟩
    · exact ⟨_, _, rfl⟩
  unfold meas
  rw [c0, c2]
  simp [intOf]

/-- How a gauge stands between two steps; A: what it will tell. -/
structure Run (base g : Nat) (A : Bool) (w : World) : Prop where
  on : ∃ left met sp v, GS base g left met sp v w ∧ A = (decide (pendS sp ≤ left) && pendF sp) ∧ met + pendW sp ≤ 1048576 ∧ sp.length + 2 * pendS sp ≤ 1048576 ∧ left ≤ 9223372036854775807

/-- The first step, or any: a term is taken. -/
theorem Run.took {base g left met : Nat} {sp : List Sp} {A : Bool} {T : Tr} {w : World} (hA : A = (decide (pendS sp + T.size ≤ left) && (pendF sp && T.fit))) (hm : met + T.wt + pendW sp ≤ 1048576) (hp : sp.length + 2 * (pendS sp + T.size) ≤ 1048576) (hl : left ≤ 9223372036854775807)
    (hok : (decide (1 ≤ left) && T.ls.all Lv.fits) = true) (hG : ∃ v', GS base g (left - 1) (met + T.ls.length + T.args.length) (pushed sp T (left - 1)) v' w) : Run base g A w := by
  obtain ⟨v', G⟩ := hG
  simp only [Bool.and_eq_true, decide_eq_true_eq] at hok
  have hs := T.size_eq
  have hw := T.wt_eq
  refine ⟨⟨left - 1, _, _, v', G, ?_, ?_, ?_, by omega⟩⟩
  · rw [hA, pendS_pushed, pendF_pushed, T.fit_eq, hok.2, Bool.true_and]
    congr 1
    exact decide_eq_decide.2 ⟨fun h => by omega, fun h => by omega⟩
  · rw [pendW_pushed]; omega
  · rw [pendS_pushed]
    have := pushed_len sp T (left - 1)
    omega

theorem Run.not {sp : List Sp} {left : Nat} {A : Bool} {T : Tr} (hA : A = (decide (pendS sp + T.size ≤ left) && (pendF sp && T.fit))) (hok : (decide (1 ≤ left) && T.ls.all Lv.fits) = false) : A = false := by
  rw [hA]
  have := T.size_pos
  simp only [Bool.and_eq_false_iff, decide_eq_false_iff_not] at hok ⊢
  rcases hok with h | h
  · exact .inl (by omega)
  · exact .inr (.inr (by rw [T.fit_eq, h, Bool.false_and]))

set_option maxRecDepth 100000 in
set_option maxHeartbeats 1000000 in
theorem holds_any {base g left : Nat} {w : World} (h : GS base g left 0 [] (.slice none 0 0) w) (hB : base ≤ w.heap.size) (T : Tr) (b off : Nat) (hb : b < base) (hC : TCells w b off T) (hT : TIn w (· < base) T) (hw : T.wt ≤ 1048576) (hs : T.size ≤ 524288) (hl : left ≤ 9223372036854775807) :
    Calls Try.prog 15 #[.pointer (some ⟨g, 0, none⟩), .pointer (some ⟨b, off, none⟩)] w fun e w' => e = .returned (.bool (decide (T.size ≤ left) && T.fit)) ∧ Below base w w' := by
  have hwt := T.wt_eq
  have kt := takes_any h hB T b off hb hC hT (by omega) (by simp) hl
  obtain ⟨A, hA⟩ : ∃ A, (decide (T.size ≤ left) && T.fit) = A := ⟨_, rfl⟩
  rw [hA]
  have hA' : A = (decide (pendS [] + T.size ≤ left) && (pendF [] && T.fit)) := by rw [← hA]; simp [pendS, pendF]
  have yes := fun (w' : World) => Run.took (base := base) (g := g) (met := 0) (sp := []) (w := w') hA' (by simp [pendW]; omega) (by simp [pendS]; omega) hl
  have no := Run.not (sp := []) (left := left) (T := T) hA'
  obtain ⟨ok, hok⟩ : ∃ ok, (decide (1 ≤ left) && T.ls.all Lv.fits) = ok := ⟨_, rfl⟩
  rw [hok] at kt yes no
  have HY : Hid (∀ w', ok = true → _ → Run base g A w') := yes
  have HN : Hid (ok = false → A = false) := no
  clear hA hA' yes no hok h hC hT
  go_enter Try.func15, Try.ntmps15
  go_wp2_with (go_at_call 17; refine kt.mono ?_; rintro e w2 ⟨rfl, hb2, hz2, hG2⟩)
  have HR : Hid (ok = true → Run base g A w2) := fun h => HY.out w2 h (hG2 h)
  clear kt hG2 HY
  go_loopw [5] (fun s5 wr => ∃ z : Bool, s5 = .bool z ∧ Below base w wr ∧ w.heap.size ≤ wr.heap.size ∧ (z = false → A = false) ∧ (z = true → Run base g A wr)) (fun s5 wr => meas g s5 wr)
  case atStart => exact ⟨ok, rfl, hb2, hz2, HN.out, HR.out⟩
  case round =>
    clear hb2 hz2 HN HR
    obtain ⟨z, rfl, hbel, hz, hno, hyes⟩ := hrel
    cases z
    · have HA : Hid (A = false) := hno rfl
      clear hno hyes
      go_wp2_with fail
      go_ret
      exact ⟨by rw [HA.out]; rfl, hbel⟩
    · obtain ⟨left', met, sp, v, G, hA, hm, hp, hl'⟩ := (hyes rfl).on
      clear hno hyes
      rcases List.eq_nil_or_concat sp with rfl | ⟨r, s, rfl⟩
      · have HA : Hid (A = true) := by show _ = _; rw [hA]; simp [pendS, pendF]
        have c2 := G.blk.cell (j := 2) rfl
        obtain ⟨ao, cap, rfl⟩ : ∃ ao cap, v = .slice ao 0 cap := by
          rcases G.row.2 with ⟨h0, h1⟩ | ⟨g, cap, cur, rfl, _⟩
          · exact ⟨none, 0, h0⟩
          · exact ⟨_, _, rfl⟩
        clear hA G hm hp
        go_wp2_with fail
        go_ret
        exact ⟨by rw [HA.out]; rfl, hbel⟩
      · simp only [List.concat_eq_append] at *
        have hM := meas_gs G
        have c2 := G.blk.cell (j := 2) rfl
        obtain ⟨g', cap, hv, _, _, _, _, _, _, _, _, _⟩ := G.last
        rw [hv] at c2
        have hrl : r.length + 1 + 2 * pendS (r ++ [s]) ≤ 1048576 := by simpa using hp
        have hok := G.ok s (by simp)
        by_cases hi : s.i = s.ts.length
        · have ks := step_end G (by omega) (by omega) hi
          have HA : Hid (A = (decide (pendS r ≤ left') && pendF r)) := by
            show _ = _
            rw [hA, pendS_snoc, pendF_snoc, hi, List.drop_length, show Tr.sizes [] = 0 by simp only [Tr.sizes], show Tr.fits [] = true by simp only [Tr.fits], Nat.add_zero, Bool.and_true]
          have HM : Hid (met + pendW r ≤ 1048576 ∧ r.length + 2 * pendS r ≤ 1048576) := by
            rw [pendW_snoc] at hm
            rw [pendS_snoc] at hrl
            exact ⟨by omega, by omega⟩
          have HMe : Hid _ := hM
          clear hA hm hp hok hi hM G hv
          go_wp2_with (go_at_call 18; refine ks.mono ?_; rintro e w3 ⟨rfl, b3, hz3, hG3⟩)
          obtain ⟨v3, G3⟩ := hG3 trivial
          refine ⟨⟨true, rfl, hbel.trans b3, by omega, (fun h => by cases h), fun _ => ⟨⟨left', met, r, v3, G3, HA.out, HM.out.1, HM.out.2, hl'⟩⟩⟩, ?_⟩
          rw [HMe.out, meas_gs G3]
          simp
        · have hlt : s.i < s.ts.length := by have := hok.hi; omega
          obtain ⟨L, hL⟩ : ∃ L, s.ts[s.i]? = some L := ⟨_, List.getElem?_eq_getElem hlt⟩
          have hd := drop_at hL
          have hLw := L.wt_eq
          rw [pendS_snoc, pendF_snoc, hd] at hA
          rw [pendW_snoc, hd] at hm
          rw [pendS_snoc, hd] at hrl
          simp only [Tr.sizes, Tr.fits, Tr.wts] at hA hm hrl
          have ks := step_next G L hL (by omega) (by omega) hl'
          have hA' : A = (decide (pendS (r ++ [{ s with i := s.i + 1 }]) + L.size ≤ left') && (pendF (r ++ [{ s with i := s.i + 1 }]) && L.fit)) := by
            rw [hA, pendS_snoc, pendF_snoc]
            exact congr (congrArg and (decide_eq_decide.2 ⟨fun h => by simp only at h ⊢; omega, fun h => by simp only at h ⊢; omega⟩)) (by cases L.fit <;> cases pendF r <;> cases Tr.fits (s.ts.drop (s.i + 1)) <;> rfl)
          obtain ⟨ok2, hok2⟩ : ∃ ok2, (decide (1 ≤ left') && L.ls.all Lv.fits) = ok2 := ⟨_, rfl⟩
          rw [hok2] at ks
          have HY : Hid (∀ w', ok2 = true → (∃ v', GS base g (left' - 1) (met + L.ls.length + L.args.length) (pushed (r ++ [{ s with i := s.i + 1 }]) L (left' - 1)) v' w') → Run base g A w') := fun w' h hG => Run.took (base := base) (g := g) (met := met) (w := w') hA' (by rw [pendW_snoc]; simp only; omega) (by rw [pendS_snoc]; simp only [List.length_append, List.length_singleton]; omega) hl' (hok2.trans h) hG
          have HN : Hid (ok2 = false → A = false) := fun h => Run.not hA' (hok2.trans h)
          have HMe : Hid _ := hM
          have H1 : Hid (ok2 = true → 1 ≤ left') := fun h => by rw [← hok2] at h; simp at h; exact h.1
          clear hA hA' hok2 hm hp hrl hok hi hM G hv hd hL hLw
          go_wp2_with (go_at_call 18; refine ks.mono ?_; rintro e w3 ⟨rfl, b3, hz3, hG3⟩)
          refine ⟨⟨ok2, rfl, hbel.trans b3, by omega, HN.out, fun h => HY.out w3 h (hG3 h)⟩, ?_⟩
          rw [HMe.out]
          cases ok2
          · show 0 < _; omega
          · obtain ⟨v3, G3⟩ := hG3 rfl
            have h1 := H1.out rfl
            have h2 := pushed_len (r ++ [{ s with i := s.i + 1 }]) L (left' - 1)
            rw [meas_gs G3]
            simp only [List.length_append, List.length_singleton] at h2 ⊢
            omega

end Go.Proofs.Ytemgmphddmlmlaa
