/- The walks of the document's levels and Fits. No condition but that the term lies in memory, and has at most 2^40 parts. -/
import Derived.Test.YtemgmphddmlmlaaRLev
import Derived.Test.YtemgmphddmlmlaaRSize
import Derived.Test.YtemgmphddmlmlaaOver
namespace Go.Proofs.Ytemgmphddmlmlaa
open Go.RowKit

/-- Whether a level is within its bounds. -/
def Lv.fits (L : Lv) : Bool := decide (L.size ≤ 64 ∧ L.deep ≤ 32)
mutual

/-- Whether all levels of a term are. -/
def Tr.fit : Tr → Bool
  | .mk _ _ _ ls _ _ _ _ _ _ args => ls.all Lv.fits && Tr.fits args

def Tr.fits : List Tr → Bool
  | [] => true
  | T :: r => T.fit && Tr.fits r

end

theorem Tr.fit_eq (T : Tr) : T.fit = (T.ls.all Lv.fits && Tr.fits T.args) := by cases T; simp only [Tr.fit, Tr.ls, Tr.args]

theorem Tr.fits_all (l : List Tr) : Tr.fits l = l.all Tr.fit := by
  induction l with
  | nil => rfl
  | cons x r ih => simp only [Tr.fits, List.all_cons, ih]

theorem all_take {α : Type} {f : α → Bool} {l : List α} {i : Nat} {x : α} (h : l[i]? = some x) (hi : (l.take i).all f = true) (hx : f x = true) : (l.take (i + 1)).all f = true := by
  have hl := (List.getElem?_eq_some_iff.1 h).1
  rw [List.take_succ_eq_append_getElem hl, (List.getElem?_eq_some_iff.1 h).2, List.all_append, hi]
  simp [hx]

theorem all_false {α : Type} {f : α → Bool} {l : List α} {i : Nat} {x : α} (h : l[i]? = some x) (hx : f x = false) : l.all f = false := by
  rw [List.all_eq_false]
  exact ⟨x, List.mem_of_getElem? h, by simp [hx]⟩

set_option maxRecDepth 100000 in
set_option maxHeartbeats 300000 in
theorem rlevels_node (T : Tr) (ih : ∀ L ∈ T.args, ∀ (w : World) (B : Nat), B ≤ w.heap.size → TIn w (· < B) L → Calls Try.prog 16 #[L.val] w fun e w' => e = .returned (.bool L.fit) ∧ Below w.heap.size w w')
    (w : World) (B : Nat) (hB : B ≤ w.heap.size) (hin : TIn w (· < B) T) : Calls Try.prog 16 #[T.val] w fun e w' => e = .returned (.bool T.fit) ∧ Below w.heap.size w w' := by
  have hN := tin_iff.1 hin
  have hle := hN.le
  have hmx := hN.max
  have hlv := hN.lv
  have hle2 := hlv.le
  have hmx2 := hlv.max
  rw [T.fit_eq, Tr.fits_all]
  obtain ⟨w1, hw1, hb1, X1, hs1⟩ := one_new w (tl T) 27
  unfold Tr.val
  unfold tl at hw1 X1
  obtain ⟨k, n, s, ls, la, lc, a, c0, tb, toff, args⟩ := T
  simp only [Tr.k, Tr.n, Tr.s, Tr.ls, Tr.la, Tr.lc, Tr.a, Tr.c, Tr.args] at hle hmx ih hlv hle2 hmx2 hw1 X1 ⊢
  go_enter Try.func16, Try.ntmps16
  go_wp2_with fail
  go_loopw [3] (fun i wr => ∃ j : Nat, i = .int .i64 (j : Int) ∧ j ≤ ls.length ∧ (ls.take j).all Lv.fits = true ∧ Blk wr w.heap.size 27 [.int .i64 k, .int .i64 n, .string s, .slice la ls.length lc, .slice a args.length c0] ∧ Below w.heap.size w wr) (fun i _ => ls.length - (intOf i).toNat)
  case atStart => exact ⟨0, rfl, by omega, by simp, X1, hb1⟩
  case round =>
    clear X1 hb1 hw1 hs1
    obtain ⟨j, rfl, hj, hall, hb, hbel⟩ := hrel
    have x3 := hb.cell (j := 3) rfl
    have x4 := hb.cell (j := 4) rfl
    have hsz : w.heap.size ≤ wr.heap.size := hbel.size
    by_cases hlt : j < ls.length
    · obtain ⟨L, hL⟩ : ∃ L, ls[j]? = some L := ⟨_, List.getElem?_eq_getElem hlt⟩
      obtain ⟨b, off, k', n', args', a', cap', rfl, hS, rfl, e0, e1, e2, hN'⟩ := (hlv.below hbel hB).get hL
      have HL : Hid (ls[j]? = some (.mk k' n' args')) := hL
      clear hL
      have hp := parts_any (.mk k' n' args') 64 wr B _ (by omega) (by omega) hN'.is
      obtain ⟨r, hr⟩ : ∃ r : Nat, min (Lv.mk k' n' args').size (64 + 1) = r := ⟨_, rfl⟩
      rw [hr] at hp
      have HA : Hid _ := hall
      clear hall
      by_cases hr64 : r ≤ 64
      · have hd1 : decide ((64 : Int) < (r : Int)) = false := by simp; omega
        have HR : Hid ((Lv.mk k' n' args').size ≤ 64) := by show _ ≤ _; omega
        clear hr
        have hbl : b < wr.heap.size := by omega
        go_wp2_with (go_at_call 19; refine hp.mono ?_; rintro e w2 ⟨rfl, hb2⟩; have y3 := (hb.below hb2 hb.lt).cell (j := 3) rfl; have z0 := (hb2.cell (p := ⟨b, off + j * 3, none⟩) hbl).trans e0; have z1 := (hb2.cell (p := ⟨b, off + j * 3 + 1, none⟩) hbl).trans e1; have z2 := (hb2.cell (p := ⟨b, off + j * 3 + 2, none⟩) hbl).trans e2)
        have hb12 := hbel.trans (hb2.mono hsz)
        have hz2 := hb12.size
        have hdp := deep_any (.mk k' n' args') 32 w2 B _ (by omega) (by omega) (hN'.below hb2 (by omega)).is
        obtain ⟨q, hq⟩ : ∃ q : Nat, min (Lv.mk k' n' args').deep (32 + 1) = q := ⟨_, rfl⟩
        rw [hq] at hdp
        have R2 := hb.below hb2 hb.lt
        by_cases hq32 : q ≤ 32
        · have hd2 : decide ((32 : Int) < (q : Int)) = false := by simp; omega
          have HQ : Hid ((Lv.mk k' n' args').deep ≤ 32) := by show _ ≤ _; omega
          clear hq
          refine hdp.mono ?_
          rintro e w3 ⟨rfl, hb3⟩
          clear hp hdp z0 z1 z2 e0 e1 e2 y3 x3 x4 hN hlv ih hin
          go_wp2_with fail
          exact ⟨⟨j + 1, by go_num, by omega, all_take HL.out HA.out (by unfold Lv.fits; exact decide_eq_true ⟨HR.out, HQ.out⟩), R2.below hb3 R2.lt, hb12.trans (hb3.mono hz2)⟩, by simp [intOf]; omega⟩
        · have hd2 : decide ((32 : Int) < (q : Int)) = true := by simp; omega
          have HQ : Hid (¬ (Lv.mk k' n' args').deep ≤ 32) := by show ¬ _; omega
          clear hq
          refine hdp.mono ?_
          rintro e w3 ⟨rfl, hb3⟩
          clear hp hdp z0 z1 z2 e0 e1 e2 y3 x3 x4 hN hlv ih hin
          go_wp2_with fail
          go_ret
          have hf := all_false (f := Lv.fits) HL.out (by unfold Lv.fits; exact decide_eq_false (fun h => HQ.out h.2))
          exact ⟨ret_bool (by rw [hf]; rfl), hb12.trans (hb3.mono hz2)⟩
      · have hd1 : decide ((64 : Int) < (r : Int)) = true := by simp; omega
        have HR : Hid (¬ (Lv.mk k' n' args').size ≤ 64) := by show ¬ _; omega
        clear hr hN hlv ih hin
        go_wp2_with (go_at_call 19; refine hp.mono ?_; rintro e w2 ⟨rfl, hb2⟩)
        go_ret
        have hf := all_false (f := Lv.fits) HL.out (by unfold Lv.fits; exact decide_eq_false (fun h => HR.out h.1))
        exact ⟨ret_bool (by rw [hf]; rfl), hbel.trans (hb2.mono hsz)⟩
    · have HA : Hid (ls.all Lv.fits = true) := by rw [List.take_of_length_le (by omega)] at hall; exact hall
      clear hall hlv
      have hd0 : decide ((j : Int) < (ls.length : Int)) = false := by simp; omega
      obtain ⟨wo, hwo⟩ : ∃ wo, wo = wr := ⟨_, rfl⟩
      subst hwo
      go_wp2_with fail
      go_loopw [4] (fun i wr => ∃ j : Nat, i = .int .i64 (j : Int) ∧ j ≤ args.length ∧ (args.take j).all Tr.fit = true ∧ Blk wr w.heap.size 27 [.int .i64 k, .int .i64 n, .string s, .slice la ls.length lc, .slice a args.length c0] ∧ Below w.heap.size w wr) (fun i _ => args.length - (intOf i).toNat)
      case atStart => exact ⟨0, rfl, by omega, by simp, hb, hbel⟩
      case round =>
        clear hb hbel hsz x3 x4 hd0
        obtain ⟨i, rfl, hi, hall, hb, hbel⟩ := hrel
        have x4 := hb.cell (j := 4) rfl
        have hsz : w.heap.size ≤ wr.heap.size := hbel.size
        by_cases hli : i < args.length
        · obtain ⟨L, hL⟩ : ∃ L, args[i]? = some L := ⟨_, List.getElem?_eq_getElem hli⟩
          obtain ⟨b, off, ha, hS, hbl, e0, e1, e2, e3, e4, hL'⟩ := (hin.below hbel hB).arg (T := .mk k n s ls la lc a c0 tb toff args) hL
          simp only [Tr.a] at ha
          subst ha
          have hcall := ih L (List.mem_of_getElem? hL) wr B (by omega) hL'
          have HL : Hid (args[i]? = some L) := hL
          have HA2 : Hid _ := hall
          clear hL hall
          simp only [Tr.val] at hcall
          cases hfl : L.fit
          · rw [hfl] at hcall
            have HF : Hid (L.fit = false) := hfl
            clear hfl hN ih hL' hin
            go_wp2_with (go_at_call 16; refine hcall.mono ?_; rintro e w2 ⟨rfl, hb2⟩)
            go_ret
            exact ⟨ret_bool (by rw [all_false (f := Tr.fit) HL.out HF.out]; simp), hbel.trans (hb2.mono hsz)⟩
          · rw [hfl] at hcall
            have HF : Hid (L.fit = true) := hfl
            clear hfl hN ih hL' hin
            go_wp2_with (go_at_call 16; refine hcall.mono ?_; rintro e w2 ⟨rfl, hb2⟩)
            exact ⟨⟨i + 1, by go_num, by omega, all_take HL.out HA2.out HF.out, hb.below hb2 hb.lt, hbel.trans (hb2.mono hsz)⟩, by simp [intOf]; omega⟩
        · have HA2 : Hid (args.all Tr.fit = true) := by rw [List.take_of_length_le (by omega)] at hall; exact hall
          clear hall hN ih hin
          go_wp2_with fail
          go_ret
          exact ⟨ret_bool (by rw [HA.out, HA2.out]; rfl), hbel⟩

theorem rlevels_any (T : Tr) : ∀ (w : World) (B : Nat), B ≤ w.heap.size → TIn w (· < B) T → Calls Try.prog 16 #[T.val] w fun e w' => e = .returned (.bool T.fit) ∧ Below w.heap.size w w' :=
  Tr.ind' (P := fun T => ∀ (w : World) (B : Nat), B ≤ w.heap.size → TIn w (· < B) T → Calls Try.prog 16 #[T.val] w fun e w' => e = .returned (.bool T.fit) ∧ Below w.heap.size w w') (fun T ih w B hB hin => rlevels_node T ih w B hB hin) T

end Go.Proofs.Ytemgmphddmlmlaa
