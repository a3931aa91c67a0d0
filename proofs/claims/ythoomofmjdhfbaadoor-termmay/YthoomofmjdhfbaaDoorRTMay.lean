/- The walks of the document's may and May of terms. No condition but that the term lies in memory. -/
import Derived.Test.YthoomofmjdhfbaaDoorRWhole
import Derived.Test.YthoomofmjdhfbaaDoorTMay
namespace Go.Proofs.YthoomofmjdhfbaaDoor
open Go.RowKit

/-- One binder more, as far as it matters. -/
def bup (b : Int) (k : Int) (i : Nat) : Int := if b ≤ 1073741824 then b + (bnd k i : Nat) else b
/-- What is wrong with a part itself. -/
def Tr.ownE (T : Tr) (q b : Int) : Int := if T.k = 0 ∧ b ≤ T.n then 8 else if T.lvE q ≠ 0 then 7 else if T.k = 2 ∧ (emB T.s = true ∨ 24 < T.s.size) then 9 else 0
mutual
/-- The first thing that is wrong, by recursion. -/
def Tr.rE (q : Int) : Int → Tr → Int
  | b, .mk k n s ls la lc a c tb off args => if (Tr.mk k n s ls la lc a c tb off args).ownE q b ≠ 0 then (Tr.mk k n s ls la lc a c tb off args).ownE q b else Tr.rEs q k b 0 args
def Tr.rEs (q k b : Int) : Nat → List Tr → Int
  | _, [] => 0
  | i, T :: r => if T.rE q (bup b k i) ≠ 0 then T.rE q (bup b k i) else Tr.rEs q k b (i + 1) r
end
theorem Tr.rE_eq (q b : Int) (T : Tr) : T.rE q b = if T.ownE q b ≠ 0 then T.ownE q b else Tr.rEs q T.k b 0 T.args := by cases T; rw [Tr.rE]; rfl
theorem rEs_drop (q k b : Int) (args : List Tr) (j : Nat) {L : Tr} (h : args[j]? = some L) : Tr.rEs q k b j (args.drop j) = if L.rE q (bup b k j) ≠ 0 then L.rE q (bup b k j) else Tr.rEs q k b (j + 1) (args.drop (j + 1)) := by
  have hj := (List.getElem?_eq_some_iff.1 h).1
  rw [List.drop_eq_getElem_cons hj, (List.getElem?_eq_some_iff.1 h).2, Tr.rEs]
theorem rEs_end (q k b : Int) (args : List Tr) {j : Nat} (h : args.length ≤ j) : Tr.rEs q k b j (args.drop j) = 0 := by rw [List.drop_of_length_le h, Tr.rEs]

set_option maxRecDepth 100000 in
set_option maxHeartbeats 4000000 in
theorem rmayt_node (q : Int) (T : Tr) (ih : ∀ L ∈ T.args, ∀ (b : Int) (w : World) (B : Nat), 0 ≤ b → b ≤ 9223372036854775807 → B ≤ w.heap.size → TIn w (· < B) L →
      Calls Tryd.prog 37 #[L.val, .int .i64 b, .int .i64 q] w fun e w' => e = .returned (.int .i64 (L.rE q b)) ∧ Below w.heap.size w w')
    (bd : Int) (w : World) (B : Nat) (hb0 : 0 ≤ bd) (hb1 : bd ≤ 9223372036854775807) (hB : B ≤ w.heap.size) (hin : TIn w (· < B) T) :
    Calls Tryd.prog 37 #[T.val, .int .i64 bd, .int .i64 q] w fun e w' => e = .returned (.int .i64 (T.rE q bd)) ∧ Below w.heap.size w w' := by
  have hN := tin_iff.1 hin
  have hle := hN.le
  have hmx := hN.max
  have hlle := hN.lv.le
  have hlmx := hN.lv.max
  obtain ⟨w1, hw1, hbw, X1, hs1⟩ := one_new w (tl T) 25
  obtain ⟨r, HR⟩ : ∃ r, Hid (T.rE q bd = r) := ⟨_, rfl⟩
  have HE : Hid (T.rE q bd = if T.ownE q bd ≠ 0 then T.ownE q bd else Tr.rEs q T.k bd 0 T.args) := T.rE_eq q bd
  rw [HR.out]
  have own : T.ownE q bd ≠ 0 → r = T.ownE q bd := fun h => by rw [← HR.out, HE.out, if_pos h]
  have rest : T.ownE q bd = 0 → r = Tr.rEs q T.k bd 0 T.args := fun h => by rw [← HR.out, HE.out, if_neg (by simpa using h)]
  clear HR HE
  have F1 : T.k = 0 ∧ bd ≤ T.n → r = 8 := fun h => by
    have h8 : T.ownE q bd = 8 := by unfold Tr.ownE; rw [if_pos h]
    rw [own (by rw [h8]; decide), h8]
  have F2 : ¬ (T.k = 0 ∧ bd ≤ T.n) → ¬ (T.ls.length ≤ 4 ∧ lvsB T.ls q = true) → r = 7 := fun h h' => by
    have h8 : T.ownE q bd = 7 := by unfold Tr.ownE Tr.lvE; rw [if_neg h, if_neg h', if_pos (by decide)]
    rw [own (by rw [h8]; decide), h8]
  have F3 : ¬ (T.k = 0 ∧ bd ≤ T.n) → (T.ls.length ≤ 4 ∧ lvsB T.ls q = true) → (T.k = 2 ∧ (emB T.s = true ∨ 24 < T.s.size)) → r = 9 := fun h h' h2 => by
    have h8 : T.ownE q bd = 9 := by unfold Tr.ownE Tr.lvE; rw [if_neg h, if_pos h', if_neg (by simp), if_pos h2]
    rw [own (by rw [h8]; decide), h8]
  have F4 : ¬ (T.k = 0 ∧ bd ≤ T.n) → (T.ls.length ≤ 4 ∧ lvsB T.ls q = true) → ¬ (T.k = 2 ∧ (emB T.s = true ∨ 24 < T.s.size)) → r = Tr.rEs q T.k bd 0 T.args := fun h h' h2 => by
    exact rest (by unfold Tr.ownE Tr.lvE; rw [if_neg h, if_pos h', if_neg (by simp), if_neg h2])
  clear own rest
  have hNl := hN.lv
  unfold Tr.val
  unfold tl at hw1 X1
  obtain ⟨k, n, s, ls, la, lc, a, c0, tb, toff, args⟩ := T
  simp only [Tr.k, Tr.n, Tr.s, Tr.ls, Tr.la, Tr.lc, Tr.a, Tr.c, Tr.args] at *
  have x0 := X1.cell (j := 0) rfl
  have x1 := X1.cell (j := 1) rfl
  have x3 := X1.cell (j := 3) rfl
  by_cases hv : k = 0 ∧ bd ≤ n
  · obtain ⟨rfl, hv2⟩ := hv
    obtain rfl := F1 ⟨rfl, hv2⟩
    clear F1 F2 F3 F4
    have hd : decide (bd ≤ n) = true := by simpa using hv2
    go_enter Tryd.func37, Tryd.ntmps37
    go_wp2_with fail
    go_ret
    exact ⟨rfl, hbw⟩
  clear F1
  replace F2 := F2 hv
  replace F3 := F3 hv
  replace F4 := F4 hv
  have hvd : (k == 0) = false ∨ (k = 0 ∧ decide (bd ≤ n) = false) := by
    by_cases h : k = 0
    · exact .inr ⟨h, by simp; omega⟩
    · exact .inl (by simpa using h)
  clear hv
  by_cases h4 : ls.length ≤ 4
  · have hd4 : decide ((4 : Int) < (ls.length : Int)) = false := by simp; omega
    have HO : Hid ((lvsB ls q = false → r = 7) ∧ (lvsB ls q = true → k = 2 → (emB s = true ∨ 24 < s.size) → r = 9) ∧ (lvsB ls q = true → ¬ (k = 2 ∧ (emB s = true ∨ 24 < s.size)) → r = Tr.rEs q k bd 0 args)) :=
      ⟨fun h => F2 (fun h' => by rw [h] at h'; cases h'.2), fun h h2 h3 => F3 ⟨h4, h⟩ ⟨h2, h3⟩, fun h h2 => F4 ⟨h4, h⟩ h2⟩
    clear F2 F3 F4
    rcases hvd with hvd | ⟨rfl, hvd2⟩
    · skip
      go_enter Tryd.func37, Tryd.ntmps37
      go_wp2_with fail
      clear x0 x1 x3
      go_loopw [7] (fun i wr => ∃ j : Nat, i = .int .i64 (j : Int) ∧ j ≤ ls.length ∧ lvsB (ls.take j) q = true ∧ Blk wr w.heap.size 25 [.int .i64 k, .int .i64 n, .string s, .slice la ls.length lc, .slice a args.length c0] ∧ Below w.heap.size w wr) (fun i _ => ls.length - (intOf i).toNat)
      case atStart => exact ⟨0, rfl, by omega, by simp [lvsB], X1, hbw⟩
      case round =>
        clear X1 hbw
        obtain ⟨j, rfl, hj, hok, hb, hbel⟩ := hrel
        have y3 := hb.cell (j := 3) rfl
        have HK : Hid (lvsB (ls.take j) q = true) := hok
        clear hok
        have hsz : w.heap.size ≤ wr.heap.size := hbel.size
        by_cases hlt : j < ls.length
        · obtain ⟨L, hL⟩ : ∃ L, ls[j]? = some L := ⟨_, List.getElem?_eq_getElem hlt⟩
          obtain ⟨b, off, k', n', args', a', cap', rfl, hS, rfl, e0, e1, e2, hN'⟩ := (hNl.below hbel hB).get hL
          have HL : Hid (ls[j]? = some (.mk k' n' args')) := hL
          clear hL
          have hcall := rmay_any (.mk k' n' args') q wr B _ (by omega) hN'.is
          cases hr : mayB (.mk k' n' args') q with
          | true =>
            rw [hr] at hcall
            go_wp2_with (go_at_call 38; refine hcall.mono ?_; rintro e w4 ⟨rfl, hb4⟩)
            go_roundw
            case rel => exact ⟨j + 1, by go_num, by omega, lvsB_take HL.out HK.out hr, hb.below hb4 hb.lt, hbel.trans (hb4.mono hsz)⟩
            case measure => simp [intOf]; omega
          | false =>
            rw [hr] at hcall
            obtain rfl := HO.out.1 (lvsB_bad HL.out hr)
            go_wp2_with (go_at_call 38; refine hcall.mono ?_; rintro e w4 ⟨rfl, hb4⟩)
            go_ret
            exact ⟨rfl, hbel.trans (hb4.mono hsz)⟩
        · have hall := HK.out
          rw [List.take_of_length_le (by omega)] at hall
          have HP : Hid ((k = 2 → (emB s = true ∨ 24 < s.size) → r = 9) ∧ (¬ (k = 2 ∧ (emB s = true ∨ 24 < s.size)) → r = Tr.rEs q k bd 0 args)) := ⟨HO.out.2.1 hall, HO.out.2.2 hall⟩
          clear HO hall HK
          obtain ⟨wo, hwo⟩ : ∃ wo, wo = wr := ⟨_, rfl⟩
          subst hwo
          have y0 := hb.cell (j := 0) rfl
          have y2 := hb.cell (j := 2) rfl
          by_cases hk2 : k = 2
          · subst hk2
            by_cases hem : s.toList = []
            · obtain rfl := HP.out.1 rfl (.inl (by unfold emB; simpa using hem))
              go_wp2_with fail
              go_ret
              exact ⟨rfl, hbel⟩
            · by_cases h24 : (24 : Int) < (s.size : Int)
              · obtain rfl := HP.out.1 rfl (.inr (by omega))
                go_wp2_with fail
                go_ret
                exact ⟨rfl, hbel⟩
              · have hrr := HP.out.2 (fun h => by rcases h.2 with h | h; (unfold emB at h; exact hem (by simpa using h)); omega)
                have hd24 : decide ((24 : Int) < (s.size : Int)) = false := by simpa using h24
                have hie : s.toList.isEmpty = false := by simpa using hem
                clear HP h24
                go_wp2_with fail
                go_loopw [8] (fun i wr => ∃ j : Nat, i = .int .i64 (j : Int) ∧ j ≤ args.length ∧ r = Tr.rEs q 2 bd j (args.drop j) ∧ Blk wr w.heap.size 25 [.int .i64 2, .int .i64 n, .string s, .slice la ls.length lc, .slice a args.length c0] ∧ Below w.heap.size w wr) (fun i _ => args.length - (intOf i).toNat)
                case atStart => exact ⟨0, rfl, by omega, hrr, hb, hbel⟩
                case round =>
                  clear hb hbel hrr y0 y2 y3
                  obtain ⟨j, rfl, hj, hre, hb, hbel⟩ := hrel
                  have z0 := hb.cell (j := 0) rfl
                  have z4 := hb.cell (j := 4) rfl
                  have HE : Hid (r = Tr.rEs q 2 bd j (args.drop j)) := hre
                  clear hre
                  have hsz : w.heap.size ≤ wr.heap.size := hbel.size
                  by_cases hlt : j < args.length
                  · obtain ⟨L, hL⟩ : ∃ L, args[j]? = some L := ⟨_, List.getElem?_eq_getElem hlt⟩
                    obtain ⟨b, off, ha, hS, hbl, e0, e1, e2, e3, e4, hL'⟩ := (hin.below hbel hB).arg (T := .mk 2 n s ls la lc a c0 tb toff args) hL
                    simp only [Tr.a] at ha
                    subst ha
                    have hst := HE.out
                    rw [rEs_drop q 2 bd args j hL] at hst
                    have hbl1 := bnd_le 2 j
                    have HS : Hid ((L.rE q (bup bd 2 j) ≠ 0 → r = L.rE q (bup bd 2 j)) ∧ (L.rE q (bup bd 2 j) = 0 → r = Tr.rEs q 2 bd (j + 1) (args.drop (j + 1)))) := ⟨fun h => by rw [if_pos h] at hst; exact hst, fun h => by rw [if_neg (by simpa using h)] at hst; exact hst⟩
                    have hcall := ih L (List.mem_of_getElem? hL) (bup bd 2 j) wr B (by unfold bup; split <;> omega) (by unfold bup; split <;> omega) (by omega) hL'
                    clear hL HE hst
                    simp only [Tr.val] at hcall
                    generalize hg : L.rE q (bup bd 2 j) = er at *
                    clear hg
                    by_cases hcap : bd ≤ 1073741824
                    · have hcd : decide (bd ≤ 1073741824) = true := by simpa using hcap
                      rw [show bup bd 2 j = bd + ((bnd 2 j : Nat) : Int) by unfold bup; rw [if_pos hcap]] at hcall
                      have hbn := rbinds_any 2 j wr
                      generalize bnd 2 j = bn at *
                      by_cases he : er = 0
                      · subst he
                        go_wp2_with (first | (go_at_call 71; refine hbn.mono ?_; rintro e w4 ⟨rfl, rfl⟩) | (go_at_call 37; refine hcall.mono ?_; rintro e w4 ⟨rfl, hb4⟩))
                        go_roundw
                        case rel => exact ⟨j + 1, by go_num, by omega, HS.out.2 (by simp), hb.below hb4 hb.lt, hbel.trans (hb4.mono hsz)⟩
                        case measure => simp [intOf]; omega
                      · have hne : (er != 0) = true := by simpa using he
                        obtain rfl := HS.out.1 he
                        go_wp2_with (first | (go_at_call 71; refine hbn.mono ?_; rintro e w4 ⟨rfl, rfl⟩) | (go_at_call 37; refine hcall.mono ?_; rintro e w4 ⟨rfl, hb4⟩))
                        go_ret
                        exact ⟨rfl, hbel.trans (hb4.mono hsz)⟩
                    · have hcd : decide (bd ≤ 1073741824) = false := by simpa using hcap
                      rw [show bup bd 2 j = bd by unfold bup; rw [if_neg hcap]] at hcall
                      by_cases he : er = 0
                      · subst he
                        go_wp2_with (go_at_call 37; refine hcall.mono ?_; rintro e w4 ⟨rfl, hb4⟩)
                        go_roundw
                        case rel => exact ⟨j + 1, by go_num, by omega, HS.out.2 (by simp), hb.below hb4 hb.lt, hbel.trans (hb4.mono hsz)⟩
                        case measure => simp [intOf]; omega
                      · have hne : (er != 0) = true := by simpa using he
                        obtain rfl := HS.out.1 he
                        go_wp2_with (go_at_call 37; refine hcall.mono ?_; rintro e w4 ⟨rfl, hb4⟩)
                        go_ret
                        exact ⟨rfl, hbel.trans (hb4.mono hsz)⟩
                  · have hst := HE.out
                    rw [rEs_end q 2 bd args (by omega)] at hst
                    subst hst
                    go_wp2_with fail
                    go_ret
                    exact ⟨rfl, hbel⟩
          · have hrr := HP.out.2 (fun h => hk2 h.1)
            have hk2' : (k == 2) = false := by simpa using hk2
            clear HP hk2
            go_wp2_with fail
            go_loopw [8] (fun i wr => ∃ j : Nat, i = .int .i64 (j : Int) ∧ j ≤ args.length ∧ r = Tr.rEs q k bd j (args.drop j) ∧ Blk wr w.heap.size 25 [.int .i64 k, .int .i64 n, .string s, .slice la ls.length lc, .slice a args.length c0] ∧ Below w.heap.size w wr) (fun i _ => args.length - (intOf i).toNat)
            case atStart => exact ⟨0, rfl, by omega, hrr, hb, hbel⟩
            case round =>
              clear hb hbel hrr y0 y2 y3
              obtain ⟨j, rfl, hj, hre, hb, hbel⟩ := hrel
              have z0 := hb.cell (j := 0) rfl
              have z4 := hb.cell (j := 4) rfl
              have HE : Hid (r = Tr.rEs q k bd j (args.drop j)) := hre
              clear hre
              have hsz : w.heap.size ≤ wr.heap.size := hbel.size
              by_cases hlt : j < args.length
              · obtain ⟨L, hL⟩ : ∃ L, args[j]? = some L := ⟨_, List.getElem?_eq_getElem hlt⟩
                obtain ⟨b, off, ha, hS, hbl, e0, e1, e2, e3, e4, hL'⟩ := (hin.below hbel hB).arg (T := .mk k n s ls la lc a c0 tb toff args) hL
                simp only [Tr.a] at ha
                subst ha
                have hst := HE.out
                rw [rEs_drop q k bd args j hL] at hst
                have hbl1 := bnd_le k j
                have HS : Hid ((L.rE q (bup bd k j) ≠ 0 → r = L.rE q (bup bd k j)) ∧ (L.rE q (bup bd k j) = 0 → r = Tr.rEs q k bd (j + 1) (args.drop (j + 1)))) := ⟨fun h => by rw [if_pos h] at hst; exact hst, fun h => by rw [if_neg (by simpa using h)] at hst; exact hst⟩
                have hcall := ih L (List.mem_of_getElem? hL) (bup bd k j) wr B (by unfold bup; split <;> omega) (by unfold bup; split <;> omega) (by omega) hL'
                clear hL HE hst
                simp only [Tr.val] at hcall
                generalize hg : L.rE q (bup bd k j) = er at *
                clear hg
                by_cases hcap : bd ≤ 1073741824
                · have hcd : decide (bd ≤ 1073741824) = true := by simpa using hcap
                  rw [show bup bd k j = bd + ((bnd k j : Nat) : Int) by unfold bup; rw [if_pos hcap]] at hcall
                  have hbn := rbinds_any k j wr
                  generalize bnd k j = bn at *
                  by_cases he : er = 0
                  · subst he
                    go_wp2_with (first | (go_at_call 71; refine hbn.mono ?_; rintro e w4 ⟨rfl, rfl⟩) | (go_at_call 37; refine hcall.mono ?_; rintro e w4 ⟨rfl, hb4⟩))
                    go_roundw
                    case rel => exact ⟨j + 1, by go_num, by omega, HS.out.2 (by simp), hb.below hb4 hb.lt, hbel.trans (hb4.mono hsz)⟩
                    case measure => simp [intOf]; omega
                  · have hne : (er != 0) = true := by simpa using he
                    obtain rfl := HS.out.1 he
                    go_wp2_with (first | (go_at_call 71; refine hbn.mono ?_; rintro e w4 ⟨rfl, rfl⟩) | (go_at_call 37; refine hcall.mono ?_; rintro e w4 ⟨rfl, hb4⟩))
                    go_ret
                    exact ⟨rfl, hbel.trans (hb4.mono hsz)⟩
                · have hcd : decide (bd ≤ 1073741824) = false := by simpa using hcap
                  rw [show bup bd k j = bd by unfold bup; rw [if_neg hcap]] at hcall
                  by_cases he : er = 0
                  · subst he
                    go_wp2_with (go_at_call 37; refine hcall.mono ?_; rintro e w4 ⟨rfl, hb4⟩)
                    go_roundw
                    case rel => exact ⟨j + 1, by go_num, by omega, HS.out.2 (by simp), hb.below hb4 hb.lt, hbel.trans (hb4.mono hsz)⟩
                    case measure => simp [intOf]; omega
                  · have hne : (er != 0) = true := by simpa using he
                    obtain rfl := HS.out.1 he
                    go_wp2_with (go_at_call 37; refine hcall.mono ?_; rintro e w4 ⟨rfl, hb4⟩)
                    go_ret
                    exact ⟨rfl, hbel.trans (hb4.mono hsz)⟩
              · have hst := HE.out
                rw [rEs_end q k bd args (by omega)] at hst
                subst hst
                go_wp2_with fail
                go_ret
                exact ⟨rfl, hbel⟩
    · skip
      go_enter Tryd.func37, Tryd.ntmps37
      go_wp2_with fail
      clear x0 x1 x3
      go_loopw [7] (fun i wr => ∃ j : Nat, i = .int .i64 (j : Int) ∧ j ≤ ls.length ∧ lvsB (ls.take j) q = true ∧ Blk wr w.heap.size 25 [.int .i64 0, .int .i64 n, .string s, .slice la ls.length lc, .slice a args.length c0] ∧ Below w.heap.size w wr) (fun i _ => ls.length - (intOf i).toNat)
      case atStart => exact ⟨0, rfl, by omega, by simp [lvsB], X1, hbw⟩
      case round =>
        clear X1 hbw
        obtain ⟨j, rfl, hj, hok, hb, hbel⟩ := hrel
        have y3 := hb.cell (j := 3) rfl
        have HK : Hid (lvsB (ls.take j) q = true) := hok
        clear hok
        have hsz : w.heap.size ≤ wr.heap.size := hbel.size
        by_cases hlt : j < ls.length
        · obtain ⟨L, hL⟩ : ∃ L, ls[j]? = some L := ⟨_, List.getElem?_eq_getElem hlt⟩
          obtain ⟨b, off, k', n', args', a', cap', rfl, hS, rfl, e0, e1, e2, hN'⟩ := (hNl.below hbel hB).get hL
          have HL : Hid (ls[j]? = some (.mk k' n' args')) := hL
          clear hL
          have hcall := rmay_any (.mk k' n' args') q wr B _ (by omega) hN'.is
          cases hr : mayB (.mk k' n' args') q with
          | true =>
            rw [hr] at hcall
            go_wp2_with (go_at_call 38; refine hcall.mono ?_; rintro e w4 ⟨rfl, hb4⟩)
            go_roundw
            case rel => exact ⟨j + 1, by go_num, by omega, lvsB_take HL.out HK.out hr, hb.below hb4 hb.lt, hbel.trans (hb4.mono hsz)⟩
            case measure => simp [intOf]; omega
          | false =>
            rw [hr] at hcall
            obtain rfl := HO.out.1 (lvsB_bad HL.out hr)
            go_wp2_with (go_at_call 38; refine hcall.mono ?_; rintro e w4 ⟨rfl, hb4⟩)
            go_ret
            exact ⟨rfl, hbel.trans (hb4.mono hsz)⟩
        · have hall := HK.out
          rw [List.take_of_length_le (by omega)] at hall
          have HP : Hid (((0 : Int) = 2 → (emB s = true ∨ 24 < s.size) → r = 9) ∧ (¬ ((0 : Int) = 2 ∧ (emB s = true ∨ 24 < s.size)) → r = Tr.rEs q 0 bd 0 args)) := ⟨HO.out.2.1 hall, HO.out.2.2 hall⟩
          clear HO hall HK
          obtain ⟨wo, hwo⟩ : ∃ wo, wo = wr := ⟨_, rfl⟩
          subst hwo
          have y0 := hb.cell (j := 0) rfl
          have y2 := hb.cell (j := 2) rfl
          have hrr := HP.out.2 (fun h => by cases h.1)
          clear HP
          go_wp2_with fail
          go_loopw [8] (fun i wr => ∃ j : Nat, i = .int .i64 (j : Int) ∧ j ≤ args.length ∧ r = Tr.rEs q 0 bd j (args.drop j) ∧ Blk wr w.heap.size 25 [.int .i64 0, .int .i64 n, .string s, .slice la ls.length lc, .slice a args.length c0] ∧ Below w.heap.size w wr) (fun i _ => args.length - (intOf i).toNat)
          case atStart => exact ⟨0, rfl, by omega, hrr, hb, hbel⟩
          case round =>
            clear hb hbel hrr y0 y2 y3
            obtain ⟨j, rfl, hj, hre, hb, hbel⟩ := hrel
            have z0 := hb.cell (j := 0) rfl
            have z4 := hb.cell (j := 4) rfl
            have HE : Hid (r = Tr.rEs q 0 bd j (args.drop j)) := hre
            clear hre
            have hsz : w.heap.size ≤ wr.heap.size := hbel.size
            by_cases hlt : j < args.length
            · obtain ⟨L, hL⟩ : ∃ L, args[j]? = some L := ⟨_, List.getElem?_eq_getElem hlt⟩
              obtain ⟨b, off, ha, hS, hbl, e0, e1, e2, e3, e4, hL'⟩ := (hin.below hbel hB).arg (T := .mk 0 n s ls la lc a c0 tb toff args) hL
              simp only [Tr.a] at ha
              subst ha
              have hst := HE.out
              rw [rEs_drop q 0 bd args j hL] at hst
              have hbl1 := bnd_le 0 j
              have HS : Hid ((L.rE q (bup bd 0 j) ≠ 0 → r = L.rE q (bup bd 0 j)) ∧ (L.rE q (bup bd 0 j) = 0 → r = Tr.rEs q 0 bd (j + 1) (args.drop (j + 1)))) := ⟨fun h => by rw [if_pos h] at hst; exact hst, fun h => by rw [if_neg (by simpa using h)] at hst; exact hst⟩
              have hcall := ih L (List.mem_of_getElem? hL) (bup bd 0 j) wr B (by unfold bup; split <;> omega) (by unfold bup; split <;> omega) (by omega) hL'
              clear hL HE hst
              simp only [Tr.val] at hcall
              generalize hg : L.rE q (bup bd 0 j) = er at *
              clear hg
              by_cases hcap : bd ≤ 1073741824
              · have hcd : decide (bd ≤ 1073741824) = true := by simpa using hcap
                rw [show bup bd 0 j = bd + ((bnd 0 j : Nat) : Int) by unfold bup; rw [if_pos hcap]] at hcall
                have hbn := rbinds_any 0 j wr
                generalize bnd 0 j = bn at *
                by_cases he : er = 0
                · subst he
                  go_wp2_with (first | (go_at_call 71; refine hbn.mono ?_; rintro e w4 ⟨rfl, rfl⟩) | (go_at_call 37; refine hcall.mono ?_; rintro e w4 ⟨rfl, hb4⟩))
                  go_roundw
                  case rel => exact ⟨j + 1, by go_num, by omega, HS.out.2 (by simp), hb.below hb4 hb.lt, hbel.trans (hb4.mono hsz)⟩
                  case measure => simp [intOf]; omega
                · have hne : (er != 0) = true := by simpa using he
                  obtain rfl := HS.out.1 he
                  go_wp2_with (first | (go_at_call 71; refine hbn.mono ?_; rintro e w4 ⟨rfl, rfl⟩) | (go_at_call 37; refine hcall.mono ?_; rintro e w4 ⟨rfl, hb4⟩))
                  go_ret
                  exact ⟨rfl, hbel.trans (hb4.mono hsz)⟩
              · have hcd : decide (bd ≤ 1073741824) = false := by simpa using hcap
                rw [show bup bd 0 j = bd by unfold bup; rw [if_neg hcap]] at hcall
                by_cases he : er = 0
                · subst he
                  go_wp2_with (go_at_call 37; refine hcall.mono ?_; rintro e w4 ⟨rfl, hb4⟩)
                  go_roundw
                  case rel => exact ⟨j + 1, by go_num, by omega, HS.out.2 (by simp), hb.below hb4 hb.lt, hbel.trans (hb4.mono hsz)⟩
                  case measure => simp [intOf]; omega
                · have hne : (er != 0) = true := by simpa using he
                  obtain rfl := HS.out.1 he
                  go_wp2_with (go_at_call 37; refine hcall.mono ?_; rintro e w4 ⟨rfl, hb4⟩)
                  go_ret
                  exact ⟨rfl, hbel.trans (hb4.mono hsz)⟩
            · have hst := HE.out
              rw [rEs_end q 0 bd args (by omega)] at hst
              subst hst
              go_wp2_with fail
              go_ret
              exact ⟨rfl, hbel⟩
  · have hd4 : decide ((4 : Int) < (ls.length : Int)) = true := by simp; omega
    obtain rfl := F2 (fun h => h4 h.1)
    clear F2 F3 F4
    rcases hvd with hvd | ⟨rfl, hvd2⟩
    all_goals
      go_enter Tryd.func37, Tryd.ntmps37
      go_wp2_with fail
      go_ret
      exact ⟨rfl, hbw⟩
end Go.Proofs.YthoomofmjdhfbaaDoor
