/- OctetRows, the walk: numbers and texts that stand in a row are read on, one by one. -/
import Derived.Test.YtcbpicioljiidaaReads
namespace Go.Proofs.Ytcbpicioljiidaa
open Go.RowKit

/-- A slice that can be read, its elements' values told. -/
structure Cells (w : World) (ao : Option Addr) (n cap : Nat) (vs : List Value) : Prop where
  len : vs.length = n
  le : n ≤ cap
  max : cap ≤ maxLen
  nil : ao = none → cap = 0
  cells : ∀ a, ao = some a → ∀ j v, vs[j]? = some v → w.cell? (a.add j) = some v

theorem Cells.below {C : Nat} {w w' : World} {ao : Option Addr} {n cap : Nat} {vs : List Value} (h : Cells w ao n cap vs) (hb : Below C w w') (hC : w.heap.size ≤ C) : Cells w' ao n cap vs :=
  ⟨h.len, h.le, h.max, h.nil, fun a ha j v hv => by
    have h1 := h.cells a ha j v hv
    exact (World.cell?_of_block (hb.block _ (Nat.lt_of_lt_of_le (World.block_lt_of_cell? w _ h1) hC))).trans h1⟩

theorem Cells.at {w : World} {ao : Option Addr} {n cap : Nat} {vs : List Value} (h : Cells w ao n cap vs) {k : Nat} (hk : k < n) :
    ∃ b off, ao = some ⟨b, off, none⟩ ∧ ∀ v, vs[k]? = some v → w.cell? ⟨b, off + k, none⟩ = some v := by
  have hl := h.len
  cases ao with
  | none => have := h.nil rfl; have := h.le; omega
  | some a =>
    have h0 := h.cells a rfl 0 (vs[0]'(by omega)) (List.getElem?_eq_getElem _)
    have h2 := World.cell?_spot h0
    obtain ⟨b, off, spot⟩ := a
    have h3 : spot = none := by simpa [Addr.add] using h2
    subst h3
    refine ⟨b, off, rfl, fun v hv => ?_⟩
    have h1 := h.cells _ rfl k v hv
    rwa [Addr.add_lit] at h1

/-- Numbers in a row, texts in a row. -/
def encV (l : List Nat) : List UInt8 := l.flatMap Lib.uvarint
def encT (l : List (List UInt8)) : List UInt8 := l.flatMap fun t => Lib.uvarint t.length ++ t

theorem encV_take (l : List Nat) (k : Nat) (x : Nat) (h : l[k]? = some x) : encV (l.take (k + 1)) = encV (l.take k) ++ Lib.uvarint x := by
  obtain ⟨hk, rfl⟩ := List.getElem?_eq_some_iff.1 h
  rw [List.take_succ_eq_append_getElem hk]
  simp only [encV, List.flatMap_append, List.flatMap_cons, List.flatMap_nil, List.append_nil]
theorem encV_drop (l : List Nat) (k : Nat) (x : Nat) (h : l[k]? = some x) : encV (l.drop k) = Lib.uvarint x ++ encV (l.drop (k + 1)) := by
  obtain ⟨hk, rfl⟩ := List.getElem?_eq_some_iff.1 h
  rw [List.drop_eq_getElem_cons hk]
  simp only [encV, List.flatMap_cons]
theorem encT_take (l : List (List UInt8)) (k : Nat) (x : List UInt8) (h : l[k]? = some x) : encT (l.take (k + 1)) = encT (l.take k) ++ (Lib.uvarint x.length ++ x) := by
  obtain ⟨hk, rfl⟩ := List.getElem?_eq_some_iff.1 h
  rw [List.take_succ_eq_append_getElem hk]
  simp only [encT, List.flatMap_append, List.flatMap_cons, List.flatMap_nil, List.append_nil]
theorem encT_drop (l : List (List UInt8)) (k : Nat) (x : List UInt8) (h : l[k]? = some x) : encT (l.drop k) = (Lib.uvarint x.length ++ x) ++ encT (l.drop (k + 1)) := by
  obtain ⟨hk, rfl⟩ := List.getElem?_eq_some_iff.1 h
  rw [List.drop_eq_getElem_cons hk]
  simp only [encT, List.flatMap_cons]

/-- 'b[n:]' of bytes that can be read. -/
theorem Rd.tail {w : World} {b off n cap : Nat} {bs : List UInt8} (h : Rd w (some ⟨b, off, none⟩) n cap bs) (l : Nat) (hl : l ≤ n) : Rd w (some ⟨b, off + l, none⟩) (n - l) (cap - l) (bs.drop l) := by
  have h1 := h.cut w l (n - l) (cap - l) (by omega) (by have := h.le; omega) (by have := h.max; omega)
  rwa [List.take_of_length_le (by have := h.len; simp; omega)] at h1

theorem Rd.tail0 {w : World} {b off n cap : Nat} {bs : List UInt8} (h : Rd w (some ⟨b, off, none⟩) n cap bs) (l : Nat) (hc : cap = l) : Rd w (some ⟨b, off, none⟩) 0 0 (bs.drop l) := by
  have h1 := h.len
  have h2 := h.le
  rw [List.drop_eq_nil_of_le (by omega)]
  exact Rd.none' w _

theorem tt_at200 (x rest : List UInt8) (h : x.length ≤ 200) : tt (Lib.uvarint x.length ++ x ++ rest) 200 = (x, (Lib.uvarint x.length).length + x.length, 0) := tt_back x rest (by omega) 200 (by omega)

set_option maxRecDepth 100000 in
set_option maxHeartbeats 2000000 in
theorem rows_walk (vo : Option Addr) (nv vcap : Nat) (vl : List Nat) (to : Option Addr) (nt tcap : Nat) (tl : List (Option Addr × Nat × Nat × List UInt8)) (w : World)
    (hv : Cells w vo nv vcap (vl.map fun x : Nat => Value.int .u64 (x : Int))) (hvb : ∀ (j x : Nat), vl[j]? = some x → x < 18446744073709551616)
    (ht : Cells w to nt tcap (tl.map fun t : Option Addr × Nat × Nat × List UInt8 => Value.slice t.1 t.2.1 t.2.2.1)) (htb : ∀ (j : Nat) (t : Option Addr × Nat × Nat × List UInt8), tl[j]? = some t → Rd w t.1 t.2.1 t.2.2.1 t.2.2.2) :
    Calls Try.prog 8 #[.slice vo nv vcap, .slice to nt tcap] w fun e w' => e = .returned (.bool true) ∧ Below w.heap.size w w' := by
  have v1 := hv.le
  have v2 := hv.max
  have t1 := ht.le
  have t2 := ht.max
  unfold maxLen at v2 t2
  by_cases c1 : 20 < nv
  · go_enter Try.func8, Try.ntmps8
    go_wp2_with (go_at_call 9; refine (begun_any _).mono ?_; rintro e w0 ⟨rfl, hb0⟩)
    go_ret
    exact ⟨rfl, hb0⟩
  by_cases c2 : 20 < nt
  · go_enter Try.func8, Try.ntmps8
    go_wp2_with (go_at_call 9; refine (begun_any _).mono ?_; rintro e w0 ⟨rfl, hb0⟩)
    go_ret
    exact ⟨rfl, hb0⟩
  have HVL : Hid (vl.length = nv) := by unfold Hid; simpa using hv.len
  have HTL : Hid (tl.length = nt) := by unfold Hid; simpa using ht.len
  have HVB : Hid _ := hvb
  have HTB : Hid _ := htb
  clear hvb htb
  go_enter Try.func8, Try.ntmps8
  go_wp2_with (go_at_call 9; refine (begun_any _).mono ?_; rintro e w0 ⟨rfl, hb0⟩)
  -- the numbers are written
  go_loopw [5, 6] (fun out i wr => ∃ (k n cap' : Nat) (ao' : Option Addr), k ≤ nv ∧ i = .int .i64 (k : Int) ∧ out = .slice ao' n cap' ∧ n ≤ 10 * k ∧ Rd wr ao' n cap' (encV (vl.take k)) ∧ Below w.heap.size w wr)
    (fun _ i _ => nv - (intOf i).toNat)
  case atStart => exact ⟨0, 0, 0, none, Nat.zero_le _, rfl, rfl, by omega, Rd.none' _ _, hb0⟩
  case round =>
    clear hb0
    obtain ⟨k, n, cap', ao', hk, rfl, rfl, hn, hR, hb⟩ := hrel
    by_cases hlt : k < nv
    · have hv1 := hv.below hb (Nat.le_refl _)
      obtain ⟨x, hx⟩ : ∃ x, vl[k]? = some x := ⟨_, List.getElem?_eq_getElem (by rw [HVL.out]; exact hlt)⟩
      have hx64 := HVB.out k x hx
      obtain ⟨b, off, rfl, hcell⟩ := hv1.at hlt
      have hc := hcell (.int .u64 (x : Int)) (by simp [hx])
      have HE : Hid _ := encV_take vl k x hx
      have hxl := Lib.uvarint_length64 hx64
      clear hcell hv1 hx
      go_wp2_with fail
      refine (var_any ao' n cap' _ x _ hR (by omega) hx64).mono ?_
      rintro e w1 ⟨g1, c1', rfl, o1, hb1⟩
      have z := hb.size
      go_wp2
      go_roundw
      case rel =>
        refine ⟨k + 1, _, c1', some ⟨g1, 0, none⟩, by omega, by go_num, rfl, by omega, ?_, hb.trans (hb1.mono z)⟩
        rw [HE.out]
        exact o1.rd
      case measure => simp [intOf]; omega
    · have hkn : nv = k := by omega
      subst hkn
      have HF : Hid (vl.take nv = vl) := List.take_of_length_le (by rw [HVL.out]; omega)
      rw [HF.out] at hR
      clear HF hk hlt
      obtain ⟨wa, rfl⟩ : ∃ wa : World, wa = wr := ⟨_, rfl⟩
      go_wp2_with fail
      -- the texts are written
      go_loopw [5, 7] (fun out i wr => ∃ (k n cap' : Nat) (ao' : Option Addr), k ≤ nt ∧ i = .int .i64 (k : Int) ∧ out = .slice ao' n cap' ∧ n ≤ 10 * nv + 210 * k ∧ Rd wr ao' n cap' (encV vl ++ encT ((tl.map fun t => t.2.2.2).take k)) ∧ Hid (∀ j t, j < k → tl[j]? = some t → t.2.1 ≤ 200) ∧ Below w.heap.size w wr)
        (fun _ i _ => nt - (intOf i).toNat)
      case atStart => exact ⟨0, n, cap', ao', Nat.zero_le _, rfl, rfl, by omega, by simpa [encT] using hR, fun j t hj => absurd hj (Nat.not_lt_zero _), hb⟩
      case round =>
        clear hR hb hn
        obtain ⟨k, n, cap', ao', hk, rfl, rfl, hn, hR, HS, hb⟩ := hrel
        by_cases hlt : k < nt
        · have ht1 := ht.below hb (Nat.le_refl _)
          obtain ⟨⟨ta, tn, tc, tb⟩, hx⟩ : ∃ t, tl[k]? = some t := ⟨_, List.getElem?_eq_getElem (by rw [HTL.out]; exact hlt)⟩
          have hrd := HTB.out k _ hx
          simp only at hrd
          obtain ⟨b, off, rfl, hcell⟩ := ht1.at hlt
          have hc := hcell (.slice ta tn tc) (by simp [hx])
          have HE : Hid _ := encT_take (tl.map fun t => t.2.2.2) k tb (by simp [hx])
          have HX : Hid _ := hx
          have hrd1 := hrd.below hb (Nat.le_refl _)
          have HTBL : Hid (tb.length = tn) := hrd.len
          have m1 := hrd.le
          have m2 := hrd.max
          unfold maxLen at m2
          clear hcell ht1 hx hrd
          by_cases hbig : 200 < tn
          · go_wp2
            go_ret
            exact ⟨rfl, hb⟩
          · have hxl := Lib.uvarint_length64 (x := tn) (by omega)
            have HS2 : Hid (∀ j t, j < k + 1 → tl[j]? = some t → t.2.1 ≤ 200) := fun j t hj hjt => by
              by_cases h : j = k
              · subst h
                rw [HX.out] at hjt
                simp only [Option.some.injEq] at hjt
                subst hjt
                simp only
                omega
              · exact HS.out j t (by omega) hjt
            go_wp2_with fail
            refine (text_any ao' n cap' _ ta tn tc tb _ hR hrd1 (by omega) (by omega)).mono ?_
            rintro e w1 ⟨g1, c1', rfl, o1, hb1⟩
            have z := hb.size
            go_wp2
            go_roundw
            case rel =>
              refine ⟨k + 1, _, c1', some ⟨g1, 0, none⟩, by omega, by go_num, rfl, by omega, ?_, HS2, hb.trans (hb1.mono z)⟩
              rw [HE.out, HTBL.out]
              simpa [List.append_assoc] using o1.rd
            case measure => simp [intOf]; omega
        · have hkn : nt = k := by omega
          subst hkn
          have HF : Hid ((tl.map fun t => t.2.2.2).take nt = tl.map fun t => t.2.2.2) := List.take_of_length_le (by simp [HTL.out])
          rw [HF.out] at hR
          clear HF hk hlt
          obtain ⟨wb, rfl⟩ : ∃ wb : World, wb = wr := ⟨_, rfl⟩
          have hvb := hv.below hb (Nat.le_refl _)
          have htb := ht.below hb (Nat.le_refl _)
          go_wp2_with fail
          -- the numbers are read
          go_loop [5, 8] (fun out i => ∃ (k n cap' : Nat) (ao' : Option Addr), k ≤ nv ∧ i = .int .i64 (k : Int) ∧ out = .slice ao' n cap' ∧ n ≤ 4400 ∧ Rd wb ao' n cap' (encV (vl.drop k) ++ encT (tl.map fun t => t.2.2.2)))
            (fun _ i => nv - (intOf i).toNat)
          case atStart => exact ⟨0, n, cap', ao', Nat.zero_le _, rfl, rfl, by omega, by simpa using hR⟩
          case round =>
            clear hR hn
            obtain ⟨k, n, cap', ao', hk, rfl, rfl, hn, hR⟩ := hrel
            by_cases hlt : k < nv
            · obtain ⟨x, hx⟩ : ∃ x, vl[k]? = some x := ⟨_, List.getElem?_eq_getElem (by rw [HVL.out]; exact hlt)⟩
              have hx64 := HVB.out k x hx
              obtain ⟨b, off, rfl, hcell⟩ := hvb.at hlt
              have hc := hcell (.int .u64 (x : Int)) (by simp [hx])
              rw [encV_drop vl k x hx, List.append_assoc] at hR
              have HR : Hid _ := tv_back x hx64 (encV (vl.drop (k + 1)) ++ encT (tl.map fun t => t.2.2.2))
              have hxp := Lib.uvarint_pos x
              have hxn : (Lib.uvarint x).length ≤ n := by rw [← hR.len]; simp
              obtain ⟨b', off', rfl, hk0, hck⟩ := hR.at (show 0 < n by omega)
              have rl := hR.le
              have rm := hR.max
              unfold maxLen at rm
              clear hcell hx hck hk0
              by_cases hcap : cap' = (Lib.uvarint x).length
              · have hT := hR.tail0 (Lib.uvarint x).length hcap
                rw [List.drop_left] at hT
                subst hcap
                go_wp2_with fail
                refine (takeVar_at hR HR.out).mono ?_
                rintro e w1 ⟨rfl, rfl⟩
                go_wp2
                go_round
                case rel => exact ⟨k + 1, _, _, _, by omega, by go_num, rfl, by omega, hT⟩
                case measure => simp [intOf]; omega
              · have hT := hR.tail (Lib.uvarint x).length hxn
                rw [List.drop_left] at hT
                go_wp2_with fail
                refine (takeVar_at hR HR.out).mono ?_
                rintro e w1 ⟨rfl, rfl⟩
                go_wp2
                go_round
                case rel => exact ⟨k + 1, _, _, _, by omega, by go_num, rfl, by omega, hT⟩
                case measure => simp [intOf]; omega
            · have hkn : nv = k := by omega
              subst hkn
              have HF : Hid (encV (vl.drop nv) = []) := by unfold Hid; rw [List.drop_eq_nil_of_le (by rw [HVL.out]; omega)]; rfl
              rw [HF.out, List.nil_append] at hR
              clear HF hk hlt hvb
              go_wp2_with fail
              -- the texts are read
              go_loopw [5, 12] (fun out i wr => ∃ (k n cap' : Nat) (ao' : Option Addr), k ≤ nt ∧ i = .int .i64 (k : Int) ∧ out = .slice ao' n cap' ∧ n ≤ 4400 ∧ Rd wr ao' n cap' (encT ((tl.map fun t => t.2.2.2).drop k)) ∧ Below w.heap.size w wr)
                (fun _ i _ => nt - (intOf i).toNat)
              case atStart => exact ⟨0, n, cap', ao', Nat.zero_le _, rfl, rfl, by omega, by simpa using hR, hb⟩
              case round =>
                clear hR hb hn htb
                obtain ⟨k, n, cap', ao', hk, rfl, rfl, hn, hR, hb⟩ := hrel
                by_cases hlt : k < nt
                · have ht1 := ht.below hb (Nat.le_refl _)
                  obtain ⟨⟨ta, tn, tc, tb⟩, hx⟩ : ∃ t, tl[k]? = some t := ⟨_, List.getElem?_eq_getElem (by rw [HTL.out]; exact hlt)⟩
                  have hrd := HTB.out k _ hx
                  have hsm := HS.out k _ hlt hx
                  simp only at hrd hsm
                  obtain ⟨b, off, rfl, hcell⟩ := ht1.at hlt
                  have hc0 := hcell (.slice ta tn tc) (by simp [hx])
                  have HTBL : Hid (tb.length = tn) := hrd.len
                  rw [encT_drop (tl.map fun t => t.2.2.2) k tb (by simp [hx])] at hR
                  have HR : Hid _ := tt_at200 tb (encT ((tl.map fun t => t.2.2.2).drop (k + 1))) (by rw [HTBL.out]; exact hsm)
                  obtain ⟨L, hL⟩ : ∃ L, L = (Lib.uvarint tb.length).length + tb.length := ⟨_, rfl⟩
                  have hxp := Lib.uvarint_pos tb.length
                  have hxn : L ≤ n := by rw [← hR.len, hL]; simp
                  have hL1 : 1 ≤ L := by omega
                  have hdr : (Lib.uvarint tb.length ++ tb ++ encT ((tl.map fun t => t.2.2.2).drop (k + 1))).drop L = encT ((tl.map fun t => t.2.2.2).drop (k + 1)) := by rw [hL]; exact List.drop_left' (by simp)
                  obtain ⟨b', off', rfl, hk0, hck⟩ := hR.at (show 0 < n by omega)
                  have rl := hR.le
                  have rm := hR.max
                  unfold maxLen at rm
                  have HR2 : Hid _ := HR.out
                  rw [← hL] at HR2
                  have HDR : Hid _ := hdr
                  clear hcell hx hck hk0 hL hxp HR hdr
                  go_wp2_with fail
                  refine (takeText_at hR (by omega) (by omega) (by omega) HR2.out).mono ?_
                  rintro e w1 ⟨sa, cs, rfl, sres, hb1⟩
                  have z := hb.size
                  have hb2 := hb.trans (hb1.mono z)
                  have hlt2 := World.block_lt_of_cell? _ _ hc0
                  have hc : w1.cell? ⟨b, off + k, none⟩ = some (.slice ta tn tc) := by rw [hb1.cell (p := ⟨b, off + k, none⟩) hlt2]; exact hc0
                  have fs : ∀ q, (convert 22 9 (.slice sa tb.length cs)).run Try.prog (w1.drewN q) = .ok (.string ⟨tb.toArray⟩) (w1.drewN q) := fun q => str_of (sres.1.carry fun _ _ => rfl)
                  have ft : ∀ q, (convert 22 9 (.slice ta tn tc)).run Try.prog (w1.drewN q) = .ok (.string ⟨tb.toArray⟩) (w1.drewN q) := fun q => str_of ((hrd.below hb2 (Nat.le_refl _)).carry fun _ _ => rfl)
                  have hR1 := hR.below hb1 (Nat.le_refl _)
                  have hk0' : (0 : Int) ≤ (k : Int) := by omega
                  have hk1' : (k : Int) < (nt : Int) := by omega
                  clear hR ht1 sres hb1 hc0 hrd
                  go_wp2_with fail
                  go_quiet (fail)
                  clear fs ft hc
                  have b3 := below_drewN hb2 nq
                  by_cases hcap : cap' = L
                  · have hT := (hR1.tail0 L hcap).carry (w' := w1.drewN nq) (fun _ _ => rfl)
                    rw [HDR.out] at hT
                    subst hcap
                    go_wp2
                    go_roundw
                    case rel => exact ⟨k + 1, _, _, _, by omega, by go_num, rfl, by omega, hT, b3⟩
                    case measure => simp [intOf]; omega
                  · have hT := (hR1.tail L hxn).carry (w' := w1.drewN nq) (fun _ _ => rfl)
                    rw [HDR.out] at hT
                    go_wp2
                    go_roundw
                    case rel => exact ⟨k + 1, _, _, _, by omega, by go_num, rfl, by omega, hT, b3⟩
                    case measure => simp [intOf]; omega
                · have hkn : nt = k := by omega
                  subst hkn
                  have hl0 := hR.len
                  rw [List.drop_eq_nil_of_le (by simp [HTL.out])] at hl0
                  obtain rfl : n = 0 := by simpa [encT] using hl0.symm
                  clear hR hl0
                  go_wp2
                  go_ret
                  exact ⟨rfl, hb⟩
end Go.Proofs.Ytcbpicioljiidaa
