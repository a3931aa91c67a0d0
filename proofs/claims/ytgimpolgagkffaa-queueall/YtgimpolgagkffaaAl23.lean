/- QueueAll's walk: a round's case 3. No condition. -/
import Derived.Test.YtgimpolgagkffaaAl2a
namespace Go.Proofs.Ytgimpolgagkffaa
open Go.RowKit
set_option linter.unusedVariables false

set_option maxRecDepth 1000000 in
set_option maxHeartbeats 8000000 in
theorem case3_any {w wo : World} {n0 cap0 b off i r ob g0 g n cap : Nat} {q : Option Nat} {St : List En} {ao : Option Addr} {E : List En} {x y z : Int} {u2 u7 u8 u9 u10 u11 u12 u13 u14 u15 u16 u25 u26 u27 u28 u29 u30 u31 u32 u33 u34 u35 u36 u37 u38 u40 u41 u42 u43 u44 u45 u46 u47 u48 u49 u50 u51 u52 u53 u54 u55 u56 u57 u58 u59 u60 u61 u62 u63 u64 u65 u66 u67 u68 u69 u70 u71 u72 u73 u74 u75 u76 u77 u78 u79 u80 u81 u82 u83 u84 u85 u86 u87 u88 u89 u90 u91 u92 u93 u94 u95 u96 u97 u98 u99 u100 u101 u102 u103 u104 u105 u106 u107 u108 u109 u110 u111 u112 u113 u114 u115 u116 u117 u118 u119 u120 u121 u122 u123 u124 u125 u126 u127 u128 u129 u130 u131 u132 u133 u134 u135 u136 u137 u138 u139 u140 u141 u142 u143 u144 u145 u146 u147 u148 u149 u150 u151 u152 u153 u154 u155 u156 u157 u158 u159 u160 u161 u162 u163 u164 u165 u166 u167 u168 u169 u170 u171 u172 u173 u174 u175 u176 u177 u178 u179 u180 u181 u182 u183 u184 u185 u186 u187 u188 u189 u190 u191 u192 u193 u194 u195 u196 u197 u198 u199 u200 u201 u202 u203 u204 : Value} {J K' : Act → World → Prop} {Q0 : Exit → Act → World → Prop}
    (hn' : n0 ≤ 300) (hin : i < n0) (hni : n ≤ i) (hobn : ob ≠ g ∧ ∀ b', q = some b' → b' ≠ ob) (Po : Blk wo ob 31 [.int .i64 x, .int .i64 y, .int .i64 z]) (hL : LS w wo g q St n r ao cap E)
    (hJ : ∀ a' w', Left w n0 cap0 b off i r ob g0 a' w' → J a' w') (hK : ∀ a' w', Met J a' w' → K' a' w') (hQ : ∀ c a a' w, a.defers = a'.defers → Q0 (.panic c) a w → Q0 (.panic c) a' w) :
    Code.wp Try.prog ((Try.f3.body.bind findB).getD Code.skip) (Exit.then K' Q0) ⟨#[Value.slice (some ⟨b, off, none⟩) n0 cap0, undef, u2, Value.pointer (some ⟨g, 0, none⟩), Value.pointer (some ⟨r, 0, none⟩), Value.int .i64 (i : Int), Value.pointer (some ⟨ob, 0, none⟩), u7, u8, u9, u10, u11, u12, u13, u14, u15, u16, Value.bool true, Value.bool false, Value.slice (some ⟨b, off, none⟩) n0 cap0, Value.int .i64 (n0 : Int), Value.bool (decide ((300 : Int) < (n0 : Int))), Value.pointer (some ⟨g0, 0, none⟩), Value.agg #[Value.slice none 0 0], Value.pointer (some ⟨r, 0, none⟩), u25, u26, u27, u28, u29, u30, u31, u32, u33, u34, u35, u36, u37, u38, Value.int .i64 3, u40, u41, u42, u43, u44, u45, u46, u47, u48, u49, u50, u51, u52, u53, u54, u55, u56, u57, u58, u59, u60, u61, u62, u63, u64, u65, u66, u67, u68, u69, u70, u71, u72, u73, u74, u75, u76, u77, u78, u79, u80, u81, u82, u83, u84, u85, u86, u87, u88, u89, u90, u91, u92, u93, u94, u95, u96, u97, u98, u99, u100, u101, u102, u103, u104, u105, u106, u107, u108, u109, u110, u111, u112, u113, u114, u115, u116, u117, u118, u119, u120, u121, u122, u123, u124, u125, u126, u127, u128, u129, u130, u131, u132, u133, u134, u135, u136, u137, u138, u139, u140, u141, u142, u143, u144, u145, u146, u147, u148, u149, u150, u151, u152, u153, u154, u155, u156, u157, u158, u159, u160, u161, u162, u163, u164, u165, u166, u167, u168, u169, u170, u171, u172, u173, u174, u175, u176, u177, u178, u179, u180, u181, u182, u183, u184, u185, u186, u187, u188, u189, u190, u191, u192, u193, u194, u195, u196, u197, u198, u199, u200, u201, u202, u203, u204], []⟩ wo := by
  refine Code.wp_mono (Q := Exit.then K' (pq Q0)) (fun e a w h => ?_) ?_
  · cases e <;> first | exact h | (obtain ⟨a', h1, h2⟩ := h; exact hQ _ _ _ _ h1 h2)
  have o0 := Po.cell (j := 0) rfl
  have o1 := Po.cell (j := 1) rfl
  have o2 := Po.cell (j := 2) rfl
  unfold Left at hJ
  conv => arg 2; whnf
  have hlen := hL.len
  have hE9 : E.length ≤ 256 := by rw [← hlen]; exact hL.qs.len
  have hy4 : -3 ≤ y.tmod 4 ∧ y.tmod 4 ≤ 3 := by
    rcases Int.le_total 0 y with h | h
    · rw [Int.tmod_eq_emod_of_nonneg h]; omega
    · have := Int.neg_tmod (-y) 4
      rw [Int.neg_neg] at this
      rw [this, Int.tmod_eq_emod_of_nonneg (by omega)]; omega
  obtain ⟨hy4a, hy4b⟩ := hy4
  obtain ⟨rest, HRE⟩ : ∃ rest, Hid (y.tmod 4 % 4 = rest) := ⟨_, rfl⟩
  obtain ⟨w3, hw3, hb3, P3, hs3⟩ := one_new wo [.int .i64 rest] 42
  have HL3 : Hid _ := hL.low hb3
  have cD := qdrop_any rest g q St n w3 HL3.out.qs
  unfold askF at cD
  have rp : ¬ (wo.heap.size = g ∨ q = some wo.heap.size) := fun e => e.elim (fun e => by have := hL.qs.glt; omega) (fun e => by have := hL.qs.qlt e; omega)
  have HW3 : Hid _ := hw3
  have HLEN : Hid _ := hlen
  clear hw3 hb3 hs3 hL hlen
  go_wp2_with fail
  rw [HRE.out, HW3.out]
  go_wp2_with fail
  refine cD.mono ?_
  rintro e w4 ⟨rfl, hD⟩
  obtain ⟨hR4, hb4⟩ := HL3.out.side hD.keep
  have P4 := P3.keep hD.keep rp
  have FIN : Hid (∀ (w' : World) (a' : Option Addr) (c' m : Nat), Below w4.heap.size w4 w' → (nos rest E).length = m → w'.ownsRow w4.heap.size 36 2 (.slice a' m c') m (flat2 (nos rest E)) → LS w (w'.setCell ⟨r, 0, none⟩ (.slice a' m c')) g q (nos rest St) n r a' c' (nos rest E)) := fun w' a' c' m hb hm ho => HL3.out.drop hD hb hm ho
  have hnn : (nos rest St).length = (nos rest E).length := (HL3.out.perm.filter _).length_eq
  have hsm := nos_len rest E
  rw [hnn, HLEN.out]
  obtain ⟨s, HS⟩ : ∃ s, Hid (E.length = s) := ⟨_, rfl⟩
  obtain ⟨mm, HM⟩ : ∃ mm, Hid ((nos rest E).length = mm) := ⟨_, rfl⟩
  rw [HS.out] at hE9 hsm ⊢
  rw [HM.out] at hsm ⊢
  clear cD hD HL3 P3 hnn rp o0 o1 o2 Po HRE HW3 hy4a hy4b
  go_wp2_with fail
  go_loopw [14, 15] (fun v14 v15 wr => ∃ (k m : Nat) (al : Option Addr) (cl : Nat), v14 = .slice al m cl ∧ v15 = .int .i64 (k : Int) ∧ k ≤ s ∧ m ≤ k ∧ Below w4.heap.size w4 wr ∧ Hid ((nos rest (E.take k)).length = m ∧ wr.ownsRow w4.heap.size 36 2 (.slice al m cl) m (flat2 (nos rest (E.take k))))) (fun _ v15 _ => s - (intOf v15).toNat)
  case atStart => exact ⟨0, 0, none, 0, rfl, rfl, Nat.zero_le _, Nat.le_refl _, Below.refl _ _, ⟨by rw [List.take_zero]; rfl, by rw [List.take_zero]; exact ⟨rfl, .inl ⟨rfl, rfl⟩⟩⟩⟩
  case round =>
    obtain ⟨k, m, al, cl, rfl, rfl, hk, hmk, hbw, hN⟩ := hrel
    have hRw := hR4.below (hbw.mono (Nat.le_refl _))
    have P5 := P4.below hbw P4.lt
    have c5 := hRw.blk.cell (j := 0) rfl
    have p5 := P5.cell (j := 0) rfl
    rw [HS.out] at c5
    by_cases hks : k < s
    · obtain ⟨b, rfl, lb, hc1, hc2, y0, y1⟩ := hRw.cells (i := k) (by rw [HS.out]; exact hks)
      rw [HS.out] at hc1
      have TK : Hid _ := nos_take (rest := rest) (L := E) (i := k) (by rw [HS.out]; exact hks)
      obtain ⟨yk, hyk⟩ : ∃ yk, nth E k = yk := ⟨_, rfl⟩
      rw [hyk] at y0 y1 TK
      clear hyk
      obtain ⟨kw, kn, kt⟩ := yk
      simp only at y0 y1
      have Y0 := over_cell y0
      have Y1 := over_cell y1
      have C5 := over_cell c5
      have Q5 := over_cell p5
      have c13 : ∀ u, Calls Try.prog 13 #[.agg #[.int .i64 rest], .agg #[.int .i64 kw, .int .i64 kn]] (over wr u) fun e w'' => e = .returned (.bool (par rest kn)) ∧ ∃ u', w'' = over wr u' := fun u => Calls.over (par_any rest kw kn (over wr u))
      cases hr : par rest kn with
      | true =>
        rw [hr] at c13
        have TK2 : nos rest (E.take (k + 1)) = nos rest (E.take k) := by
          have := TK.out
          simp only [hr, if_true, List.append_nil] at this
          exact this
        clear hRw P5 TK hr
        go_wp2_with fail
        refine wp_region_over wr (Below.refl _ _) (by kernel_rfl) (by kernel_rfl) ?_
        repeat (go_big_quiet_step (first | (go_at_call 13; exact c13 _)))
        refine wpQuiet_nil ?_
        rintro _ ⟨u, rfl⟩
        have hb5 := over_below wr u
        obtain ⟨w5, hw5⟩ : ∃ w5, over wr u = w5 := ⟨_, rfl⟩
        rw [hw5] at hb5 ⊢
        clear c13 y0 y1 c5 p5 Y0 Y1 C5 Q5 hw5
        go_wp2_with fail
        go_roundw
        case rel => exact ⟨k + 1, m, al, cl, rfl, by go_num, hks, by omega, hbw.trans (hb5.mono hbw.size), by rw [TK2]; exact ⟨hN.out.1, owns_below hN.out.2 hb5⟩⟩
        case measure => simp [intOf]; omega
      | false =>
        rw [hr] at c13
        have TK2 : nos rest (E.take (k + 1)) = nos rest (E.take k) ++ [⟨kw, kn, kt⟩] := by
          have := TK.out
          simp only [hr, Bool.false_eq_true, if_false] at this
          exact this
        clear hRw P5 TK hr
        go_wp2_with fail
        refine wp_region_over wr (Below.refl _ _) (by kernel_rfl) (by kernel_rfl) ?_
        repeat (go_big_quiet_step (first | (go_at_call 13; exact c13 _)))
        refine wpQuiet_nil ?_
        rintro _ ⟨u, rfl⟩
        have hb5 := over_below wr u
        have y0 := Y0 u
        have y1 := Y1 u
        have c5 := C5 u
        obtain ⟨w5, hw5⟩ : ∃ w5, over wr u = w5 := ⟨_, rfl⟩
        rw [hw5] at hb5 y0 y1 c5 ⊢
        clear c13 p5 Y0 Y1 C5 Q5 hw5
        have hb8 : Below w5.heap.size w5 (w5.alloc (.cells #[.int .i64 kw, .int .i64 kn] 36)) := (Below.refl _ _).alloc (Nat.le_refl _) _
        have X8 := Blk.new w5 36 [.int .i64 kw, .int .i64 kn]
        have hNl : Hid _ := hN.out.1
        obtain ⟨F, HF⟩ : ∃ F, Hid (flat2 (nos rest (E.take k)) = F) := ⟨_, rfl⟩
        have HO8 : Hid _ := owns_below (owns_below hN.out.2 hb5) hb8
        rw [HF.out] at HO8
        have l5 : w4.heap.size ≤ w5.heap.size := Nat.le_trans hbw.size hb5.size
        have hb45 : Below w4.heap.size w4 w5 := hbw.trans (hb5.mono hbw.size)
        obtain ⟨i36, hi36, hz36, hs36, hb36⟩ := info36
        have HTK : Hid _ := TK2
        have HK : Hid (k < s) := hks
        clear hN TK2 hbw hb5
        go_wp2_with (at_builtin; refine wpList_append_two (P := Try.prog) (by rfl) (.tmp 173) (.tmp 181) 27 (by rfl) w4.heap.size 36 i36 _ 2 16 Try.underlying27 hi36 hz36 hs36 hb36 (by rfl) (by decide) (.slice al m cl) m F (by rfl) HO8.out ⟨w5.heap.size, 0, none⟩ 1 1 [.int .i64 kw, .int .i64 kn] (by rfl) (by rfl) (fun i u hu => by rw [Addr.add_lit, Nat.zero_add]; exact X8.cell hu) (by simp [Value.oneCell']) (by unfold maxLen; omega) (by omega) (by simp; omega) (by decide) ?_; intro v' w9 ho9 hg9 hn9)
        obtain ⟨al', cl', rfl⟩ := slice_of ho9
        have b9 : Below w4.heap.size w4 w9 := hb45.trans ((hb8.mono l5).trans ⟨hg9.os, hg9.tape, hg9.output, hg9.size, fun j hj => hg9.block j (by have := hb8.size; omega) (fun e => by have := (owns_own HO8.out e.symm).1; omega)⟩)
        have REL : Hid ((nos rest (E.take (k + 1))).length = m + 1 ∧ w9.ownsRow w4.heap.size 36 2 (.slice al' (m + 1) cl') (m + 1) (flat2 (nos rest (E.take (k + 1))))) := by
          rw [HTK.out]
          refine ⟨by rw [List.length_append, hNl.out]; rfl, ?_⟩
          rw [flat2_append, HF.out]
          exact ho9
        clear ho9 hg9 hn9 HO8 X8 hb8 hb45
        go_wp2_with fail
        go_roundw
        case rel => exact ⟨k + 1, m + 1, al', cl', rfl, by go_num, HK.out, by omega, b9, REL.out⟩
        case measure => have := HK.out; simp [intOf]; omega
    · obtain rfl : k = s := by omega
      have hE : E.take k = E := by rw [← HS.out]; exact List.take_length
      have hN2 := hN.out
      rw [hE, HM.out] at hN2
      obtain ⟨rfl, ho⟩ := hN2
      have FF : Hid _ := FIN.out wr al cl mm hbw HM.out ho
      have rf := hRw.blk.frozen 0
      clear hN FIN hR4 P4 P5 p5 hRw ho hbw
      go_wp2_with fail
      go_wp2_with fail
      go_meet
      case rel => exact ⟨g, q, _, n, _, _, _, rfl, by omega, FF.out⟩
end Go.Proofs.Ytgimpolgagkffaa
