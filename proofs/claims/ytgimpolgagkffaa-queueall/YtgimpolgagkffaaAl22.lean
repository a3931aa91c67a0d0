/- QueueAll's walk: a round's case 2. No condition. -/
import Derived.Test.YtgimpolgagkffaaAl2a
namespace Go.Proofs.Ytgimpolgagkffaa
open Go.RowKit
set_option linter.unusedVariables false

set_option maxRecDepth 1000000 in
set_option maxHeartbeats 8000000 in
theorem case2_any {w wo : World} {n0 cap0 b off i r ob g0 g n cap : Nat} {q : Option Nat} {St : List En} {ao : Option Addr} {E : List En} {x y z : Int} {u2 u7 u8 u9 u10 u11 u12 u13 u14 u15 u16 u25 u26 u27 u28 u29 u30 u31 u32 u33 u34 u35 u36 u37 u38 u40 u41 u42 u43 u44 u45 u46 u47 u48 u49 u50 u51 u52 u53 u54 u55 u56 u57 u58 u59 u60 u61 u62 u63 u64 u65 u66 u67 u68 u69 u70 u71 u72 u73 u74 u75 u76 u77 u78 u79 u80 u81 u82 u83 u84 u85 u86 u87 u88 u89 u90 u91 u92 u93 u94 u95 u96 u97 u98 u99 u100 u101 u102 u103 u104 u105 u106 u107 u108 u109 u110 u111 u112 u113 u114 u115 u116 u117 u118 u119 u120 u121 u122 u123 u124 u125 u126 u127 u128 u129 u130 u131 u132 u133 u134 u135 u136 u137 u138 u139 u140 u141 u142 u143 u144 u145 u146 u147 u148 u149 u150 u151 u152 u153 u154 u155 u156 u157 u158 u159 u160 u161 u162 u163 u164 u165 u166 u167 u168 u169 u170 u171 u172 u173 u174 u175 u176 u177 u178 u179 u180 u181 u182 u183 u184 u185 u186 u187 u188 u189 u190 u191 u192 u193 u194 u195 u196 u197 u198 u199 u200 u201 u202 u203 u204 : Value} {J K' : Act → World → Prop} {Q0 : Exit → Act → World → Prop}
    (hn' : n0 ≤ 300) (hin : i < n0) (hni : n ≤ i) (hobn : ob ≠ g ∧ ∀ b', q = some b' → b' ≠ ob) (Po : Blk wo ob 31 [.int .i64 x, .int .i64 y, .int .i64 z]) (hL : LS w wo g q St n r ao cap E)
    (hJ : ∀ a' w', Left w n0 cap0 b off i r ob g0 a' w' → J a' w') (hK : ∀ a' w', Met J a' w' → K' a' w') (hQ : ∀ c a a' w, a.defers = a'.defers → Q0 (.panic c) a w → Q0 (.panic c) a' w) :
    Code.wp Try.prog ((Try.f3.body.bind findB).getD Code.skip) (Exit.then K' Q0) ⟨#[Value.slice (some ⟨b, off, none⟩) n0 cap0, undef, u2, Value.pointer (some ⟨g, 0, none⟩), Value.pointer (some ⟨r, 0, none⟩), Value.int .i64 (i : Int), Value.pointer (some ⟨ob, 0, none⟩), u7, u8, u9, u10, u11, u12, u13, u14, u15, u16, Value.bool true, Value.bool false, Value.slice (some ⟨b, off, none⟩) n0 cap0, Value.int .i64 (n0 : Int), Value.bool (decide ((300 : Int) < (n0 : Int))), Value.pointer (some ⟨g0, 0, none⟩), Value.agg #[Value.slice none 0 0], Value.pointer (some ⟨r, 0, none⟩), u25, u26, u27, u28, u29, u30, u31, u32, u33, u34, u35, u36, u37, u38, Value.int .i64 2, u40, u41, u42, u43, u44, u45, u46, u47, u48, u49, u50, u51, u52, u53, u54, u55, u56, u57, u58, u59, u60, u61, u62, u63, u64, u65, u66, u67, u68, u69, u70, u71, u72, u73, u74, u75, u76, u77, u78, u79, u80, u81, u82, u83, u84, u85, u86, u87, u88, u89, u90, u91, u92, u93, u94, u95, u96, u97, u98, u99, u100, u101, u102, u103, u104, u105, u106, u107, u108, u109, u110, u111, u112, u113, u114, u115, u116, u117, u118, u119, u120, u121, u122, u123, u124, u125, u126, u127, u128, u129, u130, u131, u132, u133, u134, u135, u136, u137, u138, u139, u140, u141, u142, u143, u144, u145, u146, u147, u148, u149, u150, u151, u152, u153, u154, u155, u156, u157, u158, u159, u160, u161, u162, u163, u164, u165, u166, u167, u168, u169, u170, u171, u172, u173, u174, u175, u176, u177, u178, u179, u180, u181, u182, u183, u184, u185, u186, u187, u188, u189, u190, u191, u192, u193, u194, u195, u196, u197, u198, u199, u200, u201, u202, u203, u204], []⟩ wo := by
  refine Code.wp_mono (Q := Exit.then K' (pq Q0)) (fun e a w h => ?_) ?_
  · cases e <;> first | exact h | (obtain ⟨a', h1, h2⟩ := h; exact hQ _ _ _ _ h1 h2)
  have o0 := Po.cell (j := 0) rfl
  have o1 := Po.cell (j := 1) rfl
  have o2 := Po.cell (j := 2) rfl
  unfold Left at hJ
  conv => arg 2; whnf
  have hlen := hL.len
  cases St with
  | nil =>
    obtain rfl : E = [] := List.eq_nil_of_length_eq_zero (by rw [← hlen]; rfl)
    clear hlen
    go_wp2_with fail
    refine (qpop_none g q n wo hL.qs).mono ?_
    rintro e w3 ⟨rfl, hb3⟩
    obtain ⟨w4, hw4, hb4, P4, hs4⟩ := one_new w3 [.int .i64 0, .int .i64 0] 35
    have hL4 := (hL.low hb3).low hb4
    have HW4 : Hid _ := hw4
    clear hw4 hL hb3 hb4 o0 o1 o2 Po
    go_wp2_with fail
    rw [HW4.out]
    go_wp2_with fail
    refine (rfirst2_any r w.heap.size ao cap [] w4 hL4.rq (by simp)).mono ?_
    rintro e w5 ⟨k, rfl, hk, hb5⟩
    obtain rfl : k = -1 := by
      rcases hk.out with ⟨e, _⟩ | ⟨j, _, hj⟩
      · exact e
      · exact absurd hj.1 (by simp)
    have hL5 := hL4.low hb5
    have P5 := P4.below hb5 P4.lt
    have x0 := P5.cell (j := 0) rfl
    have x1 := P5.cell (j := 1) rfl
    clear hL4 P4 hb5 hk
    go_wp2_with fail
    go_meet
    case rel => exact ⟨g, q, _, n, _, _, _, rfl, by omega, hL5⟩
  | cons s0 S0 =>
    have hEl : 0 < E.length := by rw [← hlen]; simp
    have hE9 : E.length ≤ 256 := by rw [← hlen]; exact hL.qs.len
    clear hlen
    go_wp2_with fail
    refine (qpop_any g q s0 S0 n wo hL.qs).mono ?_
    rintro e w3 ⟨rfl, hQ3, hk3⟩
    obtain ⟨hR3, hb3⟩ := hL.side hk3
    obtain ⟨w4, hw4, hb4, P4, -⟩ := one_new w3 [.int .i64 s0.wt, .int .i64 s0.num] 35
    have HW4 : Hid _ := hw4
    have hR4 := hR3.below hb4
    have hQ4 := hQ3.below hb4
    have bel4 : Below w.heap.size w w4 := hb3.trans (hb4.mono hb3.size)
    have hrlt3 := hR3.blk.lt
    clear hw4 hk3 hR3 hQ3 o0 o1 o2 Po
    go_wp2_with fail
    rw [HW4.out]
    go_wp2_with fail
    refine (rfirst2_any r w.heap.size ao cap E w4 hR4 (by omega)).mono ?_
    rintro e w5 ⟨k, rfl, hk, hb5⟩
    obtain ⟨j, rfl, hj⟩ : ∃ j : Nat, k = (j : Int) ∧ leastAt E j E.length := by
      rcases hk.out with ⟨_, e⟩ | e
      · rw [e] at hEl; simp at hEl
      · exact e
    obtain ⟨ej, pj, aj⟩ := least_first hL.asc hL.perm hL.qs.srt hj
    have hjl := hj.1
    have hR5 := hR4.below hb5
    have hQ5 := hQ4.below hb5
    have bel5 : Below w.heap.size w w5 := bel4.trans (hb5.mono bel4.size)
    have P5 := P4.below hb5 P4.lt
    have c11 := take2_any r w.heap.size ao cap E j w5 hR5 bel5.size hjl (by omega)
    rw [ej] at c11
    have FIN : Hid (∀ w6 v6, Tk w5 w6 r w.heap.size (E.take j ++ E.drop (j + 1)) v6 → ∃ a6 c6, LS w w6 g q S0 n r a6 c6 (E.take j ++ E.drop (j + 1))) := fun w6 v6 hT => by
      obtain ⟨a6, c6, h6, _⟩ := hT.rq
      obtain ⟨v, L, hq1, hq2, _⟩ := hQ5.is
      have ap1 : r ≠ g := blk_apart hR5.blk hq1.blk (by decide)
      have ap2 : q ≠ some r := by rw [← hq2]; exact owns_ne hq1.row hR5.blk (by decide)
      exact ⟨a6, c6, hQ5.keep hT.keep (fun e => ap1 e.symm) (fun b e e' => ap2 (by rw [← e']; exact e)), h6, pj, aj, hL.gnew, hL.qnew, hL.rnew, bel5.trans (hT.keep.below bel5.size (fun k e => by rw [e]; exact hL.rnew))⟩
    have lx : w3.heap.size < w5.heap.size := P5.lt
    have rx : ¬ w3.heap.size = r := fun e => by have := hrlt3; omega
    have x0 := P5.cell (j := 0) rfl
    have x1 := P5.cell (j := 1) rfl
    have HEJ : Hid _ := ej
    clear hR4 hQ4 P4 hb5 hk hj ej pj aj hR5 hQ5
    obtain ⟨sw, sn, st⟩ := s0
    simp only at x0 x1 c11 P5 HW4
    go_wp2_with fail
    refine c11.mono ?_
    rintro e w6 ⟨rfl, v6, hT⟩
    have P6 := P5.keep hT.keep rx
    obtain ⟨a6, c6, L6⟩ := FIN.out w6 v6 hT
    obtain ⟨w7, hw7, hb7, P7, -⟩ := one_new w6 [.int .i64 sw, .int .i64 sn] 36
    have P6' := P6.below hb7 P6.lt
    have L7 := L6.low hb7
    have x0 := P6'.cell (j := 0) rfl
    have x1 := P6'.cell (j := 1) rfl
    have y0 := P7.cell (j := 0) rfl
    have y1 := P7.cell (j := 1) rfl
    rw [← hw7] at x0 x1 y0 y1
    have HW7 : Hid _ := hw7
    clear hw7 c11 FIN hT P5 P6 L6 hL hb7 P6' P7 lx rx hrlt3
    go_wp2_with fail
    rw [HW7.out]
    go_wp2_with fail
    go_meet
    case rel => exact ⟨g, q, _, n, _, _, _, rfl, by omega, L7⟩
end Go.Proofs.Ytgimpolgagkffaa
