/- QueueAll's walk: a round's case 4. No condition. -/
import Derived.Test.YtgimpolgagkffaaAl2a
namespace Go.Proofs.Ytgimpolgagkffaa
open Go.RowKit
set_option linter.unusedVariables false

set_option maxRecDepth 1000000 in
set_option maxHeartbeats 8000000 in
theorem case4_any {w wo : World} {n0 cap0 b off i r ob g0 g n cap : Nat} {q : Option Nat} {St : List En} {ao : Option Addr} {E : List En} {x y z : Int} {u2 u7 u8 u9 u10 u11 u12 u13 u14 u15 u16 u25 u26 u27 u28 u29 u30 u31 u32 u33 u34 u35 u36 u37 u38 u40 u41 u42 u43 u44 u45 u46 u47 u48 u49 u50 u51 u52 u53 u54 u55 u56 u57 u58 u59 u60 u61 u62 u63 u64 u65 u66 u67 u68 u69 u70 u71 u72 u73 u74 u75 u76 u77 u78 u79 u80 u81 u82 u83 u84 u85 u86 u87 u88 u89 u90 u91 u92 u93 u94 u95 u96 u97 u98 u99 u100 u101 u102 u103 u104 u105 u106 u107 u108 u109 u110 u111 u112 u113 u114 u115 u116 u117 u118 u119 u120 u121 u122 u123 u124 u125 u126 u127 u128 u129 u130 u131 u132 u133 u134 u135 u136 u137 u138 u139 u140 u141 u142 u143 u144 u145 u146 u147 u148 u149 u150 u151 u152 u153 u154 u155 u156 u157 u158 u159 u160 u161 u162 u163 u164 u165 u166 u167 u168 u169 u170 u171 u172 u173 u174 u175 u176 u177 u178 u179 u180 u181 u182 u183 u184 u185 u186 u187 u188 u189 u190 u191 u192 u193 u194 u195 u196 u197 u198 u199 u200 u201 u202 u203 u204 : Value} {J K' : Act → World → Prop} {Q0 : Exit → Act → World → Prop}
    (hn' : n0 ≤ 300) (hin : i < n0) (hni : n ≤ i) (hobn : ob ≠ g ∧ ∀ b', q = some b' → b' ≠ ob) (Po : Blk wo ob 31 [.int .i64 x, .int .i64 y, .int .i64 z]) (hL : LS w wo g q St n r ao cap E)
    (hJ : ∀ a' w', Left w n0 cap0 b off i r ob g0 a' w' → J a' w') (hK : ∀ a' w', Met J a' w' → K' a' w') (hQ : ∀ c a a' w, a.defers = a'.defers → Q0 (.panic c) a w → Q0 (.panic c) a' w) :
    Code.wp Try.prog ((Try.f3.body.bind findB).getD Code.skip) (Exit.then K' Q0) ⟨#[Value.slice (some ⟨b, off, none⟩) n0 cap0, undef, u2, Value.pointer (some ⟨g, 0, none⟩), Value.pointer (some ⟨r, 0, none⟩), Value.int .i64 (i : Int), Value.pointer (some ⟨ob, 0, none⟩), u7, u8, u9, u10, u11, u12, u13, u14, u15, u16, Value.bool true, Value.bool false, Value.slice (some ⟨b, off, none⟩) n0 cap0, Value.int .i64 (n0 : Int), Value.bool (decide ((300 : Int) < (n0 : Int))), Value.pointer (some ⟨g0, 0, none⟩), Value.agg #[Value.slice none 0 0], Value.pointer (some ⟨r, 0, none⟩), u25, u26, u27, u28, u29, u30, u31, u32, u33, u34, u35, u36, u37, u38, Value.int .i64 4, u40, u41, u42, u43, u44, u45, u46, u47, u48, u49, u50, u51, u52, u53, u54, u55, u56, u57, u58, u59, u60, u61, u62, u63, u64, u65, u66, u67, u68, u69, u70, u71, u72, u73, u74, u75, u76, u77, u78, u79, u80, u81, u82, u83, u84, u85, u86, u87, u88, u89, u90, u91, u92, u93, u94, u95, u96, u97, u98, u99, u100, u101, u102, u103, u104, u105, u106, u107, u108, u109, u110, u111, u112, u113, u114, u115, u116, u117, u118, u119, u120, u121, u122, u123, u124, u125, u126, u127, u128, u129, u130, u131, u132, u133, u134, u135, u136, u137, u138, u139, u140, u141, u142, u143, u144, u145, u146, u147, u148, u149, u150, u151, u152, u153, u154, u155, u156, u157, u158, u159, u160, u161, u162, u163, u164, u165, u166, u167, u168, u169, u170, u171, u172, u173, u174, u175, u176, u177, u178, u179, u180, u181, u182, u183, u184, u185, u186, u187, u188, u189, u190, u191, u192, u193, u194, u195, u196, u197, u198, u199, u200, u201, u202, u203, u204], []⟩ wo := by
  refine Code.wp_mono (Q := Exit.then K' (pq Q0)) (fun e a w h => ?_) ?_
  · cases e <;> first | exact h | (obtain ⟨a', h1, h2⟩ := h; exact hQ _ _ _ _ h1 h2)
  have o0 := Po.cell (j := 0) rfl
  have o1 := Po.cell (j := 1) rfl
  have o2 := Po.cell (j := 2) rfl
  unfold Left at hJ
  conv => arg 2; whnf
  clear o0 o1 o2
  go_wp2_with fail
  refine (qcopy_any g q St n wo hL.qs).mono ?_
  rintro e w3 ⟨g', rfl, q', hC⟩
  have hL3 := hL.low hC.bel
  have FIN : Hid (∀ w4, Keep w3 w4 (fun k => k = g ∨ q = some k) → LS w w4 g' q' St n r ao cap E) := fun w4 hk => by
    obtain ⟨a1, a2⟩ := hL3.side hk
    refine ⟨hC.qs.keep hk (fun e => e.elim (fun e => by have := hL.qs.glt; have := hC.new; omega) (fun e => by have := hL.qs.qlt e; have := hC.new; omega)) (fun b e e' => e'.elim (fun e2 => by have := hL.qs.glt; have := hC.own b e; omega) (fun e2 => by have := hL.qs.qlt e2; have := hC.own b e; omega)), a1, hL.perm, hL.asc, Nat.le_trans hL.bel.size hC.new, fun b e => Nat.le_trans hL.bel.size (hC.own b e), hL.rnew, a2⟩
  have hq3 := hL3.qs
  clear hC hL hL3
  cases St with
  | nil =>
    go_wp2_with fail
    refine (qpop_none g q n w3 hq3).mono ?_
    rintro e w4 ⟨rfl, hb4⟩
    have hL4 := FIN.out w4 (Keep.of_below hb4 (Nat.le_refl _))
    clear FIN hq3 hb4
    go_wp2_with fail
    go_meet
    case rel => exact ⟨g', q', _, n, _, _, _, rfl, by omega, hL4⟩
  | cons s0 S0 =>
    go_wp2_with fail
    refine (qpop_any g q s0 S0 n w3 hq3).mono ?_
    rintro e w4 ⟨rfl, _, hk4⟩
    have hL4 := FIN.out w4 hk4
    clear FIN hq3 hk4
    go_wp2_with fail
    go_meet
    case rel => exact ⟨g', q', _, n, _, _, _, rfl, by omega, hL4⟩
end Go.Proofs.Ytgimpolgagkffaa
