/- QueueAll's walk: a round's case 0. No condition. -/
import Derived.Test.YtgimpolgagkffaaAl2a
namespace Go.Proofs.Ytgimpolgagkffaa
open Go.RowKit
set_option linter.unusedVariables false

set_option maxRecDepth 1000000 in
set_option maxHeartbeats 8000000 in
theorem case0_any {w wo : World} {n0 cap0 b off i r ob g0 g n cap : Nat} {q : Option Nat} {St : List En} {ao : Option Addr} {E : List En} {x y z : Int} {u2 u7 u8 u9 u10 u11 u12 u13 u14 u15 u16 u25 u26 u27 u28 u29 u30 u31 u32 u33 u34 u35 u36 u37 u38 u40 u41 u42 u43 u44 u45 u46 u47 u48 u49 u50 u51 u52 u53 u54 u55 u56 u57 u58 u59 u60 u61 u62 u63 u64 u65 u66 u67 u68 u69 u70 u71 u72 u73 u74 u75 u76 u77 u78 u79 u80 u81 u82 u83 u84 u85 u86 u87 u88 u89 u90 u91 u92 u93 u94 u95 u96 u97 u98 u99 u100 u101 u102 u103 u104 u105 u106 u107 u108 u109 u110 u111 u112 u113 u114 u115 u116 u117 u118 u119 u120 u121 u122 u123 u124 u125 u126 u127 u128 u129 u130 u131 u132 u133 u134 u135 u136 u137 u138 u139 u140 u141 u142 u143 u144 u145 u146 u147 u148 u149 u150 u151 u152 u153 u154 u155 u156 u157 u158 u159 u160 u161 u162 u163 u164 u165 u166 u167 u168 u169 u170 u171 u172 u173 u174 u175 u176 u177 u178 u179 u180 u181 u182 u183 u184 u185 u186 u187 u188 u189 u190 u191 u192 u193 u194 u195 u196 u197 u198 u199 u200 u201 u202 u203 u204 : Value} {J K' : Act → World → Prop} {Q0 : Exit → Act → World → Prop}
    (hn' : n0 ≤ 300) (hin : i < n0) (hni : n ≤ i) (hobn : ob ≠ g ∧ ∀ b', q = some b' → b' ≠ ob) (Po : Blk wo ob 31 [.int .i64 x, .int .i64 y, .int .i64 z]) (hL : LS w wo g q St n r ao cap E)
    (hJ : ∀ a' w', Left w n0 cap0 b off i r ob g0 a' w' → J a' w') (hK : ∀ a' w', Met J a' w' → K' a' w') (hQ : ∀ c a a' w, a.defers = a'.defers → Q0 (.panic c) a w → Q0 (.panic c) a' w) :
    Code.wp Try.prog ((Try.f3.body.bind findB).getD Code.skip) (Exit.then K' Q0) ⟨#[Value.slice (some ⟨b, off, none⟩) n0 cap0, undef, u2, Value.pointer (some ⟨g, 0, none⟩), Value.pointer (some ⟨r, 0, none⟩), Value.int .i64 (i : Int), Value.pointer (some ⟨ob, 0, none⟩), u7, u8, u9, u10, u11, u12, u13, u14, u15, u16, Value.bool true, Value.bool false, Value.slice (some ⟨b, off, none⟩) n0 cap0, Value.int .i64 (n0 : Int), Value.bool (decide ((300 : Int) < (n0 : Int))), Value.pointer (some ⟨g0, 0, none⟩), Value.agg #[Value.slice none 0 0], Value.pointer (some ⟨r, 0, none⟩), u25, u26, u27, u28, u29, u30, u31, u32, u33, u34, u35, u36, u37, u38, Value.int .i64 0, u40, u41, u42, u43, u44, u45, u46, u47, u48, u49, u50, u51, u52, u53, u54, u55, u56, u57, u58, u59, u60, u61, u62, u63, u64, u65, u66, u67, u68, u69, u70, u71, u72, u73, u74, u75, u76, u77, u78, u79, u80, u81, u82, u83, u84, u85, u86, u87, u88, u89, u90, u91, u92, u93, u94, u95, u96, u97, u98, u99, u100, u101, u102, u103, u104, u105, u106, u107, u108, u109, u110, u111, u112, u113, u114, u115, u116, u117, u118, u119, u120, u121, u122, u123, u124, u125, u126, u127, u128, u129, u130, u131, u132, u133, u134, u135, u136, u137, u138, u139, u140, u141, u142, u143, u144, u145, u146, u147, u148, u149, u150, u151, u152, u153, u154, u155, u156, u157, u158, u159, u160, u161, u162, u163, u164, u165, u166, u167, u168, u169, u170, u171, u172, u173, u174, u175, u176, u177, u178, u179, u180, u181, u182, u183, u184, u185, u186, u187, u188, u189, u190, u191, u192, u193, u194, u195, u196, u197, u198, u199, u200, u201, u202, u203, u204], []⟩ wo := by
  refine Code.wp_mono (Q := Exit.then K' (pq Q0)) (fun e a w h => ?_) ?_
  · cases e <;> first | exact h | (obtain ⟨a', h1, h2⟩ := h; exact hQ _ _ _ _ h1 h2)
  have o0 := Po.cell (j := 0) rfl
  have o1 := Po.cell (j := 1) rfl
  have o2 := Po.cell (j := 2) rfl
  unfold Left at hJ
  conv => arg 2; whnf
  have c01 := hL.rq.blk.cell (j := 0) rfl
  have hlen := hL.len
  by_cases hfull : St.length = 256
  · have cP := qpush_full g q St n y z wo hL.qs hfull
    rw [← hlen, hfull] at c01
    go_wp2_with fail
    refine cP.mono ?_
    rintro e w3 ⟨rfl, hb3⟩
    have hL3 := hL.low hb3
    have c3 := hL3.rq.blk.cell (j := 0) rfl
    rw [← hlen, hfull] at c3
    clear cP hL c01 o0 o1 o2 Po
    go_wp2_with fail
    go_meet
    case rel => exact ⟨g, q, _, n, _, _, _, rfl, by omega, hL3⟩
  · have hlt : St.length < 256 := by have := hL.qs.len; omega
    have cP := qpush_any g q St n y z wo hL.qs hlt (by omega)
    go_wp2_with fail
    refine cP.mono ?_
    rintro e w3 ⟨rfl, q3, hP⟩
    obtain ⟨hR3, hb3⟩ := hL.side hP.keep
    have hobk : ¬ (ob = g ∨ q = some ob) := fun e => e.elim (fun e => hobn.1 e) (fun e => hobn.2 ob e rfl)
    have P3 := Po.keep hP.keep hobk
    have o0' := P3.cell (j := 0) rfl
    have o1' := P3.cell (j := 1) rfl
    have o2' := P3.cell (j := 2) rfl
    have c3 := hR3.blk.cell (j := 0) rfl
    have hlt2 : E.length < 256 := by omega
    have FIN : Hid (∀ w5 a5 cp5, RQ w5 r w.heap.size a5 cp5 (E ++ [⟨y, z, n⟩]) → Keep w3 w5 (fun k => k = r ∨ (Value.slice ao E.length cap).ownBlock = some k) → LS w w5 g q3 (ins ⟨y, z, n⟩ St) (n + 1) r a5 cp5 (E ++ [⟨y, z, n⟩])) := fun w5 a5 cp5 h5 k5 => by
      have qn3 : ∀ b, q3 = some b → w.heap.size ≤ b := fun b e => by
        rcases hP.own with e1 | ⟨k, e1, hk⟩
        · rw [e1] at e; exact hL.qnew b e
        · rw [e1] at e; simp at e; have := hL.bel.size; omega
      have L3 : LS w w3 g q3 (ins ⟨y, z, n⟩ St) (n + 1) r ao cap E → True := fun _ => trivial
      clear L3
      obtain ⟨v, L, hQ, hv, hpL⟩ := hP.qs.is
      have ap1 : r ≠ g := blk_apart hR3.blk hQ.blk (by decide)
      have ap2 : q3 ≠ some r := by rw [← hv]; exact owns_ne hQ.row hR3.blk (by decide)
      have ap3 : (Value.slice ao E.length cap).ownBlock ≠ some g := owns_ne hR3.row hQ.blk (by decide)
      have ap4 : ∀ k, (Value.slice ao E.length cap).ownBlock = some k → q3 ≠ some k := fun k e => by rw [← hv]; exact owns_apart hR3.row hQ.row (by decide) k e
      refine ⟨hP.qs.keep k5 (fun e => e.elim (fun e2 => ap1 e2.symm) ap3) (fun b e e' => e'.elim (fun e2 => ap2 (by rw [← e2]; exact e)) (fun e2 => ap4 b e2 e)), h5, ?_, ?_, hL.gnew, qn3, hL.rnew, hb3.trans (k5.below hb3.size (fun k e => e.elim (fun e2 => by rw [e2]; exact hL.rnew) (fun e2 => (owns_own hL.rq.row e2).1)))⟩
      · exact (ins_perm _ _).trans ((hL.perm.cons _).trans (List.perm_append_comm (l₁ := [_])))
      · exact hL.asc.push (fun x hx => hL.qs.turns x (hL.perm.mem_iff.2 hx))
    have hrow3 := hR3.row
    have hblk3 := hR3.blk
    have lob := P3.lt
    have lr3 := hR3.blk.lt
    have lw3 : w.heap.size ≤ w3.heap.size := hb3.size
    clear cP hP hL c01 o0 o1 o2 Po hR3 hb3 P3 hlen hfull hlt
    obtain ⟨e, he⟩ : ∃ e, E.length = e := ⟨_, rfl⟩
    rw [he] at c3 hrow3 hblk3 hlt2 FIN
    have HE : Hid _ := he
    clear he
    have X6 := Blk.new w3.drew 36 [.int .i64 y, .int .i64 z]
    have hb6 : Below w3.heap.size w3 (w3.drew.alloc (.cells #[.int .i64 y, .int .i64 z] 36)) := ((Below.refl _ _).drew).alloc (Nat.le_refl _) _
    have h6 := owns_below hrow3 hb6
    have B6 := hblk3.below hb6 hblk3.lt
    have c6 := B6.cell (j := 0) rfl
    have c6' : (w3.alloc (.cells #[.int .i64 y, .int .i64 z] 36)).cell? ⟨r, 0, none⟩ = some (.slice ao e cap) := (hblk3.alloc _).cell (j := 0) rfl
    obtain ⟨i36, hi36, hz36, hs36, hb36⟩ := info36
    go_upto_region 20 with fail
    go_region_law (refine step_append_own (by rfl) (.tmp 78) (.tmp 84) 27 (by rfl) w.heap.size 36 i36 _ 2 16 Try.underlying27 hi36 hz36 hs36 hb36 (by rfl) (by decide) (.slice ao e cap) e (flat2 E) (by rfl) h6 ⟨w3.heap.size, 0, none⟩ 1 1 [.int .i64 y, .int .i64 z] (by rfl) (by rfl) (fun i u hu => by rw [Addr.add_lit, Nat.zero_add]; exact X6.cell hu) (by simp [Value.oneCell']) (by unfold maxLen; omega) (by omega) (by simp; omega) (by decide) ?_; intro v' w7 h7 hg7 hn7; obtain ⟨g7, c7, rfl, _, _, _, _⟩ := owns_shape h7 (by omega); have B7 := B6.carry (hg7.block r B6.lt (fun e => owns_ne h6 B6 (by decide) e.symm)); have r2 := B7.cell (j := 0) rfl; have rf := B7.frozen 0)
    all_goals
      have L7 : LS w (w7.setCell ⟨r, 0, none⟩ (.slice (some ⟨g7, 0, none⟩) (e + 1) c7)) g q3 (ins ⟨y, z, n⟩ St) (n + 1) r (some ⟨g7, 0, none⟩) c7 (E ++ [⟨y, z, n⟩]) := by
        have hl7 : (E ++ [(⟨y, z, n⟩ : En)]).length = e + 1 := by rw [List.length_append, HE.out]; rfl
        have hf7 : flat2 (E ++ [(⟨y, z, n⟩ : En)]) = flat2 E ++ [.int .i64 y, .int .i64 z] := by rw [flat2_append]; rfl
        refine FIN.out _ _ _ ⟨by rw [hl7]; exact B7.set 0 _, ?_⟩ ((((Keep.of_below hb6 (Nat.le_refl _)).trans ((Keep.of_grownS hg7).mono (fun k e => .inr e)) (fun _ _ e => e))).setCell (g := r) (fun _ => .inl rfl) _ _)
        rw [hl7, hf7]
        exact owns_block h7 (fun k e => Below.heap_setCell _ _ _ _ (fun h => owns_ne h7 B7 (by decide) (by rw [e]; exact congrArg some h)))
      have HL7 : Hid _ := L7
      clear L7 B7 r2 rf h7 hg7 hn7 FIN B6 h6 X6 c6 c6' hb6 hrow3 hblk3 c3
      go_wp2_with fail
      go_meet
      case rel => exact ⟨g, q3, _, (n + 1), _, _, _, rfl, by omega, HL7.out⟩
end Go.Proofs.Ytgimpolgagkffaa
