/- QueueAll's walk, what its parts have: the code of a round's switch, taken out of the law's own body; what a case leaves. No condition. -/
import Derived.Test.YtgimpolgagkffaaAl1b
import Derived.Deep.CutBlock
namespace Go.Proofs.Ytgimpolgagkffaa
open Go.RowKit

/-- The first block 2 in a code. -/
def findB : Code → Option Code
  | .block k c => if k = 2 then some (.block k c) else findB c
  | .seq a b => match findB a with
    | some c => some c
    | none => findB b
  | .loop c => findB c
  | .scope c => findB c
  | .cond _ a b => match findB a with
    | some c => some c
    | none => findB b
  | _ => none

/-- A panic's state is told by what it defers alone. -/
def pq (Q0 : Exit → Act → World → Prop) : Exit → Act → World → Prop := fun e a w => match e with
  | .panic c => ∃ a' : Act, a'.defers = a.defers ∧ Q0 (.panic c) a' w
  | e => Q0 e a w

set_option maxRecDepth 1000000 in
/-- What a case leaves: both queues beside each other, and the frame. -/
def Left (w : World) (n0 cap0 b off i r ob g0 : Nat) (a' : Act) (w' : World) : Prop :=
  ∃ u2 u3 u7 u8 u9 u10 u11 u12 u13 u14 u15 u16 u25 u26 u27 u28 u29 u30 u31 u32 u33 u34 u35 u36 u37 u38 u39 u40 u41 u42 u43 u44 u45 u46 u47 u48 u49 u50 u51 u52 u53 u54 u55 u56 u57 u58 u59 u60 u61 u62 u63 u64 u65 u66 u67 u68 u69 u70 u71 u72 u73 u74 u75 u76 u77 u78 u79 u80 u81 u82 u83 u84 u85 u86 u87 u88 u89 u90 u91 u92 u93 u94 u95 u96 u97 u98 u99 u100 u101 u102 u103 u104 u105 u106 u107 u108 u109 u110 u111 u112 u113 u114 u115 u116 u117 u118 u119 u120 u121 u122 u123 u124 u125 u126 u127 u128 u129 u130 u131 u132 u133 u134 u135 u136 u137 u138 u139 u140 u141 u142 u143 u144 u145 u146 u147 u148 u149 u150 u151 u152 u153 u154 u155 u156 u157 u158 u159 u160 u161 u162 u163 u164 u165 u166 u167 u168 u169 u170 u171 u172 u173 u174 u175 u176 u177 u178 u179 u180 u181 u182 u183 u184 u185 u186 u187 u188 u189 u190 u191 u192 u193 u194 u195 u196 u197 u198 u199 u200 u201 u202 u203 u204 : Value, (∃ (g : Nat) (q : Option Nat) (St : List En) (n : Nat) (ao : Option Addr) (cap : Nat) (E : List En), u3 = .pointer (some ⟨g, 0, none⟩) ∧ n ≤ i + 1 ∧ LS w w' g q St n r ao cap E) ∧ a' = ⟨#[Value.slice (some ⟨b, off, none⟩) n0 cap0, undef, u2, u3, Value.pointer (some ⟨r, 0, none⟩), Value.int .i64 (i : Int), Value.pointer (some ⟨ob, 0, none⟩), u7, u8, u9, u10, u11, u12, u13, u14, u15, u16, Value.bool true, Value.bool false, Value.slice (some ⟨b, off, none⟩) n0 cap0, Value.int .i64 (n0 : Int), Value.bool (decide ((300 : Int) < (n0 : Int))), Value.pointer (some ⟨g0, 0, none⟩), Value.agg #[Value.slice none 0 0], Value.pointer (some ⟨r, 0, none⟩), u25, u26, u27, u28, u29, u30, u31, u32, u33, u34, u35, u36, u37, u38, u39, u40, u41, u42, u43, u44, u45, u46, u47, u48, u49, u50, u51, u52, u53, u54, u55, u56, u57, u58, u59, u60, u61, u62, u63, u64, u65, u66, u67, u68, u69, u70, u71, u72, u73, u74, u75, u76, u77, u78, u79, u80, u81, u82, u83, u84, u85, u86, u87, u88, u89, u90, u91, u92, u93, u94, u95, u96, u97, u98, u99, u100, u101, u102, u103, u104, u105, u106, u107, u108, u109, u110, u111, u112, u113, u114, u115, u116, u117, u118, u119, u120, u121, u122, u123, u124, u125, u126, u127, u128, u129, u130, u131, u132, u133, u134, u135, u136, u137, u138, u139, u140, u141, u142, u143, u144, u145, u146, u147, u148, u149, u150, u151, u152, u153, u154, u155, u156, u157, u158, u159, u160, u161, u162, u163, u164, u165, u166, u167, u168, u169, u170, u171, u172, u173, u174, u175, u176, u177, u178, u179, u180, u181, u182, u183, u184, u185, u186, u187, u188, u189, u190, u191, u192, u193, u194, u195, u196, u197, u198, u199, u200, u201, u202, u203, u204], []⟩
end Go.Proofs.Ytgimpolgagkffaa
