/- The walk of the law's wipe. No condition but that what was given is a level in rows of its own. -/
import Derived.Test.YtogfmpjgmabomaaDoorREq
namespace Go.Proofs.YtogfmpjgmabomaaDoor
open Go.RowKit

def WipeAt (m : Nat) : Prop := ∀ (S : Nat → Prop) (L : Lv) (w : World) (v : Value), L.size ≤ m → (∀ b, S b → b < w.heap.size) → Own w S L v → Calls Tryd.prog 30 #[v] w fun e w' => e = .returned (.tuple #[]) ∧ Wiped w w' S

theorem OwnAll.len {w : World} {S : Nat → Prop} {args : List Lv} : ∀ {l : List Value}, OwnAll w S l args → args.length * 3 ≤ l.length := by
  induction args with
  | nil => intro l _; simp
  | cons x r ih =>
    intro l h
    rw [ownAll_cons] at h
    obtain ⟨c0, c1, c2, t, rfl, _, hr⟩ := h
    have := ih hr
    simp
    omega

/-- Its rows, if there are any. -/
theorem Own.row {w : World} {S : Nat → Prop} {L : Lv} {k n : Int} {a : Option Addr} {len cap : Nat} (h : Own w S L (.agg #[.int .i64 k, .int .i64 n, .slice a len cap])) (j : Nat) (hj : j < len) :
    ∃ b l L' k' n' a' len' cap', a = some ⟨b, 0, none⟩ ∧ S b ∧ Blk w b 24 l ∧ j * 3 + 2 < l.length ∧ l[j * 3]? = some (.int .i64 k') ∧ l[j * 3 + 1]? = some (.int .i64 n') ∧ l[j * 3 + 2]? = some (.slice a' len' cap') ∧ Own w S L' (.agg #[.int .i64 k', .int .i64 n', .slice a' len' cap']) ∧ L'.size < L.size := by
  obtain ⟨k0, n0, args⟩ := L
  rw [own_mk] at h
  obtain ⟨a0, cap0, h1, h2, h3, h4, h5, h6⟩ := h
  simp only [Value.agg.injEq, Array.mk.injEq, List.cons.injEq, Value.int.injEq, Value.slice.injEq, true_and, and_true] at h1
  obtain ⟨rfl, rfl, rfl, rfl, rfl⟩ := h1
  rcases h6 with h6 | ⟨b, l, h6, h7, h8, h9⟩
  · subst h6; simp at hj
  · obtain ⟨L', hL'⟩ : ∃ L, args[j]? = some L := ⟨_, List.getElem?_eq_getElem hj⟩
    obtain ⟨c0, c1, c2, e0, e1, e2, ho⟩ := h9.get j L' hL'
    obtain ⟨k', n', a', len', cap', e⟩ := ho.shape
    simp only [Value.agg.injEq, Array.mk.injEq, List.cons.injEq, and_true] at e
    obtain ⟨rfl, rfl, rfl⟩ := e
    have := h9.len
    exact ⟨b, l, L', k', n', a', len', cap', h6, h7, h8, by omega, e0, e1, e2, ho, by rw [Lv.size_mk]; have := Lv.size_mem (List.mem_of_getElem? hL'); omega⟩
theorem Own.caps {w : World} {S : Nat → Prop} {L : Lv} {k n : Int} {a : Option Addr} {len cap : Nat} (h : Own w S L (.agg #[.int .i64 k, .int .i64 n, .slice a len cap])) : len ≤ cap ∧ cap ≤ 9223372036854775807 := by
  obtain ⟨k0, n0, args⟩ := L
  rw [own_mk] at h
  obtain ⟨a0, cap0, h1, h2, h3, h4, h5, h6⟩ := h
  simp only [Value.agg.injEq, Array.mk.injEq, List.cons.injEq, Value.int.injEq, Value.slice.injEq, true_and, and_true] at h1
  obtain ⟨rfl, rfl, rfl, rfl, rfl⟩ := h1
  exact ⟨h4, h5⟩

set_option maxRecDepth 100000 in
set_option maxHeartbeats 1000000 in
theorem wipe_any (m : Nat) : WipeAt m := by
  induction m with
  | zero => intro S L w v hs; have := L.size_pos; omega
  | succ m ih =>
    intro S L w v hs hS ho
    obtain ⟨k, n, a, len, cap, rfl⟩ := ho.shape
    obtain ⟨hle, hmx⟩ := ho.caps
    obtain ⟨w1, hw1, hb1, P1, hs1⟩ := one_new w [.int .i64 k, .int .i64 n, .slice a len cap] 24
    have W1 : Wiped w w1 S := Wiped.below hb1
    go_enter Tryd.func30, Tryd.ntmps30
    go_wp2_with fail
    go_loopw [2] (fun i wr => ∃ (j : Nat), i = .int .i64 (j : Int) ∧ j ≤ len ∧ Wiped w wr S ∧ Blk wr w.heap.size 24 [.int .i64 k, .int .i64 n, .slice a len cap]) (fun i _ => len - (intOf i).toNat)
    case atStart => exact ⟨0, rfl, by omega, W1, P1⟩
    case round =>
      clear W1
      obtain ⟨j, rfl, hj, hW, hP⟩ := hrel
      have p2 := hP.cell (j := 2) rfl
      have hsz := hW.keep.size
      by_cases hlt : j < len
      · obtain ⟨Lr, hsr, hor⟩ := hW.own L _ ho
        obtain ⟨b, l, L', k', n', a', len', cap', rfl, hSb, hB, hjl, e0, e1, e2, ho', hs'⟩ := hor.row j hlt
        have c0 := hB.cell e0
        have c1 := hB.cell e1
        have c2 := hB.cell e2
        have hc := ih S L' wr _ (by omega) (fun b hb => by have := hS b hb; omega) ho'
        have hbw := hS b hSb
        go_wp2_with (go_at_call 30; go_must (refine hc.mono ?_); rintro e w2 ⟨rfl, hW2⟩; obtain ⟨L2, hs2, ho2⟩ := hW2.own Lr _ hor; obtain ⟨b2, l2, -, k2, n2, a2, len2, cap2, hb2, hSb2, hB2, hjl2, f0, f1, f2, -, -⟩ := ho2.row j hlt; simp only [Option.some.injEq, Addr.mk.injEq, and_true] at hb2; subst hb2; have hP2 := hP.keep hW2.keep (fun h => by have := hS _ h; omega); have r2 := hP2.cell (j := 2) rfl; have g0 := hB2.cell f0; have g1 := hB2.cell f1; have g2 := hB2.cell f2; have z0 := hB2.frozen (j * 3); have z1 := hB2.frozen (j * 3 + 1); have z2 := hB2.frozen (j * 3 + 2))
        have W3 := Wiped.over (S := S) hB2 hSb hjl2
        go_roundw
        case rel => exact ⟨j + 1, by go_num, by omega, (hW.trans hW2).trans W3, hP2.keep W3.keep (fun h => by have := hS _ h; omega)⟩
        case measure => simp [intOf]; omega
      · go_wp2_with fail
        go_end0
        exact ⟨rfl, hW⟩
end Go.Proofs.YtogfmpjgmabomaaDoor
