/- The walk of slices.Grow at rows of bytes of the call's own. No condition but that what is asked is small. -/
import Derived.Test.YtkbpmpcbajnmlaaDoorWr2
import Derived.Lib.AppendZerosOnto
namespace Go.Proofs.YtkbpmpcbajnmlaaDoor
open Go.RowKit

/-- A row that a writer may have. -/
def QO (w : World) (B : Nat) (q : Option Nat) (ao : Option Addr) (n cap : Nat) (bs : Bs) : Prop :=
  (q = none ∧ ao = none ∧ n = 0 ∧ cap = 0 ∧ bs = []) ∨ ∃ k, q = some k ∧ ao = some ⟨k, 0, none⟩ ∧ Own 5 B w k n cap bs

theorem zeroCells_size (z : Array Value) (n : Nat) : (Builtin.zeroCells z n).size = n * z.size := by simp [Builtin.zeroCells]

set_option maxRecDepth 100000 in
set_option maxHeartbeats 4000000 in
theorem grow70_room (ao : Option Addr) (n cap m : Nat) (w : World) (hle : n ≤ cap) (hmx : cap ≤ 9223372036854775807) (hm : n + m ≤ cap) :
    Calls Tryd.prog 70 #[.slice ao n cap, .int .i64 (m : Int)] w fun x w' => x = .returned (.slice ao n cap) ∧ w = w' := by
  have d0 : decide ((m : Int) < 0) = false := decide_eq_false (by omega)
  have h2 : IntKind.i64.wrap ((cap : Int) - (n : Int)) = (cap : Int) - (n : Int) := by rw [IntKind.wrap_i64]; omega
  have h3 : IntKind.i64.wrap ((m : Int) - ((cap : Int) - (n : Int))) = (m : Int) - ((cap : Int) - (n : Int)) := by rw [IntKind.wrap_i64]; omega
  have d4 : decide (0 < (m : Int) - ((cap : Int) - (n : Int))) = false := decide_eq_false (by omega)
  go_enter Tryd.func70, Tryd.ntmps70
  go_wp2_with fail
  go_ret
  exact ⟨rfl, rfl⟩

def GrP (w : World) (n cap m : Nat) (cs : List Value) (x : Ending) (w' : World) : Prop :=
  ∃ G, n + m ≤ G ∧ G ≤ maxLen ∧ x = .returned (.slice (some ⟨w.heap.size, 0, none⟩) n G) ∧ ∃ rest : List Value, rest.length = G - cap ∧ w' = w.drew.alloc (.cells (cs ++ rest).toArray 5)

set_option maxRecDepth 100000 in
set_option maxHeartbeats 4000000 in
theorem grow70_more (ao : Option Addr) (n cap m : Nat) (cs : List Value) (w : World) (hle : n ≤ cap) (hc : cap < n + m) (hbig : n + m ≤ 1000000) (hcl : cs.length = cap) (hnil : ao = none → cap = 0) (hcs : ∀ a, ao = some a → ∀ j v, cs[j]? = some v → w.cell? (a.add j) = some v) :
    Calls Tryd.prog 70 #[.slice ao n cap, .int .i64 (m : Int)] w (GrP w n cap m cs) := by
  obtain ⟨i5, hi, hz0, hz1, hz2⟩ := info_parts Tryd.info5t
  have d0 : decide ((m : Int) < 0) = false := decide_eq_false (by omega)
  have h2 : IntKind.i64.wrap ((cap : Int) - (n : Int)) = (cap : Int) - (n : Int) := by rw [IntKind.wrap_i64]; omega
  have h3 : IntKind.i64.wrap ((m : Int) - ((cap : Int) - (n : Int))) = (m : Int) - ((cap : Int) - (n : Int)) := by rw [IntKind.wrap_i64]; omega
  have d4 : decide (0 < (m : Int) - ((cap : Int) - (n : Int))) = true := decide_eq_true (by omega)
  have hck : cap + (n + m - cap) = n + m := by omega
  have hold : (Builtin.firstCells i5.size cap (.slice ao cap cap)).run Tryd.prog w.drew = .ok cs.toArray w.drew := by
    cases ao with
    | none =>
      have h0 := hnil rfl
      subst h0
      have hc0 : cs = [] := List.length_eq_zero_iff.1 hcl
      rw [hc0]
      exact run_firstCells_none w.drew i5.size 0 0 0
    | some a => exact run_firstCells_some w.drew i5.size cap a cap cap cs (by rw [hz1, hcl]; omega) (fun j v hj => hcs a rfl j v hj)
  have hrz : ∀ ty, (Builtin.append_ #[22, 3] ty #[.slice ao cap cap, .int .i64 ((m : Int) - ((cap : Int) - (n : Int)))]).run Tryd.prog w =
      .ok (.slice (some ⟨w.heap.size, 0, none⟩) (n + m) (grownCap w (n + m) cap 5)) (w.drew.alloc (.cells (cs.toArray ++ Builtin.zeroCells (Value.int .u8 0).cells (n + m - cap) ++ Builtin.zeroCells (Value.int .u8 0).cells (grownCap w (n + m) cap 5 - (n + m))) 5)) := fun ty => by
    have h := Lib.run_append_grow_zeros w 22 3 ty 5 i5 (.int .u8 0) .i64 .i64 Tryd.underlying22 Tryd.underlying3 hi hz0 ao cap cap cs hold (n + m - cap) (by omega) (by omega) (by omega) (by omega) (by rw [hz2]; omega)
      (by rw [hck]; exact growslice_fits hc (by rw [hz2]; omega))
    rw [hck] at h
    rw [show (m : Int) - ((cap : Int) - (n : Int)) = ((n + m - cap : Nat) : Int) by omega]
    exact h
  have hGn : n + m ≤ grownCap w (n + m) cap 5 := grownCap_ge w _ _ _
  have hG63 := grownCap_le_maxLen w (n + m) cap 5 (by unfold maxLen; omega)
  obtain ⟨G, hG⟩ : ∃ G, G = grownCap w (n + m) cap 5 := ⟨_, rfl⟩
  rw [← hG] at hrz hGn hG63
  have hfin : ∃ rest : List Value, rest.length = G - cap ∧ w.drew.alloc (.cells (cs.toArray ++ Builtin.zeroCells (Value.int .u8 0).cells (n + m - cap) ++ Builtin.zeroCells (Value.int .u8 0).cells (G - (n + m))) 5) = w.drew.alloc (.cells (cs ++ rest).toArray 5) := by
    refine ⟨(Builtin.zeroCells (Value.int .u8 0).cells (n + m - cap) ++ Builtin.zeroCells (Value.int .u8 0).cells (G - (n + m))).toList, ?_, ?_⟩
    · have e1 : ((Value.int .u8 0).cells).size = 1 := rfl
      rw [Array.length_toList, Array.size_append, zeroCells_size, zeroCells_size, e1]
      omega
    · congr 2
      simp
  generalize w.drew.alloc (.cells (cs.toArray ++ Builtin.zeroCells (Value.int .u8 0).cells (n + m - cap) ++ Builtin.zeroCells (Value.int .u8 0).cells (G - (n + m))) 5) = W at hrz hfin
  have hG63' : G ≤ 9223372036854775807 := by unfold maxLen at hG63; omega
  have HF : Hid _ := hfin
  clear hold hck hG hcs hcl hfin
  cases ao with
  | none =>
    have h0 := hnil rfl
    subst h0
    obtain rfl : n = 0 := by omega
    go_enter Tryd.func70, Tryd.ntmps70
    go_wp2_with (at_builtin; refine Lib.wpList_append_run _ rfl _ _ _ _ rfl _ _ rfl rfl _ _ (hrz _) ?_)
    all_goals
      obtain ⟨rest, h1, h2⟩ := HF.out
      go_ret
      exact ⟨G, hGn, hG63, rfl, rest, h1, h2⟩
  | some a =>
    obtain ⟨ab, aof, asp⟩ := a
    go_enter Tryd.func70, Tryd.ntmps70
    go_wp2_with (at_builtin; refine Lib.wpList_append_run _ rfl _ _ _ _ rfl _ _ rfl rfl _ _ (hrz _) ?_)
    all_goals
      obtain ⟨rest, h1, h2⟩ := HF.out
      go_ret
      exact ⟨G, hGn, hG63, rfl, rest, h1, h2⟩

/-- slices.Grow of what a writer has written. -/
theorem grow70_any (B : Nat) (q ao : _) (n cap m : Nat) (bs : Bs) (w : World) (h : QO w B q ao n cap bs) (hB : B ≤ w.heap.size) (hm : 0 < m) (hbig : n + m ≤ 1000000) :
    Calls Tryd.prog 70 #[.slice ao n cap, .int .i64 (m : Int)] w fun x w' => ∃ q' ao' cap', x = .returned (.slice ao' n cap') ∧ QO w' B q' ao' n cap' bs ∧ Below w.heap.size w w' ∧ (q' = q ∨ ∃ k, q' = some k ∧ w.heap.size ≤ k) := by
  have hle : n ≤ cap ∧ cap ≤ 9223372036854775807 := by
    rcases h with ⟨_, _, h1, h2, _⟩ | ⟨k, _, _, h3⟩
    · omega
    · have := h3.le; have := h3.max; unfold maxLen at this; omega
  by_cases hr : n + m ≤ cap
  · refine (grow70_room ao n cap m w hle.1 hle.2 hr).mono ?_
    rintro x w' ⟨rfl, rfl⟩
    exact ⟨q, ao, cap, rfl, h, Below.refl _ _, .inl rfl⟩
  · rcases h with ⟨rfl, rfl, rfl, rfl, rfl⟩ | ⟨k, rfl, rfl, h3⟩
    · refine (grow70_more none 0 0 m [] w (by omega) (by omega) hbig rfl (fun _ => rfl) (fun a ha => by cases ha)).mono ?_
      rintro x w' ⟨G, hG1, hG2, rfl, rest, hr1, rfl⟩
      refine ⟨some w.heap.size, _, G, rfl, .inr ⟨w.heap.size, rfl, rfl, rfl, by omega, hG2, hB, _, heap_alloc_new w.drew _, by simp; omega, by simp⟩, ((Below.refl _ _).drew).alloc (Nat.le_refl _) _, .inr ⟨_, rfl, Nat.le_refl _⟩⟩
    · obtain ⟨cur, r1, r2, r3⟩ := h3.row
      refine (grow70_more (some ⟨k, 0, none⟩) n cap m cur.toList w hle.1 (by omega) hbig (by simpa using r2) (fun h => by cases h) (fun a ha j u hu => ?_)).mono ?_
      · simp at ha
        subst ha
        rw [Addr.add_lit, Nat.zero_add, cell_of_row _ k j _ 5 (0, 0) r1]
        simpa using hu
      · rintro x w' ⟨G, hG1, hG2, rfl, rest, hr1, rfl⟩
        refine ⟨some w.heap.size, _, G, rfl, .inr ⟨w.heap.size, rfl, rfl, h3.len, by omega, hG2, hB, _, heap_alloc_new w.drew _, by simp; omega, ?_⟩, ((Below.refl _ _).drew).alloc (Nat.le_refl _) _, .inr ⟨_, rfl, Nat.le_refl _⟩⟩
        rw [List.take_append_of_le_length (by simp; omega)]
        exact r3
end Go.Proofs.YtkbpmpcbajnmlaaDoor
