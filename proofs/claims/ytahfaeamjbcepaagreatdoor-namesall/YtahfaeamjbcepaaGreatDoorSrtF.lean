/- What is known of each operation of the document's Sorted where it puts a text into its list; append of texts. No condition. -/
import Derived.Test.YtahfaeamjbcepaaGreatDoorFree
import Derived.Test.YtahfaeamjbcepaaGreatDoorRl
import Derived.Laws.OwnMore
namespace Go.Proofs.YtahfaeamjbcepaaGreatDoor
open Go.RowKit

/-- append onto a row of texts of the call's own, of texts that can be read. -/
theorem run_append_strs {w : World} {base : Nat} {ty : TypeId} {v : Value} {n : Nat} {xs : List Value} (hown : w.ownsRow base 9 1 v n xs) {a : Option Addr} {m c : Nat} {ps : List (List UInt8)} (hl : ps.length = m) (h : ∀ j s, ps[j]? = some s → ∃ b off, a = some ⟨b, off, none⟩ ∧ w.cell? ⟨b, off + j, none⟩ = some (tx s)) (hn : n + m ≤ 1000) (hbase : base ≤ w.heap.size) :
    ∃ v' w', (Builtin.append_ #[22, 22] ty #[v, .slice a m c]).run Tryz.prog w = .ok v' w' ∧ w'.ownsRow base 9 1 v' (n + m) (xs ++ ps.map tx) ∧ w.grownBy w' v.ownBlock := by
  obtain ⟨i, hi, hz, hs, hb⟩ := info9
  cases a with
  | none =>
    have h0 : ps = [] := by
      cases ps with
      | nil => rfl
      | cons x r => obtain ⟨b, off, e, _⟩ := h 0 x rfl; cases e
    subst h0
    obtain rfl : m = 0 := by simpa using hl.symm
    refine ⟨v, w, ?_, by simpa using hown, ⟨rfl, rfl, rfl, Nat.le_refl _, fun _ _ _ => rfl⟩⟩
    exact run_append_owned_none w base 22 ty 9 i 1 Tryz.underlying22 hi v n xs hown
  | some ad =>
    obtain ⟨v', w', r1, r2, r3, _⟩ := run_append_own (P := Tryz.prog) w base 22 ty 9 i (.string ⟨#[]⟩) 1 16 Tryz.underlying22 hi hz hs hb (by rfl) (by decide) v n xs hown ad m c (ps.map tx) (by rw [List.length_map, hl, Nat.mul_one]) (fun j u hu => by
        rw [List.getElem?_map, Option.map_eq_some_iff] at hu
        obtain ⟨s, hs', rfl⟩ := hu
        obtain ⟨b, off, e, hc⟩ := h j s hs'
        simp only [Option.some.injEq] at e
        subst e
        rw [Addr.add_lit]
        exact hc) (by intro u hu; rw [List.mem_map] at hu; obtain ⟨s, _, rfl⟩ := hu; rfl) (by unfold maxLen; omega) (by omega) hbase
    exact ⟨v', w', r1, r2, r3⟩

/-- append, by what it comes to. -/
theorem wp_append_strs {o : Oper} {a : Act} {w : World} {K : Act → World → Prop} {Q : Exit → Act → World → Prop}
    (_hg : o.guard = none) (s x : Operand) (hop : o.op = Op.call { callee := Callee.builtin Builtin.append, args := #[s, x], argTypes := #[22, 22] }) (base : Nat) (v : Value) (n : Nat) (xs : List Value) (hs : a.eval s = v) (hown : w.ownsRow base 9 1 v n xs)
    (ad : Option Addr) (m c : Nat) (ps : List (List UInt8)) (hx : a.eval x = .slice ad m c) (hl : ps.length = m) (h : ∀ j s, ps[j]? = some s → ∃ b off, ad = some ⟨b, off, none⟩ ∧ w.cell? ⟨b, off + j, none⟩ = some (tx s)) (hn : n + m ≤ 1000) (hbase : base ≤ w.heap.size)
    (hK : ∀ v' w', w'.ownsRow base 9 1 v' (n + m) (xs ++ ps.map tx) → w.grownBy w' v.ownBlock → K (a.put o.dst v') w') : Oper.wp Tryz.prog o a w K Q := by
  obtain ⟨v', w', hrun, r1, r2⟩ := run_append_strs (ty := o.type) (c := c) hown hl h hn hbase
  unfold Oper.wp
  simp [execOp, hop, resolve, invoke, builtin, hs, hx, hrun, Result.andThen]
  exact hK v' w' r1 r2

def SfF (R n m k i : Nat) (la oa : Option Addr) (lc oc lb loff ob ooff : Nat) (s : List UInt8) (os : List (List UInt8)) (j : Nat) (v : Value) (w : World) : Prop :=
  match j with
  | 0 => ∃ g, v = .slice (some ⟨g, 0, none⟩) 0 0 ∧ R ≤ g ∧ w.heap[g]? = some (.cells #[] 9 (0, 0))
  | 1 => v = .slice oa m oc
  | 2 => v = .int .i64 (k : Int)
  | 3 => v = .slice oa k oc
  | 4 => w.ownsRow R 9 1 v k ((os.take k).map tx)
  | 5 => v = .slice la n lc
  | 6 => v = .int .i64 (i : Int)
  | 7 => v = .pointer (some ⟨lb, loff + i, none⟩)
  | 8 => v = .string ⟨s.toArray⟩
  | 9 => ∃ g, v = .slice (some ⟨g, 0, none⟩) 1 1 ∧ Blk w g 9 [.string ⟨s.toArray⟩]
  | 10 => w.ownsRow R 9 1 v (k + 1) ((os.take k ++ [s]).map tx)
  | 11 => v = .slice oa m oc
  | 12 => v = .int .i64 (k : Int)
  | 13 => ∃ a c, v = .slice a (m - k) c ∧ (m - k = 0 ∨ a = some ⟨ob, ooff + k, none⟩)
  | 14 => w.ownsRow R 9 1 v (m + 1) ((os.take k ++ s :: os.drop k).map tx)
  | 15 => w.ownsRow R 9 1 v (m + 1) ((os.take k ++ s :: os.drop k).map tx)
  | _ => True
def SfD (i : Nat) : List Nat := ([[], [], [], [1, 2], [0, 3], [], [], [5, 6], [7], [8], [4, 9], [], [], [11, 12], [10, 13], [14]])[i]?.getD []
def SfL (i : Nat) : List Nat := ([[1, 2, 3, 5, 6, 7, 8, 9, 11, 12, 13], [0, 2, 5, 6, 7, 8, 9, 11, 12, 13], [0, 1, 5, 6, 7, 8, 9, 11, 12, 13], [0, 5, 6, 7, 8, 9, 11, 12, 13], [5, 6, 7, 8, 9, 11, 12, 13], [0, 1, 2, 3, 4, 6, 11, 12, 13], [0, 1, 2, 3, 4, 5, 11, 12, 13], [0, 1, 2, 3, 4, 11, 12, 13], [0, 1, 2, 3, 4, 11, 12, 13], [0, 1, 2, 3, 4, 11, 12, 13], [11, 12, 13], [0, 1, 2, 3, 4, 5, 6, 7, 8, 9, 10, 12], [0, 1, 2, 3, 4, 5, 6, 7, 8, 9, 10, 11], [0, 1, 2, 3, 4, 5, 6, 7, 8, 9, 10], [], []] : List (List Nat))[i]?.getD []
def SfW (i : Nat) : List Nat := if i = 1 ∨ i = 11 then [15] else []
theorem SfF.on (R n m k i : Nat) (la oa : Option Addr) (lc oc lb loff ob ooff : Nat) (s : List UInt8) (os : List (List UInt8)) (j : Nat) (v : Value) (w w' : World) (hb : Below w.heap.size w w') (h : SfF R n m k i la oa lc oc lb loff ob ooff s os j v w) : SfF R n m k i la oa lc oc lb loff ob ooff s os j v w' := by
  have b : ∀ {g t l}, Blk w g t l → Blk w' g t l := fun h => h.below hb h.lt
  have c : ∀ {C e s u n ys}, w.ownsRow C e s u n ys → w'.ownsRow C e s u n ys := fun h => owns_below h hb
  match j, h with
  | 0, ⟨g, e, hR, h⟩ => exact ⟨g, e, hR, (hb.block g (Array.getElem?_eq_some_iff.1 h).1).trans h⟩
  | 1, h => exact h
  | 2, h => exact h
  | 3, h => exact h
  | 4, h => exact c (e := 9) h
  | 5, h => exact h
  | 6, h => exact h
  | 7, h => exact h
  | 8, h => exact h
  | 9, ⟨g, e, h⟩ => exact ⟨g, e, b h⟩
  | 10, h => exact c (e := 9) h
  | 11, h => exact h
  | 12, h => exact h
  | 13, h => exact h
  | 14, h => exact c (e := 9) h
  | 15, h => exact c (e := 9) h
  | (n + 16), _ => exact trivial
theorem SfF.at4 (R n m k i : Nat) (la oa : Option Addr) (lc oc lb loff ob ooff : Nat) (s : List UInt8) (os : List (List UInt8)) (j : Nat) (hj : j ∈ SfL 4) (v : Value) (w w' : World) {g : Nat} (hg : w.heap[g]? = some (.cells #[] 9 (0, 0))) (hw : w.grownBy w' (some g)) (h : SfF R n m k i la oa lc oc lb loff ob ooff s os j v w) : SfF R n m k i la oa lc oc lb loff ob ooff s os j v w' := by
  match j, hj, h with
  | 0, hj, _ => simp [SfL] at hj
  | 1, hj, _ => simp [SfL] at hj
  | 2, hj, _ => simp [SfL] at hj
  | 3, hj, _ => simp [SfL] at hj
  | 4, hj, _ => simp [SfL] at hj
  | 5, _, h => exact h
  | 6, _, h => exact h
  | 7, _, h => exact h
  | 8, _, h => exact h
  | 9, _, ⟨g', e, h⟩ => exact ⟨g', e, h.carry (hw.block g' h.lt (fun e' => by simp at e'; subst e'; unfold Blk at h; rw [hg] at h; simp at h))⟩
  | 10, hj, _ => simp [SfL] at hj
  | 11, _, h => exact h
  | 12, _, h => exact h
  | 13, _, h => exact h
  | 14, hj, _ => simp [SfL] at hj
  | 15, hj, _ => simp [SfL] at hj
  | (n + 16), _, _ => exact trivial
theorem SfF.at10 (R n m k i : Nat) (la oa : Option Addr) (lc oc lb loff ob ooff : Nat) (s : List UInt8) (os : List (List UInt8)) (j : Nat) (hj : j ∈ SfL 10) (v : Value) (w w' : World) (h : SfF R n m k i la oa lc oc lb loff ob ooff s os j v w) : SfF R n m k i la oa lc oc lb loff ob ooff s os j v w' := by
  match j, hj, h with
  | 0, hj, _ => simp [SfL] at hj
  | 1, hj, _ => simp [SfL] at hj
  | 2, hj, _ => simp [SfL] at hj
  | 3, hj, _ => simp [SfL] at hj
  | 4, hj, _ => simp [SfL] at hj
  | 5, hj, _ => simp [SfL] at hj
  | 6, hj, _ => simp [SfL] at hj
  | 7, hj, _ => simp [SfL] at hj
  | 8, hj, _ => simp [SfL] at hj
  | 9, hj, _ => simp [SfL] at hj
  | 10, hj, _ => simp [SfL] at hj
  | 11, _, h => exact h
  | 12, _, h => exact h
  | 13, _, h => exact h
  | 14, hj, _ => simp [SfL] at hj
  | 15, hj, _ => simp [SfL] at hj
  | (n + 16), _, _ => exact trivial
end Go.Proofs.YtahfaeamjbcepaaGreatDoor
