/- How often a free Var stands in a lifted term. Plain facts, of no program. -/
import Derived.Test.YtbmijpjmdpdfkaaDoorPl
namespace Go.Proofs.YtbmijpjmdpdfkaaDoor
open Go.RowKit

theorem cnt_seq (i : Int) (b off d m : Nat) (T : Tr) : cntF i (T.seq b off d m) = (if T.k = 0 ∧ (m : Int) ≤ T.n ∧ T.n - m = i then 1 else 0) + cntF i (Tr.seqs T.k T.b T.off (d + 1) m 0 T.args) := by
  have hs := Pt.seq_eq ⟨b, off, T, d, m⟩
  unfold Pt.seq at hs
  rw [hs, cntF]
  unfold Pt.from
  rw [List.drop_zero]
  simp only
  congr 1
  unfold Pt.isB Pt.freeN Pt.freeB
  by_cases h1 : T.k = 0
  · by_cases h2 : (m : Int) ≤ T.n
    · by_cases h3 : T.n - m = i
      · simp [h1, h2, h3]
      · simp [h1, h2, h3]
    · simp [h1, h2]
  · simp [h1]
theorem cnt_seqs {i j : Int} {k : Int} {m : Nat} (l : List Tr) : ∀ (l' : List Tr) (b off d b' off' d' x : Nat), l'.length = l.length → (∀ (y : Nat) (T U : Tr), l[y]? = some T → l'[y]? = some U → ∀ b off d b' off' d' : Nat, cntF j (U.seq b' off' d' (m + bnd k (x + y))) = cntF i (T.seq b off d (m + bnd k (x + y)))) →
    cntF j (Tr.seqs k b' off' d' m x l') = cntF i (Tr.seqs k b off d m x l) := by
  induction l with
  | nil => intro l' b off d b' off' d' x hl _; have : l' = [] := List.eq_nil_of_length_eq_zero (by simpa using hl); rw [this, Tr.seqs, Tr.seqs]; rfl
  | cons T r ih =>
    intro l' b off d b' off' d' x hl h
    cases l' with
    | nil => simp at hl
    | cons U r' =>
      rw [Tr.seqs, Tr.seqs, cntF_append, cntF_append]
      have h0 := h 0 T U rfl rfl
      simp only [Nat.add_zero] at h0
      rw [h0 b (off + x * 5) d, ih r' b off d b' off' d' (x + 1) (by simpa using hl) (fun y A B hA hB => by
        have := h (y + 1) A B (by simpa using hA) (by simpa using hB)
        rw [show x + 1 + y = x + (y + 1) by omega]; exact this)]

/-- A lifted term uses what it used, one further. -/
theorem lift_uses {N i : Int} (hi : 0 ≤ i) (T : Tr) : ∀ (b off d m : Nat) (T' : Tr) (b1 off1 d1 b2 off2 d2 : Nat), OkT N T → LiftG 1 0 ⟨b, off, T, d, m⟩ T' → cntF (i + 1) (T'.seq b1 off1 d1 m) = cntF i (T.seq b2 off2 d2 m) := by
  refine Tr.ind' (P := fun T => ∀ (b off d m : Nat) (T' : Tr) (b1 off1 d1 b2 off2 d2 : Nat), OkT N T → LiftG 1 0 ⟨b, off, T, d, m⟩ T' → cntF (i + 1) (T'.seq b1 off1 d1 m) = cntF i (T.seq b2 off2 d2 m)) ?_ T
  intro T ih b off d m T' b1 off1 d1 b2 off2 d2 ho h
  obtain ⟨h1, h2, h3, h4, h5, h6⟩ := lift_parts h ho
  simp only at h1 h2 h3 h4 h5 h6
  rw [cnt_seq, cnt_seq, h1]
  congr 1
  · by_cases hk : T.k = 0
    · rw [if_pos hk, lvn_eq _ _ _ hk] at h2
      simp only at h2
      split at h2
      · by_cases hc : T.n - m = i
        · rw [if_pos ⟨hk, by omega, by omega⟩, if_pos ⟨hk, by omega, hc⟩]
        · rw [if_neg (fun h => hc (by omega)), if_neg (fun h => hc h.2.2)]
      · rw [if_neg (fun h => by omega), if_neg (fun h => by omega)]
    · rw [if_neg (fun h => hk h.1), if_neg (fun h => hk h.1)]
  · refine cnt_seqs T.args T'.args _ _ _ _ _ _ 0 h5 (fun y A U hA hU b off d b' off' d' => ?_)
    have e := h6 y A U hA hU
    simp only [Pt.kid] at e
    rw [Nat.zero_add]
    exact ih A (List.mem_of_getElem? hA) _ _ _ _ U _ _ _ _ _ _ (ho.args A (List.mem_of_getElem? hA)) e
theorem cnt_none {j : Int} {k : Int} {m : Nat} (l : List Tr) : ∀ (b off d x : Nat), (∀ (y : Nat) (T : Tr), l[y]? = some T → ∀ b off d : Nat, cntF j (T.seq b off d (m + bnd k (x + y))) = 0) → cntF j (Tr.seqs k b off d m x l) = 0 := by
  induction l with
  | nil => intro b off d x _; rw [Tr.seqs]; rfl
  | cons T r ih =>
    intro b off d x h
    rw [Tr.seqs, cntF_append]
    have h0 := h 0 T rfl
    simp only [Nat.add_zero] at h0
    rw [h0, ih b off d (x + 1) (fun y A hA => by
      have := h (y + 1) A (by simpa using hA)
      rw [show x + 1 + y = x + (y + 1) by omega]; exact this)]
/-- A lifted term does not use 0. -/
theorem lift_unused {N : Int} (T : Tr) : ∀ (b off d m : Nat) (T' : Tr) (b1 off1 d1 : Nat), OkT N T → LiftG 1 0 ⟨b, off, T, d, m⟩ T' → cntF 0 (T'.seq b1 off1 d1 m) = 0 := by
  refine Tr.ind' (P := fun T => ∀ (b off d m : Nat) (T' : Tr) (b1 off1 d1 : Nat), OkT N T → LiftG 1 0 ⟨b, off, T, d, m⟩ T' → cntF 0 (T'.seq b1 off1 d1 m) = 0) ?_ T
  intro T ih b off d m T' b1 off1 d1 ho h
  obtain ⟨h1, h2, h3, h4, h5, h6⟩ := lift_parts h ho
  simp only at h1 h2 h3 h4 h5 h6
  rw [cnt_seq, h1]
  rw [if_neg (fun hc => by
    rw [if_pos hc.1, lvn_eq _ _ _ hc.1] at h2
    simp only at h2
    split at h2 <;> omega), Nat.zero_add]
  refine cnt_none T'.args _ _ _ 0 (fun y U hU b off d => ?_)
  obtain ⟨A, hA⟩ := at_of (l := T'.args) (l' := T.args) (by omega) hU
  have e := h6 y A U hA hU
  simp only [Pt.kid] at e
  rw [Nat.zero_add]
  exact ih A (List.mem_of_getElem? hA) _ _ _ _ U _ _ _ (ho.args A (List.mem_of_getElem? hA)) e

/-- What the free Var 0 does not stand in has none. -/
theorem cnt_zero_kid {i : Int} {p : Pt} (h : cntF i p.seq = 0) : p.isB i = false ∧ ∀ (j : Nat) (T : Tr), p.t.args[j]? = some T → cntF i (p.kid j T).seq = 0 := by
  rw [Pt.seq_eq, cntF] at h
  refine ⟨by cases e : p.isB i with | false => rfl | true => rw [e] at h; simp at h, fun j T hj => ?_⟩
  have key : ∀ j, cntF i (p.from j) ≤ cntF i (p.from 0) := fun j => by
    induction j with
    | zero => exact Nat.le_refl _
    | succ j ih =>
      by_cases hl : j < p.t.args.length
      · rw [p.from_lt (List.getElem?_eq_getElem hl), cntF_append] at ih; omega
      · rw [p.from_ge (j := j + 1) (by omega)]; simp [cntF]
  have := key j
  rw [p.from_lt hj, cntF_append] at this
  omega
end Go.Proofs.YtbmijpjmdpdfkaaDoor
