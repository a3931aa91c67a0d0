/- What lifts and puts make of terms, as plain facts: they undo each other, add up, and leave their sizes. Of no program. -/
import Derived.Test.YtbmijpjmdpdfkaaDoorLg
namespace Go.Proofs.YtbmijpjmdpdfkaaDoor
open Go.RowKit

/-- Alike in all fields. -/
inductive Eqv : Tr → Tr → Prop
  | mk {T U : Tr} : T.k = U.k → T.n = U.n → T.s = U.s → T.ls = U.ls → T.args.length = U.args.length → (∀ (i : Nat) (A B : Tr), T.args[i]? = some A → U.args[i]? = some B → Eqv A B) → Eqv T U
/-- A term that is formed, its Vars bare, its numbers from 0 to N. -/
inductive OkT (N : Int) : Tr → Prop
  | mk {T : Tr} : tcnt T.k = T.args.length → 0 ≤ T.n → T.n ≤ N → (T.k = 0 → T.s = { data := #[] } ∧ T.ls = []) → (∀ L ∈ T.args, OkT N L) → OkT N T

mutual
/-- The parts of all Levels. -/
def Tr.lv : Tr → Nat
  | .mk _ _ _ ls _ _ _ _ _ _ args => Lv.sizes ls + Tr.lvl args
def Tr.lvl : List Tr → Nat
  | [] => 0
  | T :: r => T.lv + Tr.lvl r
end
theorem Tr.lv_eq (T : Tr) : T.lv = Lv.sizes T.ls + Tr.lvl T.args := by cases T; simp only [Tr.lv, Tr.ls, Tr.args]
theorem Tr.lv_mem {l : List Tr} {T : Tr} (h : T ∈ l) : T.lv ≤ Tr.lvl l := by
  induction l with
  | nil => cases h
  | cons x r ih =>
    simp only [Tr.lvl]
    rcases List.mem_cons.1 h with rfl | h
    · omega
    · have := ih h; omega

theorem OkT.kind {N : Int} {T : Tr} (h : OkT N T) : (T.k = 0 ∨ T.k = 1 ∨ T.k = 2) ∧ T.args = [] ∨ 3 ≤ T.k ∧ T.k ≤ 6 ∧ 0 < T.args.length ∧ T.args.length ≤ 3 := by
  cases h with
  | mk h1 _ _ _ _ =>
    have hk := tcnt_in (k := T.k) (by omega)
    unfold tcnt at h1
    by_cases h0 : T.k = 0 ∨ T.k = 1 ∨ T.k = 2
    · rw [if_pos h0] at h1
      exact .inl ⟨h0, List.eq_nil_of_length_eq_zero (by omega)⟩
    · rw [if_neg h0] at h1
      by_cases h3 : T.k = 3 ∨ T.k = 4 ∨ T.k = 5
      · rw [if_pos h3] at h1; exact .inr ⟨by omega, by omega, by omega, by omega⟩
      · rw [if_neg h3] at h1
        by_cases h6 : T.k = 6
        · rw [if_pos h6] at h1; exact .inr ⟨by omega, by omega, by omega, by omega⟩
        · omega
theorem OkT.form {N : Int} {T : Tr} (h : OkT N T) : T.formB = true := by cases h with | mk h1 _ _ _ _ => unfold Tr.formB; simpa using h1
theorem OkT.args {N : Int} {T : Tr} (h : OkT N T) : ∀ L ∈ T.args, OkT N L := by cases h with | mk _ _ _ _ h5 => exact h5
theorem OkT.num {N : Int} {T : Tr} (h : OkT N T) : 0 ≤ T.n ∧ T.n ≤ N := by cases h with | mk _ h2 h3 _ _ => exact ⟨h2, h3⟩
theorem OkT.bare {N : Int} {T : Tr} (h : OkT N T) (hk : T.k = 0) : T.s = { data := #[] } ∧ T.ls = [] := by cases h with | mk _ _ _ h4 _ => exact h4 hk

theorem formed_seqs (k : Int) (b off d m : Nat) (l : List Tr) : (∀ T ∈ l, ∀ b off d m, Formed (T.seq b off d m)) → ∀ i, Formed (Tr.seqs k b off d m i l) := by
  induction l with
  | nil => intro _ i p hp; rw [Tr.seqs] at hp; cases hp
  | cons x r ih =>
    intro h i p hp
    rw [Tr.seqs] at hp
    rcases List.mem_append.1 hp with hp | hp
    · exact h x (by simp) _ _ _ _ p hp
    · exact ih (fun T hT => h T (by simp [hT])) _ p hp
theorem OkT.formed {N : Int} (T : Tr) : ∀ b off d m, OkT N T → Formed (T.seq b off d m) := by
  refine Tr.ind' (P := fun T => ∀ b off d m, OkT N T → Formed (T.seq b off d m)) ?_ T
  intro T ih b off d m h p hp
  have hs := Pt.seq_eq ⟨b, off, T, d, m⟩
  unfold Pt.seq at hs
  rw [hs] at hp
  rcases List.mem_cons.1 hp with rfl | hp
  · exact h.form
  · unfold Pt.from at hp
    rw [List.drop_zero] at hp
    exact formed_seqs _ _ _ _ _ _ (fun L hL b off d m => ih L hL b off d m (h.args L hL)) _ p hp
theorem lvs_seqs (k : Int) (b off d m : Nat) (l : List Tr) : (∀ T ∈ l, ∀ b off d m, lvs (T.seq b off d m) = T.lv) → ∀ i, lvs (Tr.seqs k b off d m i l) = Tr.lvl l := by
  induction l with
  | nil => intro _ i; rw [Tr.seqs]; rfl
  | cons x r ih => intro h i; rw [Tr.seqs, lvs_append, h x (by simp), ih (fun T hT => h T (by simp [hT])), Tr.lvl]
theorem lvs_seq (T : Tr) : ∀ b off d m, lvs (T.seq b off d m) = T.lv := by
  refine Tr.ind' (P := fun T => ∀ b off d m, lvs (T.seq b off d m) = T.lv) ?_ T
  intro T ih b off d m
  have hs := Pt.seq_eq ⟨b, off, T, d, m⟩
  unfold Pt.seq at hs
  rw [hs, lvs, Tr.lv_eq]
  unfold Pt.from
  rw [List.drop_zero, lvs_seqs _ _ _ _ _ _ (fun L hL b off d m => ih L hL b off d m)]
theorem OkT.good {N : Int} (hN : N ≤ 1073741824) (T : Tr) : OkT N T → T.lv ≤ 262144 → Good T := by
  refine Tr.ind' (P := fun T => OkT N T → T.lv ≤ 262144 → Good T) ?_ T
  intro T ih h hl
  have h1 := h.kind
  have h2 := h.num
  have h3 := T.lv_eq
  refine .mk (by omega) (by omega) (fun hk => ?_) (by omega) (by omega) (by omega) (fun L hL => ih L hL (h.args L hL) (by have := Tr.lv_mem hL; omega))
  rcases h1 with h1 | h1
  · omega
  · exact ⟨by omega, by omega⟩

/-- What a lift makes. -/
theorem lift_parts {by_ from_ : Int} {p : Pt} {T' : Tr} (h : LiftG by_ from_ p T') {N : Int} (ho : OkT N p.t) : T'.k = p.t.k ∧ T'.n = (if p.t.k = 0 then lvn by_ from_ p else p.t.n) ∧ T'.s = p.t.s ∧ T'.ls = p.t.ls ∧ T'.args.length = p.t.args.length ∧ (∀ i T U, p.t.args[i]? = some T → T'.args[i]? = some U → LiftG by_ from_ (p.kid i T) U) := by
  have hk := ho.kind
  cases h with
  | var h0 hv =>
    obtain ⟨h1, h2, h3, h4, h5⟩ := hv
    obtain ⟨b1, b2⟩ := ho.bare h0
    have ha : p.t.args = [] := by rcases hk with ⟨_, h⟩ | h; exact h; omega
    exact ⟨by rw [h1, h0], by rw [if_pos h0]; exact h2, by rw [h3, b1], by rw [h4, b2], by rw [h5, ha], fun i T U hi => by rw [ha] at hi; simp at hi⟩
  | leaf h0 h1 h2 h3 h4 h5 =>
    have ha : p.t.args = [] := by rcases hk with ⟨_, h⟩ | h; exact h; omega
    exact ⟨h1, by rw [if_neg (by omega)]; exact h2, h3, h4, by rw [h5, ha], fun i T U hi => by rw [ha] at hi; simp at hi⟩
  | branch h0 h0' h1 h2 h3 h4 h5 h6 => exact ⟨h1, by rw [if_neg (by omega)]; exact h2, h3, h4, h5, h6⟩

def PutG : Pt → Tr → Prop := Img (fun p T' => IsVar (pvn p) T') SameLv
theorem put_parts {p : Pt} {T' : Tr} (h : PutG p T') {N : Int} (ho : OkT N p.t) : T'.k = p.t.k ∧ T'.n = (if p.t.k = 0 then pvn p else p.t.n) ∧ T'.s = p.t.s ∧ T'.ls = p.t.ls ∧ T'.args.length = p.t.args.length ∧ (∀ i T U, p.t.args[i]? = some T → T'.args[i]? = some U → PutG (p.kid i T) U) := by
  have hk := ho.kind
  cases h with
  | var h0 hv =>
    obtain ⟨h1, h2, h3, h4, h5⟩ := hv
    obtain ⟨b1, b2⟩ := ho.bare h0
    have ha : p.t.args = [] := by rcases hk with ⟨_, h⟩ | h; exact h; omega
    exact ⟨by rw [h1, h0], by rw [if_pos h0]; exact h2, by rw [h3, b1], by rw [h4, b2], by rw [h5, ha], fun i T U hi => by rw [ha] at hi; simp at hi⟩
  | leaf h0 h1 h2 h3 h4 h5 =>
    have ha : p.t.args = [] := by rcases hk with ⟨_, h⟩ | h; exact h; omega
    exact ⟨h1, by rw [if_neg (by omega)]; exact h2, h3, h4, by rw [h5, ha], fun i T U hi => by rw [ha] at hi; simp at hi⟩
  | branch h0 h0' h1 h2 h3 h4 h5 h6 => exact ⟨h1, by rw [if_neg (by omega)]; exact h2, h3, h4, h5, h6⟩

theorem lvn_eq (by_ from_ : Int) (p : Pt) (hk : p.t.k = 0) : lvn by_ from_ p = if (p.m : Int) ≤ p.t.n ∧ from_ ≤ p.t.n - p.m then p.t.n + by_ else p.t.n := by
  unfold lvn Pt.freeN Pt.freeB
  by_cases h : (p.m : Int) ≤ p.t.n
  · simp [hk, h]
  · simp [hk, h]
theorem pvn_eq (p : Pt) (hk : p.t.k = 0) : pvn p = if (p.m : Int) ≤ p.t.n then p.t.n - 1 else p.t.n := by
  unfold pvn Pt.freeB
  by_cases h : (p.m : Int) ≤ p.t.n
  · simp [hk, h]
  · simp [hk, h]

theorem at_of {l l' : List Tr} (h : l'.length = l.length) {i : Nat} {T : Tr} (hi : l[i]? = some T) : ∃ U, l'[i]? = some U := ⟨_, List.getElem?_eq_getElem (by have := (List.getElem?_eq_some_iff.1 hi).1; omega)⟩
theorem mem_of {l l' : List Tr} (h : l'.length = l.length) {U : Tr} (hU : U ∈ l') : ∃ (i : Nat) (T : Tr), l[i]? = some T ∧ l'[i]? = some U := by
  obtain ⟨i, hi, e⟩ := List.getElem_of_mem hU
  exact ⟨i, _, List.getElem?_eq_getElem (by omega), by rw [List.getElem?_eq_getElem hi, e]⟩

theorem sum_eq {l l' : List Tr} (f : Tr → Nat) (F : List Tr → Nat) (h1 : ∀ T r, F (T :: r) = f T + F r) (hl : l'.length = l.length) (h : ∀ (i : Nat) (T U : Tr), l[i]? = some T → l'[i]? = some U → f U = f T) : F l' = F l := by
  induction l generalizing l' with
  | nil => have : l' = [] := List.eq_nil_of_length_eq_zero (by simpa using hl); rw [this]
  | cons x r ih =>
    cases l' with
    | nil => simp at hl
    | cons y r' => rw [h1, h1, h 0 x y rfl rfl, ih (by simpa using hl) (fun i T U hi hU => h (i + 1) T U (by simpa using hi) (by simpa using hU))]

/-- A lift keeps size and Levels, and makes numbers greater by by at most. -/
theorem lift_keeps {by_ from_ N : Int} (hb : 0 ≤ by_) (T : Tr) : ∀ (b off d m : Nat) (T' : Tr), OkT N T → LiftG by_ from_ ⟨b, off, T, d, m⟩ T' → T'.size = T.size ∧ T'.lv = T.lv ∧ OkT (N + by_) T' := by
  refine Tr.ind' (P := fun T => ∀ (b off d m : Nat) (T' : Tr), OkT N T → LiftG by_ from_ ⟨b, off, T, d, m⟩ T' → T'.size = T.size ∧ T'.lv = T.lv ∧ OkT (N + by_) T') ?_ T
  intro T ih b off d m T' ho h
  obtain ⟨h1, h2, h3, h4, h5, h6⟩ := lift_parts h ho
  simp only at h1 h2 h3 h4 h5 h6
  have hkid : ∀ (i : Nat) (A U : Tr), T.args[i]? = some A → T'.args[i]? = some U → U.size = A.size ∧ U.lv = A.lv ∧ OkT (N + by_) U := fun i A U hi hU => by
    have := h6 i A U hi hU
    simp only [Pt.kid] at this
    exact ih A (List.mem_of_getElem? hi) _ _ _ _ U (ho.args A (List.mem_of_getElem? hi)) this
  refine ⟨?_, ?_, .mk (by rw [h1, h5]; have := ho.form; unfold Tr.formB at this; simpa using this) ?_ ?_ (fun hk => by rw [h3, h4]; exact ho.bare (by rw [← h1]; exact hk)) (fun U hU => ?_)⟩
  · rw [T'.size_eq, T.size_eq, sum_eq Tr.size Tr.sizes (fun _ _ => rfl) h5 (fun i A U hi hU => (hkid i A U hi hU).1)]
  · rw [T'.lv_eq, T.lv_eq, h4, sum_eq Tr.lv Tr.lvl (fun _ _ => rfl) h5 (fun i A U hi hU => (hkid i A U hi hU).2.1)]
  · have := ho.num
    rw [h2]
    split
    · rw [lvn_eq _ _ _ ‹_›]; simp only; split <;> omega
    · omega
  · have := ho.num
    rw [h2]
    split
    · rw [lvn_eq _ _ _ ‹_›]; simp only; split <;> omega
    · omega
  · obtain ⟨i, A, hi, hU'⟩ := mem_of h5 hU
    exact (hkid i A U hi hU').2.2

/-- Lifted by nothing it is as it was. -/
theorem lift_zero {from_ N : Int} (T : Tr) : ∀ (b off d m : Nat) (T' : Tr), OkT N T → LiftG 0 from_ ⟨b, off, T, d, m⟩ T' → Eqv T' T := by
  refine Tr.ind' (P := fun T => ∀ (b off d m : Nat) (T' : Tr), OkT N T → LiftG 0 from_ ⟨b, off, T, d, m⟩ T' → Eqv T' T) ?_ T
  intro T ih b off d m T' ho h
  obtain ⟨h1, h2, h3, h4, h5, h6⟩ := lift_parts h ho
  simp only at h1 h2 h3 h4 h5 h6
  refine .mk h1 ?_ h3 h4 h5 (fun i U A hU hi => ?_)
  · rw [h2]
    split
    · rw [lvn_eq _ _ _ ‹_›]; simp only; split <;> omega
    · rfl
  · have := h6 i A U hi hU
    simp only [Pt.kid] at this
    exact ih A (List.mem_of_getElem? hi) _ _ _ _ U (ho.args A (List.mem_of_getElem? hi)) this

/-- Lifts add up. -/
theorem lift_adds {x y from_ N : Int} (hx : 0 ≤ x) (T : Tr) : ∀ (b off d m b' off' d' b2 off2 d2 : Nat) (T1 T2 T3 : Tr), OkT N T → LiftG x from_ ⟨b, off, T, d, m⟩ T1 → LiftG y from_ ⟨b', off', T1, d', m⟩ T2 → LiftG (x + y) from_ ⟨b2, off2, T, d2, m⟩ T3 → Eqv T2 T3 := by
  refine Tr.ind' (P := fun T => ∀ (b off d m b' off' d' b2 off2 d2 : Nat) (T1 T2 T3 : Tr), OkT N T → LiftG x from_ ⟨b, off, T, d, m⟩ T1 → LiftG y from_ ⟨b', off', T1, d', m⟩ T2 → LiftG (x + y) from_ ⟨b2, off2, T, d2, m⟩ T3 → Eqv T2 T3) ?_ T
  intro T ih b off d m b' off' d' b2 off2 d2 T1 T2 T3 ho g1 g2 g3
  have o1 := (lift_keeps hx T _ _ _ _ T1 ho g1).2.2
  obtain ⟨h1, h2, h3, h4, h5, h6⟩ := lift_parts g1 ho
  obtain ⟨k1, k2, k3, k4, k5, k6⟩ := lift_parts g2 o1
  obtain ⟨l1, l2, l3, l4, l5, l6⟩ := lift_parts g3 ho
  simp only at h1 h2 h3 h4 h5 h6 k1 k2 k3 k4 k5 k6 l1 l2 l3 l4 l5 l6
  refine .mk (by rw [k1, h1, l1]) ?_ (by rw [k3, h3, l3]) (by rw [k4, h4, l4]) (by rw [k5, h5, l5]) (fun i U2 U3 hU2 hU3 => ?_)
  · rw [k2, l2]
    by_cases hk : T.k = 0
    · rw [if_pos (by rw [h1]; exact hk), if_pos hk, lvn_eq _ _ _ (by show T1.k = 0; rw [h1]; exact hk), lvn_eq _ _ _ hk]
      rw [if_pos hk, lvn_eq _ _ _ hk] at h2
      simp only at h2 ⊢
      split at h2 <;> (split <;> omega)
    · rw [if_neg (by rw [h1]; exact hk), if_neg hk, h2, if_neg hk]
  · obtain ⟨A, hA⟩ := at_of (l := T2.args) (l' := T.args) (by omega) hU2
    obtain ⟨U1, hU1⟩ := at_of (l := T2.args) (l' := T1.args) (by omega) hU2
    have e1 := h6 i A U1 hA hU1
    have e2 := k6 i U1 U2 hU1 hU2
    have e3 := l6 i A U3 hA hU3
    simp only [Pt.kid, h1] at e1 e2 e3
    exact ih A (List.mem_of_getElem? hA) _ _ _ _ _ _ _ _ _ _ U1 U2 U3 (ho.args A (List.mem_of_getElem? hA)) e1 e2 e3

/-- What is put into a lifted term does not come in. -/
theorem lift_put {N : Int} (T : Tr) : ∀ (b off d m b' off' d' : Nat) (T1 T2 : Tr), OkT N T → LiftG 1 0 ⟨b, off, T, d, m⟩ T1 → PutG ⟨b', off', T1, d', m⟩ T2 → Eqv T2 T := by
  refine Tr.ind' (P := fun T => ∀ (b off d m b' off' d' : Nat) (T1 T2 : Tr), OkT N T → LiftG 1 0 ⟨b, off, T, d, m⟩ T1 → PutG ⟨b', off', T1, d', m⟩ T2 → Eqv T2 T) ?_ T
  intro T ih b off d m b' off' d' T1 T2 ho g1 g2
  have o1 := (lift_keeps (by omega) T _ _ _ _ T1 ho g1).2.2
  obtain ⟨h1, h2, h3, h4, h5, h6⟩ := lift_parts g1 ho
  obtain ⟨k1, k2, k3, k4, k5, k6⟩ := put_parts g2 o1
  simp only at h1 h2 h3 h4 h5 h6 k1 k2 k3 k4 k5 k6
  refine .mk (by rw [k1, h1]) ?_ (by rw [k3, h3]) (by rw [k4, h4]) (by rw [k5, h5]) (fun i U2 A hU2 hA => ?_)
  · rw [k2]
    by_cases hk : T.k = 0
    · rw [if_pos (by rw [h1]; exact hk), pvn_eq _ (by show T1.k = 0; rw [h1]; exact hk)]
      rw [if_pos hk, lvn_eq _ _ _ hk] at h2
      simp only at h2 ⊢
      split at h2 <;> (split <;> omega)
    · rw [if_neg (by rw [h1]; exact hk), h2, if_neg hk]
  · obtain ⟨U1, hU1⟩ := at_of (l := T2.args) (l' := T1.args) (by omega) hU2
    have e1 := h6 i A U1 hA hU1
    have e2 := k6 i U1 U2 hU1 hU2
    simp only [Pt.kid, h1] at e1 e2
    exact ih A (List.mem_of_getElem? hA) _ _ _ _ _ _ _ U1 U2 (ho.args A (List.mem_of_getElem? hA)) e1 e2
end Go.Proofs.YtbmijpjmdpdfkaaDoor
