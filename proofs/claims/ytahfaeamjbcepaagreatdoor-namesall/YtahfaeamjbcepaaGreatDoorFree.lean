/- A region that draws its order: each operation walked once, in whatever world that has grown, with what is known of those that must come ahead of it. Of no program; no condition. -/
import Derived.Test.YtahfaeamjbcepaaGreatDoorMem
import Derived.Orders
namespace Go.Proofs.YtahfaeamjbcepaaGreatDoor
open Go.RowKit

/-- One value of a row of values is turned. -/
def upd (f : Nat → Value) (i : Nat) (v : Value) : Nat → Value := fun j => if j = i then v else f j
theorem upd_same (f : Nat → Value) (i : Nat) (v : Value) : upd f i v i = v := by simp [upd]
theorem upd_ne (f : Nat → Value) {i j : Nat} (v : Value) (h : j ≠ i) : upd f i v j = f j := by simp [upd, h]

/-- All temporaries of the operations are filled, but those in skip. -/
def putAll (f : Nat → Value) (skip : List Nat) : Nat → List Oper → Act → Act
  | _, [], a => a
  | i, o :: r, a => putAll f skip (i + 1) r (if skip.contains i = true then a else a.put o.dst (f i))

theorem put_size (a : Act) (d : Option Tmp) (v : Value) : (a.put d v).tmps.size = a.tmps.size := by cases d <;> simp [Act.put]
theorem put_def (a : Act) (d : Option Tmp) (v : Value) : (a.put d v).defers = a.defers := by cases d <;> rfl
theorem put_at (a : Act) (d : Tmp) (v : Value) (h : d < a.tmps.size) : (a.put (some d) v).tmps[d]? = some v := by simp [Act.put, h]
theorem put_off (a : Act) (d : Option Tmp) (v : Value) (k : Tmp) (h : d ≠ some k) : (a.put d v).tmps[k]? = a.tmps[k]? := by
  cases d with
  | none => rfl
  | some d => simp only [Act.put]; rw [Array.getElem?_setIfInBounds_ne (fun e => h (by rw [e]))]

theorem putAll_size (f : Nat → Value) (skip : List Nat) : ∀ (l : List Oper) (i : Nat) (a : Act), (putAll f skip i l a).tmps.size = a.tmps.size
  | [], _, _ => rfl
  | o :: r, i, a => by rw [putAll, putAll_size f skip r]; split; rfl; exact put_size _ _ _
theorem putAll_def (f : Nat → Value) (skip : List Nat) : ∀ (l : List Oper) (i : Nat) (a : Act), (putAll f skip i l a).defers = a.defers
  | [], _, _ => rfl
  | o :: r, i, a => by rw [putAll, putAll_def f skip r]; split; rfl; exact put_def _ _ _
theorem putAll_off (f : Nat → Value) (skip : List Nat) (k : Tmp) : ∀ (l : List Oper) (i : Nat) (a : Act), (∀ j o, l[j]? = some o → o.dst = some k → skip.contains (i + j) = true) → (putAll f skip i l a).tmps[k]? = a.tmps[k]?
  | [], _, _, _ => rfl
  | o :: r, i, a, h => by
    rw [putAll, putAll_off f skip k r _ _ (fun j o ho hd => by have := h (j + 1) o (by simpa using ho) hd; rw [show i + (j + 1) = i + 1 + j by omega] at this; exact this)]
    split
    · rfl
    · rename_i hs
      exact put_off _ _ _ _ (fun e => hs (h 0 o rfl e))

/-- No two write the same temporary; all temporaries are there. -/
def dstsB (n : Nat) : List Oper → Bool
  | [] => true
  | o :: r => (match o.dst with | none => true | some d => decide (d < n) && r.all fun p => p.dst != some d) && dstsB n r
theorem putAll_on (f : Nat → Value) (skip : List Nat) (d : Tmp) : ∀ (l : List Oper) (i : Nat) (a : Act) (j : Nat) (o : Oper), dstsB a.tmps.size l = true → l[j]? = some o → o.dst = some d → skip.contains (i + j) = false → (putAll f skip i l a).tmps[d]? = some (f (i + j))
  | [], _, _, _, _, _, h, _, _ => by simp at h
  | o' :: r, i, a, j, o, hB, h, hd, hs => by
    simp only [dstsB, Bool.and_eq_true] at hB
    rw [putAll]
    cases j with
    | zero =>
      simp only [List.getElem?_cons_zero, Option.some.injEq] at h
      subst h
      rw [hd] at hB
      simp only [Bool.and_eq_true, decide_eq_true_eq, List.all_eq_true, bne_iff_ne, ne_eq] at hB
      rw [Nat.add_zero] at hs
      rw [putAll_off f skip d r _ _ (fun j o ho e => absurd e (hB.1.2 o (List.mem_of_getElem? ho))), if_neg (by rw [hs]; decide), hd, put_at _ _ _ hB.1.1]
      simp
    | succ j =>
      have hz : (if skip.contains i = true then a else a.put o'.dst (f i)).tmps.size = a.tmps.size := by split; rfl; exact put_size _ _ _
      have := putAll_on f skip d r (i + 1) (if skip.contains i = true then a else a.put o'.dst (f i)) j o (by rw [hz]; exact hB.2) (by simpa using h) hd (by rw [show i + 1 + j = i + (j + 1) by omega]; exact hs)
      rw [this]; congr 1; congr 1; omega

/-- Those that must come ahead of number i. -/
def anc (ops : Array Oper) : Nat → Nat → List Nat
  | 0, _ => []
  | k + 1, i => match ops[i]? with
    | none => []
    | some o => let d := (o.after.toList.filter fun e => Region.binds .any e).map (·.on); d ++ d.flatMap (anc ops k)

/-- What the law asks of the region and of the lists D. -/
def freeB (n : Nat) (ops : Array Oper) (D W : Nat → List Nat) : Bool :=
  Region.noSelect ops && dstsB n ops.toList && (List.range ops.size).all fun i => match ops[i]? with
    | none => true
    | some o => (o.after.toList.all fun e => !Region.binds .any e || decide (e.on < i)) && ((D i).all fun j => (anc ops ops.size i).contains j) && ((W i).all fun j => (anc ops ops.size j).contains i) &&
        (List.range ops.size).all fun j => match ops[j]? with
          | none => true
          | some p => match p.dst with
            | none => true
            | some d => !(o.looksAt ops).contains d || ((D i).contains j && !(W i).contains j) || (W i).contains j

/-- What may have come up ahead of j and is asked for behind it is in live j. -/
def liveB (ops : Array Oper) (D : Nat → List Nat) (fin : List Nat) (live : Nat → List Nat) : Bool :=
  (List.range ops.size).all fun j => (List.range ops.size).all fun i => i == j || (anc ops ops.size i).contains j || (live j).contains i ||
    !(fin.contains i || (List.range ops.size).any fun k => k != j && !(anc ops ops.size j).contains k && (D k).contains i)

/-- Each one comes up ahead of number c, or behind it. -/
def closeB (ops : Array Oper) (c : Nat) : Bool := decide (ops.size ≤ c) || (List.range ops.size).all fun i => i == c || (anc ops ops.size i).contains c || (anc ops ops.size c).contains i

theorem anc_listed {ops : Array Oper} {listed : Array Bool} (hc : ∀ i o, listed.getD i false = true → ops[i]? = some o → ∀ e ∈ o.after, Region.binds .any e = true → listed.getD e.on false = true) :
    ∀ (k i : Nat) (o : Oper), ops[i]? = some o → (∀ e ∈ o.after, Region.binds .any e = true → listed.getD e.on false = true) → ∀ j ∈ anc ops k i, listed.getD j false = true
  | 0, _, _, _, _, j, hj => by simp [anc] at hj
  | k + 1, i, o, ho, hall, j, hj => by
    simp only [anc, ho, List.mem_append, List.mem_map, List.mem_filter, List.mem_flatMap, Array.mem_toList_iff] at hj
    rcases hj with ⟨e, ⟨he, hb⟩, rfl⟩ | ⟨m, ⟨e, ⟨he, hb⟩, rfl⟩, hj⟩
    · exact hall e he hb
    · have hl := hall e he hb
      cases hm : ops[e.on]? with
      | none => cases k with
        | zero => simp [anc] at hj
        | succ k => simp [anc, hm] at hj
      | some p => exact anc_listed hc k e.on p hm (hc e.on p hl hm) j hj

/-- Where the region stands. -/
structure At (ops : Array Oper) (a0 : Act) (SA SB : World → Prop) (c : Nat) (Φ : Nat → (Nat → Value) → World → Prop) (D : Nat → List Nat) (fin : List Nat) (listed : Array Bool) (a : Act) (w : World) (f : Nat → Value) : Prop where
  size : listed.size = ops.size
  sz : a.tmps.size = a0.tmps.size
  df : a.defers = a0.defers
  off : ∀ k, (∀ i o, listed.getD i false = true → ops[i]? = some o → o.dst ≠ some k) → a.tmps[k]? = a0.tmps[k]?
  on : ∀ i o d, listed.getD i false = true → ops[i]? = some o → o.dst = some d → a.tmps[d]? = some (f i)
  closed : ∀ i o, listed.getD i false = true → ops[i]? = some o → ∀ e ∈ o.after, Region.binds .any e = true → listed.getD e.on false = true
  fact : ∀ i, listed.getD i false = true → (i ∈ fin ∨ ∃ k, k < ops.size ∧ listed.getD k false = false ∧ i ∈ D k) → Φ i f w
  S : if listed.getD c false = true then SB w else SA w

theorem getD_false {l : Array Bool} {i : Nat} (h : l.getD i true = false) : l.getD i false = false := by
  simp only [Array.getD_eq_getD_getElem?] at h ⊢
  cases e : l[i]? with
  | none => rfl
  | some b => rw [e] at h; simpa using h
theorem getD_sets {l : Array Bool} {i j : Nat} (h : (l.setIfInBounds i true).getD j false = true) : j = i ∨ l.getD j false = true := by
  by_cases e : i = j
  · exact .inl e.symm
  · rw [getD_set_ne false e] at h; exact .inr h

/-- How many have not come up yet. -/
def left (ops : Array Oper) (listed : Array Bool) : Nat := (List.range ops.size).countP fun i => !listed.getD i true
theorem countP_less {α : Type} (p q : α → Bool) (x : α) : ∀ l : List α, x ∈ l → p x = true → q x = false → (∀ y, q y = true → p y = true) → l.countP q < l.countP p
  | [], h, _, _, _ => by cases h
  | y :: r, h, hp, hq, hi => by
    have hle : r.countP q ≤ r.countP p := List.countP_mono_left (fun y _ => hi y)
    rw [List.countP_cons, List.countP_cons]
    rcases List.mem_cons.1 h with rfl | h
    · rw [hp, hq]; simp; omega
    · have := countP_less p q x r h hp hq hi
      by_cases hy : q y = true
      · rw [hi y hy, hy]; simp; omega
      · simp only [hy]; simp; split <;> omega
theorem left_set {ops : Array Oper} {listed : Array Bool} {i : Nat} (hs : listed.size = ops.size) (hi : i < ops.size) (h : listed.getD i true = false) : left ops (listed.setIfInBounds i true) < left ops listed := by
  unfold left
  refine countP_less _ _ i _ (by simpa using hi) (by simp [h]) (by simp [hs, hi]) ?_
  intro j hj
  by_cases e : i = j
  · subst e; simp [hs, hi] at hj
  · rw [getD_set_ne true e] at hj; exact hj

section
variable {P : Program} {ops : Array Oper} {Q : Exit → Act → World → Prop} {SA SB : World → Prop} {c : Nat} {Φ : Nat → (Nat → Value) → World → Prop} {D W : Nat → List Nat} {fin : List Nat} {live : Nat → List Nat} {a0 : Act}

/-- Number i, whatever came up ahead of it. -/
def FreeStep (P : Program) (ops : Array Oper) (Q : Exit → Act → World → Prop) (SA SB : World → Prop) (c : Nat) (Φ : Nat → (Nat → Value) → World → Prop) (D W live : Nat → List Nat) (a0 : Act) (i : Nat) (o : Oper) : Prop :=
  ∀ f w, (if (anc ops ops.size i).contains c = true then SB w else SA w) → (∀ j ∈ D i, Φ j f w) → ∀ K : Act → World → Prop, (∀ v w', (if i = c ∨ (anc ops ops.size i).contains c = true then SB w' else SA w') → (∀ j ∈ live i, Φ j f w → Φ j f w') → Φ i (upd f i v) w' → K ((putAll f (W i) 0 ops.toList a0).put o.dst v) w') →
    if Region.wanted o (yielded ops (putAll f (W i) 0 ops.toList a0).tmps) = true then Oper.wp P o (putAll f (W i) 0 ops.toList a0) w K Q else K ((putAll f (W i) 0 ops.toList a0).put o.dst undef) w

theorem free_agree {listed : Array Bool} {a : Act} {w : World} {f : Nat → Value} (hB : freeB a0.tmps.size ops D W = true) (h : At ops a0 SA SB c Φ D fin listed a w f) {i : Nat} {o : Oper} (ho : ops[i]? = some o) (hun : listed.getD i true = false)
    (hr : ∀ e ∈ o.after, Region.binds .any e = true → listed.getD e.on false = true) :
    (∀ j ∈ D i, listed.getD j false = true) ∧ ∀ k ∈ o.looksAt ops, a.tmps[k]? = (putAll f (W i) 0 ops.toList a0).tmps[k]? := by
  simp only [freeB, Bool.and_eq_true, List.all_eq_true, List.mem_range] at hB
  obtain ⟨⟨hns, hds⟩, hall⟩ := hB
  have hi := (Array.getElem?_eq_some_iff.1 ho).1
  have h1 := hall i hi
  rw [ho] at h1
  simp only [Bool.and_eq_true, List.all_eq_true, List.mem_range] at h1
  obtain ⟨⟨⟨_, hD⟩, hW⟩, hL⟩ := h1
  have hDl : ∀ j ∈ D i, listed.getD j false = true := fun j hj => anc_listed h.closed ops.size i o ho hr j (by simpa using hD j hj)
  have hWl : ∀ j ∈ W i, listed.getD j false = false := fun j hj => by
    cases hc : listed.getD j false with
    | false => rfl
    | true =>
      exfalso
      have hjs : j < ops.size := by
        rw [← h.size]
        simp only [Array.getD_eq_getD_getElem?] at hc
        cases hx : listed[j]? with
        | none => rw [hx] at hc; cases hc
        | some b => exact (Array.getElem?_eq_some_iff.1 hx).1
      have hp : ops[j]? = some ops[j] := Array.getElem?_eq_getElem hjs
      have := anc_listed h.closed ops.size j _ hp (h.closed j _ hc hp) i (by simpa using hW j hj)
      rw [getD_false hun] at this; cases this
  refine ⟨hDl, fun k hk => ?_⟩
  by_cases hex : ∃ (j : Nat) (p : Oper), ops[j]? = some p ∧ p.dst = some k
  · obtain ⟨j, p, hp, hd⟩ := hex
    have uq : ∀ j' p', ops[j']? = some p' → p'.dst = some k → j' = j := by
      intro j' p' hp' hd'
      have h1 := putAll_on (fun x => .int .i64 x) [] k ops.toList 0 a0 j p hds (by simpa using hp) hd (by simp)
      have h2 := putAll_on (fun x => .int .i64 x) [] k ops.toList 0 a0 j' p' hds (by simpa using hp') hd' (by simp)
      rw [h1] at h2
      simp at h2
      omega
    have h2 := hL j (Array.getElem?_eq_some_iff.1 hp).1
    rw [hp] at h2
    simp only [hd, Bool.or_eq_true, Bool.not_eq_true', Bool.and_eq_true] at h2
    rcases h2 with (h2 | ⟨h2, h3⟩) | h2
    · rw [List.contains_eq_mem] at h2; simp [hk] at h2
    · rw [h.on j p k (hDl j (by simpa using h2)) hp hd, putAll_on f (W i) k ops.toList 0 a0 j p hds (by simpa using hp) hd (by rw [Nat.zero_add]; exact h3)]
      simp
    · have hjl := hWl j (by simpa using h2)
      rw [h.off k (fun j' p' hl' hp' hd' => by rw [uq j' p' hp' hd', hjl] at hl'; cases hl'), putAll_off f (W i) k ops.toList 0 a0 (fun j' p' hp' hd' => by rw [Nat.zero_add, uq j' p' (by simpa using hp') hd']; exact h2)]
  · rw [h.off k (fun j p _ hp hd => hex ⟨j, p, hp, hd⟩), putAll_off f (W i) k ops.toList 0 a0 (fun j p hp hd => (hex ⟨j, p, by simpa using hp, hd⟩).elim)]

theorem free_next {listed : Array Bool} {a : Act} {w w' : World} {f : Nat → Value} (hB : freeB a0.tmps.size ops D W = true)
    (hL : liveB ops D fin live = true) (hC : closeB ops c = true) (hlo : ∀ i f f' w, (∀ j, j = i ∨ j ∈ D i → f j = f' j) → Φ i f w → Φ i f' w)
    (h : At ops a0 SA SB c Φ D fin listed a w f) {i : Nat} {o : Oper} (ho : ops[i]? = some o) (hun : listed.getD i true = false)
    (hr : ∀ e ∈ o.after, Region.binds .any e = true → listed.getD e.on false = true) {v : Value} {a' : Act} (ha : a' = a.put o.dst v) (hS : if i = c ∨ (anc ops ops.size i).contains c = true then SB w' else SA w') (hg : ∀ j ∈ live i, Φ j f w → Φ j f w') (hΦ : Φ i (upd f i v) w') :
    At ops a0 SA SB c Φ D fin (listed.setIfInBounds i true) a' w' (upd f i v) := by
  subst ha
  have hB' := hB
  simp only [freeB, Bool.and_eq_true, List.all_eq_true, List.mem_range] at hB'
  obtain ⟨⟨_, hds⟩, hall⟩ := hB'
  have hi := (Array.getElem?_eq_some_iff.1 ho).1
  have uniq : ∀ j p d, ops[j]? = some p → p.dst = some d → o.dst = some d → j = i := by
    intro j p d hp hd hod
    have h1 := putAll_on (fun x => .int .i64 x) [] d ops.toList 0 a0 j p hds (by simpa using hp) hd (by simp)
    have h2 := putAll_on (fun x => .int .i64 x) [] d ops.toList 0 a0 i o hds (by simpa using ho) hod (by simp)
    rw [h1] at h2
    simp at h2
    omega
  have lt : ∀ d, o.dst = some d → d < a0.tmps.size := by
    intro d hd
    have h1 := putAll_on (fun x => .int .i64 x) [] d ops.toList 0 a0 i o hds (by simpa using ho) hd (by simp)
    have := (Array.getElem?_eq_some_iff.1 h1).1
    rwa [putAll_size] at this
  have hS' : if (listed.setIfInBounds i true).getD c false = true then SB w' else SA w' := by
    by_cases hic : i = c
    · subst hic
      rw [if_pos (.inl rfl)] at hS
      rw [if_pos (by simp [h.size, hi])]
      exact hS
    · rw [getD_set_ne false hic]
      have hiff : listed.getD c false = true ↔ (anc ops ops.size i).contains c = true := by
        constructor
        · intro hcl
          unfold closeB at hC
          simp only [Bool.or_eq_true, decide_eq_true_eq, List.all_eq_true, List.mem_range] at hC
          rcases hC with hC | hC
          · rw [← h.size] at hC
            simp [Array.getElem?_eq_none hC] at hcl
          · rcases hC i hi with (h1 | h1) | h1
            · exact absurd (by simpa using h1) hic
            · exact h1
            · exfalso
              have hcs : c < ops.size := by
                rw [← h.size]
                simp only [Array.getD_eq_getD_getElem?] at hcl
                cases hx : listed[c]? with
                | none => rw [hx] at hcl; cases hcl
                | some b => exact (Array.getElem?_eq_some_iff.1 hx).1
              have hp : ops[c]? = some ops[c] := Array.getElem?_eq_getElem hcs
              have := anc_listed h.closed ops.size c _ hp (h.closed c _ hcl hp) i (by simpa using h1)
              rw [getD_false hun] at this; cases this
        · intro hm
          exact anc_listed h.closed ops.size i o ho hr c (by simpa using hm)
      by_cases hcl : listed.getD c false = true
      · rw [if_pos hcl]; rw [if_pos (.inr (hiff.1 hcl))] at hS; exact hS
      · rw [if_neg hcl]; rw [if_neg (fun e => e.elim hic (fun e => hcl (hiff.2 e)))] at hS; exact hS
  refine ⟨by simp [h.size], by rw [put_size, h.sz], by rw [put_def, h.df], ?_, ?_, ?_, ?_, hS'⟩
  · intro k hk
    have hne : o.dst ≠ some k := hk i o (by simp [h.size, hi]) ho
    rw [put_off _ _ _ _ hne]
    exact h.off k (fun j p hj hp => hk j p (getD_set_true hj) hp)
  · intro j p d hj hp hd
    by_cases e : j = i
    · subst e
      rw [ho] at hp
      obtain rfl : o = p := by simpa using hp
      rw [hd, put_at _ _ _ (by rw [h.sz]; exact lt d hd), upd_same]
    · have hj' := (getD_sets hj).resolve_left e
      rw [put_off _ _ _ _ (fun hod => e (uniq j p d hp hd hod)), upd_ne _ _ e]
      exact h.on j p d hj' hp hd
  · intro j p hj hp e he hb
    rcases getD_sets hj with rfl | hj'
    · rw [ho] at hp
      obtain rfl : o = p := by simpa using hp
      exact getD_set_true (hr e he hb)
    · exact getD_set_true (h.closed j p hj' hp e he hb)
  · intro j hj hlive
    rcases getD_sets hj with rfl | hj'
    · exact hΦ
    · have hji : j ≠ i := by rintro rfl; rw [getD_false hun] at hj'; cases hj'
      have hjs : j < ops.size := by
        rw [← h.size]
        simp only [Array.getD_eq_getD_getElem?] at hj'
        cases hx : listed[j]? with
        | none => rw [hx] at hj'; cases hj'
        | some b => exact (Array.getElem?_eq_some_iff.1 hx).1
      have hp : ops[j]? = some ops[j] := Array.getElem?_eq_getElem hjs
      have ancl : ∀ k ∈ anc ops ops.size j, listed.getD k false = true := anc_listed h.closed ops.size j _ hp (h.closed j _ hj' hp)
      have hbefore : j ∈ fin ∨ ∃ k, k < ops.size ∧ listed.getD k false = false ∧ j ∈ D k := by
        rcases hlive with hf | ⟨k, hk, hkl, hkD⟩
        · exact .inl hf
        · refine .inr ⟨k, hk, ?_, hkD⟩
          cases hc : listed.getD k false with
          | false => rfl
          | true => rw [getD_set_true hc] at hkl; cases hkl
      have hmem : j ∈ live i := by
        unfold liveB at hL
        simp only [List.all_eq_true, List.mem_range] at hL
        have h1 := hL i hi j hjs
        simp only [Bool.or_eq_true, Bool.not_eq_true', Bool.or_eq_false_iff] at h1
        rcases h1 with ((h1 | h1) | h1) | ⟨h1, h2⟩
        · exact absurd (by simpa using h1) hji
        · have := ancl i (by simpa using h1)
          rw [getD_false hun] at this; cases this
        · simpa using h1
        · exfalso
          rcases hlive with hf | ⟨k, hk, hkl, hkD⟩
          · simp [hf] at h1
          · rw [List.any_eq_false] at h2
            have h3 := h2 k (by simpa using hk)
            have hki : k ≠ i := by rintro rfl; simp [h.size, hi] at hkl
            have hka : k ∉ anc ops ops.size i := fun hm => by
              have := anc_listed h.closed ops.size i o ho hr k hm
              rw [getD_set_true this] at hkl; cases hkl
            simp [hki, hka, hkD] at h3
      refine hlo j f _ w' ?_ (hg j hmem (h.fact j hj' hbefore))
      intro k hk
      have hkl : listed.getD k false = true := by
        rcases hk with rfl | hk
        · exact hj'
        · have h1 := hall j hjs
          rw [hp] at h1
          simp only [Bool.and_eq_true, List.all_eq_true] at h1
          exact ancl k (by simpa using h1.1.1.2 k hk)
      rw [upd_ne]
      rintro rfl
      rw [getD_false hun] at hkl; cases hkl

theorem free_sound (hB : freeB a0.tmps.size ops D W = true) (hQ : ∀ c a a' w, a.defers = a'.defers → Q (.panic c) a w → Q (.panic c) a' w)
    (hL : liveB ops D fin live = true) (hC : closeB ops c = true) (hlo : ∀ i f f' w, (∀ j, j = i ∨ j ∈ D i → f j = f' j) → Φ i f w → Φ i f' w)
    (hstep : ∀ i o, ops[i]? = some o → FreeStep P ops Q SA SB c Φ D W live a0 i o) (hfin : ∀ i ∈ fin, i < ops.size) (hdone : ∀ f w, (if c < ops.size then SB w else SA w) → (∀ i ∈ fin, Φ i f w) → Q .normal (putAll f [] 0 ops.toList a0) w) :
    ∀ (fuel : Nat) (listed : Array Bool) (a : Act) (w : World) (f : Nat → Value), left ops listed ≤ fuel → At ops a0 SA SB c Φ D fin listed a w f → wpAny P .any ops Q fuel listed a w := by
  have hB' := hB
  simp only [freeB, Bool.and_eq_true, List.all_eq_true, List.mem_range] at hB'
  obtain ⟨⟨hns, hds⟩, hall⟩ := hB'
  have fin : ∀ (listed : Array Bool) (a : Act) (w : World) (f : Nat → Value), At ops a0 SA SB c Φ D fin listed a w f → Region.ready .any ops listed = [] → Q .normal a w := by
    intro listed a w f h hr
    have all : ∀ m i, i < m → i < ops.size → listed.getD i false = true := by
      intro m
      induction m with
      | zero => intro i hi; omega
      | succ m ih =>
        intro i him hi
        by_cases e : i < m
        · exact ih i e hi
        · obtain rfl : i = m := by omega
          cases hl : listed.getD i false with
          | true => rfl
          | false =>
            exfalso
            have ho : ops[i]? = some ops[i] := Array.getElem?_eq_getElem hi
            have h1 := hall i hi
            rw [ho] at h1
            simp only [Bool.and_eq_true, List.all_eq_true, Array.mem_toList_iff, Bool.or_eq_true, Bool.not_eq_true', decide_eq_true_eq] at h1
            have hm : i ∈ Region.ready .any ops listed := mem_ready.2 ⟨by
              have : i < listed.size := by rw [h.size]; exact hi
              simp [this] at hl ⊢; exact hl, ops[i], ho, fun e he hb => by
              have hlt := (h1.1.1.1 e he).resolve_left (by rw [hb]; decide)
              exact ih e.on hlt (by omega)⟩
            rw [hr] at hm; cases hm
    have ea : a = putAll f [] 0 ops.toList a0 := by
      have ht : a.tmps = (putAll f [] 0 ops.toList a0).tmps := by
        apply Array.ext_getElem?
        intro k
        by_cases hex : ∃ (j : Nat) (p : Oper), ops[j]? = some p ∧ p.dst = some k
        · obtain ⟨j, p, hp, hd⟩ := hex
          have hj := (Array.getElem?_eq_some_iff.1 hp).1
          rw [h.on j p k (all (j + 1) j (by omega) hj) hp hd, putAll_on f [] k ops.toList 0 a0 j p hds (by simpa using hp) hd (by simp)]
          simp
        · rw [h.off k (fun j p _ hp hd => hex ⟨j, p, hp, hd⟩), putAll_off f [] k ops.toList 0 a0 (fun j p hp hd => (hex ⟨j, p, by simpa using hp, hd⟩).elim)]
      have hd : a.defers = (putAll f [] 0 ops.toList a0).defers := by rw [h.df, putAll_def]
      obtain ⟨t1, d1⟩ := a
      generalize putAll f [] 0 ops.toList a0 = b at ht hd ⊢
      obtain ⟨t2, d2⟩ := b
      simp only at ht hd
      rw [ht, hd]
    rw [ea]
    have hSf : if c < ops.size then SB w else SA w := by
      have := h.S
      by_cases hcs : c < ops.size
      · rw [if_pos hcs]; rw [if_pos (all (c + 1) c (by omega) hcs)] at this; exact this
      · rw [if_neg hcs]
        rw [if_neg (by rw [← h.size] at hcs; simp [Array.getElem?_eq_none (Nat.not_lt.1 hcs)])] at this; exact this
    exact hdone f w hSf (fun i hi => h.fact i (all (i + 1) i (by omega) (hfin i hi)) (.inl hi))
  intro fuel
  induction fuel with
  | zero =>
    intro listed a w f hl h
    have hr : Region.ready .any ops listed = [] := by
      cases hc : Region.ready .any ops listed with
      | nil => rfl
      | cons i r =>
        exfalso
        have hm : i ∈ Region.ready .any ops listed := by rw [hc]; simp
        obtain ⟨hun, o, ho, _⟩ := mem_ready.1 hm
        have := left_set h.size (Array.getElem?_eq_some_iff.1 ho).1 hun
        omega
    exact ⟨hr, fin listed a w f h hr⟩
  | succ fuel ih =>
    intro listed a w f hl h
    refine ⟨fin listed a w f h, fun i hi => ?_⟩
    obtain ⟨hun, o, ho, hr⟩ := mem_ready.1 hi
    obtain ⟨hD, hag⟩ := free_agree hB h ho hun hr
    have hlt := left_set h.size (Array.getElem?_eq_some_iff.1 ho).1 hun
    have hsel : ∀ cs b, o.op ≠ .select cs b := fun cs b => Region.noSelect_spec hns i o cs b ho
    have hex : execOp a.eval o = execOp (putAll f (W i) 0 ops.toList a0).eval o := execOp_congr o hsel fun x hx => by
      cases x with
      | tmp t =>
        have := hag t (List.mem_append_left _ (List.mem_filterMap.2 ⟨.tmp t, by simpa using hx, rfl⟩))
        simp [Act.eval, this]
      | _ => rfl
    have hwt : Region.wanted o (yielded ops a.tmps) = Region.wanted o (yielded ops (putAll f (W i) 0 ops.toList a0).tmps) := by
      unfold Region.wanted
      cases hgd : o.guard with
      | none => rfl
      | some gw =>
        obtain ⟨g, want⟩ := gw
        have hy : yielded ops a.tmps g = yielded ops (putAll f (W i) 0 ops.toList a0).tmps g := by
          unfold yielded
          cases ht : (ops[g]?).bind (·.dst) with
          | none => rfl
          | some t =>
            have := hag t (by simp [Oper.looksAt, hgd, ht])
            simp only [Option.bind_some, this]
        simp only [hy]
    have go : ∀ v u w', (putAll f (W i) 0 ops.toList a0).put o.dst u = (putAll f (W i) 0 ops.toList a0).put o.dst v → (if i = c ∨ (anc ops ops.size i).contains c = true then SB w' else SA w') → (∀ j ∈ live i, Φ j f w → Φ j f w') → Φ i (upd f i v) w' → wpAny P .any ops Q fuel (listed.setIfInBounds i true) (a.put o.dst u) w' := by
      intro v u w' e hS hg hΦ
      have hau : a.put o.dst u = a.put o.dst v := by
        cases hd : o.dst with
        | none => rfl
        | some d =>
          rw [hd] at e
          have lt : d < (putAll f (W i) 0 ops.toList a0).tmps.size := by
            have h1 := putAll_on f [] d ops.toList 0 a0 i o hds (by simpa using ho) hd (by simp)
            have := (Array.getElem?_eq_some_iff.1 h1).1
            rw [putAll_size] at this ⊢
            exact this
          have e1 := put_at (putAll f (W i) 0 ops.toList a0) d u lt
          rw [e, put_at _ _ _ lt] at e1
          simp only [Option.some.injEq] at e1
          rw [e1]
      exact ih _ _ _ _ (by omega) (free_next hB hL hC hlo h ho hun hr hau hS hg hΦ)
    have hpre : if (anc ops ops.size i).contains c = true then SB w else SA w := by
      have := h.S
      by_cases hm : (anc ops ops.size i).contains c = true
      · rw [if_pos hm]
        rw [if_pos (anc_listed h.closed ops.size i o ho hr c (by simpa using hm))] at this
        exact this
      · rw [if_neg hm]
        by_cases hcl : listed.getD c false = true
        · exfalso
          unfold closeB at hC
          simp only [Bool.or_eq_true, decide_eq_true_eq, List.all_eq_true, List.mem_range] at hC
          rcases hC with hC | hC
          · rw [← h.size] at hC
            simp [Array.getElem?_eq_none hC] at hcl
          · rcases hC i (Array.getElem?_eq_some_iff.1 ho).1 with (h1 | h1) | h1
            · obtain rfl : i = c := by simpa using h1
              rw [getD_false hun] at hcl; cases hcl
            · exact hm h1
            · have hcs : c < ops.size := by
                rw [← h.size]
                simp only [Array.getD_eq_getD_getElem?] at hcl
                cases hx : listed[c]? with
                | none => rw [hx] at hcl; cases hcl
                | some b => exact (Array.getElem?_eq_some_iff.1 hx).1
              have hp : ops[c]? = some ops[c] := Array.getElem?_eq_getElem hcs
              have := anc_listed h.closed ops.size c _ hp (h.closed c _ hcl hp) i (by simpa using h1)
              rw [getD_false hun] at this; cases this
        · rw [if_neg hcl] at this; exact this
    have hs := hstep i o ho f w hpre (fun j hj => h.fact j (hD j hj) (.inr ⟨i, (Array.getElem?_eq_some_iff.1 ho).1, getD_false hun, hj⟩)) (fun a' w' => ∃ v, a' = (putAll f (W i) 0 ops.toList a0).put o.dst v ∧ (if i = c ∨ (anc ops ops.size i).contains c = true then SB w' else SA w') ∧ (∀ j ∈ live i, Φ j f w → Φ j f w') ∧ Φ i (upd f i v) w') (fun v w' h1 h2 h3 => ⟨v, rfl, h1, h2, h3⟩)
    unfold wpOp
    simp only [ho]
    rw [hwt]
    split
    · rename_i hw
      rw [if_pos hw] at hs
      refine .inl ?_
      unfold Oper.wp at *
      rw [hex]
      have hpan : ∀ c w', Q (.panic c) (putAll f (W i) 0 ops.toList a0) w' → Q (.panic c) a w' := fun c w' => hQ c _ a w' (by rw [putAll_def, h.df])
      generalize (execOp (putAll f (W i) 0 ops.toList a0).eval o).run P w = r at *
      cases r with
      | ok n w' =>
        cases n <;> simp only [Oper.upon] at hs ⊢
        case value u => obtain ⟨v, e, h1, h2, h3⟩ := hs; exact go v u w' e h1 h2 h3
        case skip => obtain ⟨v, e, h1, h2, h3⟩ := hs; exact go v undef w' e h1 h2 h3
        case defer d =>
          exfalso
          obtain ⟨v, e, _⟩ := hs
          have := congrArg Act.defers e
          rw [put_def, put_def] at this
          exact absurd (congrArg List.length this) (by simp)
        case enter g args =>
          refine Calls.mono hs fun e w'' he => ?_
          cases e with
          | returned u => obtain ⟨v, e, h1, h2, h3⟩ := he; exact go v u w'' e h1 h2 h3
          | panicked c => exact hpan _ _ he
          | outgrown => exact he
        case row row args => exact Rows.mono hs fun u w'' ⟨v, e, h1, h2, h3⟩ => go v u w'' e h1 h2 h3
      | halt x w' =>
        cases x <;> simp only [Oper.upon] at hs ⊢
        case panic u => exact hpan _ _ hs
    · rename_i hw
      rw [if_neg hw] at hs
      obtain ⟨v, e, h1, h2, h3⟩ := hs
      exact go v undef w e h1 h2 h3

/-- A goal that no tactic looks into till it is opened. -/
structure Box (p : Prop) : Prop where
  out : p
/-- Number i by itself. -/
def EachStep (P : Program) (Q : Exit → Act → World → Prop) (pre post : Nat → World → Prop) (Φ : Nat → Value → World → Prop) (D W live : Nat → List Nat) (a0 : Act) (l : List Oper) (i : Nat) (o : Oper) : Prop :=
  ∀ f w, pre i w → (∀ k ∈ D i, Φ k (f k) w) → ∀ K : Act → World → Prop, (∀ v w', post i w' → (∀ k ∈ live i, Φ k (f k) w → Φ k (f k) w') → Φ i v w' → K ((putAll f (W i) 0 l a0).put o.dst v) w') →
      Box (if Region.wanted o (yielded l.toArray (putAll f (W i) 0 l a0).tmps) = true then Oper.wp P o (putAll f (W i) 0 l a0) w K Q else K ((putAll f (W i) 0 l a0).put o.dst undef) w)
def EachSteps (P : Program) (Q : Exit → Act → World → Prop) (pre post : Nat → World → Prop) (Φ : Nat → Value → World → Prop) (D W live : Nat → List Nat) (a0 : Act) (l : List Oper) (i : Nat) (r : List Oper) : Prop := ∀ j o, r[j]? = some o → EachStep P Q pre post Φ D W live a0 l (i + j) o
/-- What pre and post must be. -/
def phaseB (ops : Array Oper) (c : Nat) (isB : Nat → Bool) : Bool := (List.range ops.size).all fun i => isB i == (anc ops ops.size i).contains c
/-- A region that draws its order, each operation once; of each operation's value is told what it is by itself; SA holds till number c has come up, SB from then on. -/
theorem wp_region_each {id : Nat} {w : World} {l : List Oper} (SA SB : World → Prop) (c : Nat) (isB : Nat → Bool) (Φ : Nat → Value → World → Prop) (D W : Nat → List Nat) (fin : List Nat) (live : Nat → List Nat) (hm : P.follows .mixedOrders = true) (hB : freeB a0.tmps.size l.toArray D W = true) (hL : liveB l.toArray D fin live = true) (hC : closeB l.toArray c = true) (hP : phaseB l.toArray c isB = true) (hcl : c < l.length)
    (hfin : ∀ i ∈ fin, i < l.length) (hQ : ∀ c a a' w, a.defers = a'.defers → Q (.panic c) a w → Q (.panic c) a' w) (hS : SA w.drew)
    (hdone : ∀ f w, SB w → (∀ i ∈ fin, Φ i (f i) w) → Q .normal (putAll f [] 0 l a0) w)
    (hstep : EachSteps P Q (fun i w => if isB i = true then SB w else SA w) (fun i w => if i = c ∨ isB i = true then SB w else SA w) Φ D W live a0 l 0 l) : (Code.region id l.toArray true).wp P Q a0 w := by
  refine wp_region_any hm ?_
  refine free_sound (SA := SA) (SB := SB) (c := c) (Φ := fun i f w => Φ i (f i) w) (D := D) (W := W) (fin := fin) (live := live) (a0 := a0) hB hQ hL hC (fun i f f' w h hΦ => ?_) (fun i o ho => ?_) (by simpa using hfin) (fun f w h1 h2 => by rw [if_pos (by simpa using hcl)] at h1; simpa using hdone f w h1 h2) _ _ _ _ (fun _ => undef) ?_ ?_
  · have := h i (.inl rfl)
    rw [← this]; exact hΦ
  · have hs := hstep i o (by simpa using ho)
    rw [Nat.zero_add] at hs
    have he : isB i = (anc l.toArray l.toArray.size i).contains c := by
      unfold phaseB at hP
      simp only [List.all_eq_true, List.mem_range] at hP
      simpa using hP i (Array.getElem?_eq_some_iff.1 ho).1
    intro f w h1 h2 K hK
    rw [← he] at h1
    simp only [← he] at hK
    exact (hs f w h1 h2 K (fun v w' a b c => hK v w' a b (by simp only [upd_same]; exact c))).out
  · unfold left
    exact Nat.le_trans List.countP_le_length (by simp)
  · refine ⟨by simp, rfl, rfl, fun _ _ => rfl, ?_, ?_, ?_, ?_⟩
    · intro i o d hi; simp [Array.getElem?_replicate] at hi; split at hi <;> simp at hi
    · intro i o hi; simp [Array.getElem?_replicate] at hi; split at hi <;> simp at hi
    · intro i hi; simp [Array.getElem?_replicate] at hi; split at hi <;> simp at hi
    · rw [if_neg (by simp [Array.getElem?_replicate]; split <;> simp)]; exact hS
/-- The steps are shown one by one. -/
theorem EachSteps.nil {pre post : Nat → World → Prop} {Φ : Nat → Value → World → Prop} {l : List Oper} {i : Nat} : EachSteps P Q pre post Φ D W live a0 l i [] := fun j o h => by simp at h
theorem EachSteps.cons {pre post : Nat → World → Prop} {Φ : Nat → Value → World → Prop} {l : List Oper} {i : Nat} {o : Oper} {r : List Oper} (h : EachStep P Q pre post Φ D W live a0 l i o) (hr : EachSteps P Q pre post Φ D W live a0 l (i + 1) r) : EachSteps P Q pre post Φ D W live a0 l i (o :: r) := fun j p hp => by
  cases j with
  | zero => simp at hp; subst hp; exact h
  | succ j => rw [show i + (j + 1) = i + 1 + j by omega]; exact hr j p (by simpa using hp)
end
end Go.Proofs.YtahfaeamjbcepaaGreatDoor
