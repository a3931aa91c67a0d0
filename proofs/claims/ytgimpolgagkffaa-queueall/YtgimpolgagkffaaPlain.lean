/- Heaps and sorted lists of entries, as plain facts. Of no program; no condition. -/
import Derived.WalkKit
namespace Go.Proofs.Ytgimpolgagkffaa

/-- An entry: a weight, a number, a turn. -/
structure En where
  wt : Int
  num : Int
  turn : Nat
deriving Inhabited, DecidableEq

def before (x y : En) : Bool := if x.wt = y.wt then decide (x.turn < y.turn) else decide (x.wt < y.wt)

theorem before_iff (x y : En) : before x y = true ↔ x.wt < y.wt ∨ (x.wt = y.wt ∧ x.turn < y.turn) := by
  unfold before; split <;> simp <;> omega
theorem before_not (x y : En) : before x y = false ↔ y.wt < x.wt ∨ (x.wt = y.wt ∧ y.turn ≤ x.turn) := by
  unfold before; split <;> simp <;> omega
theorem before_asymm {x y : En} (h : before x y = true) : before y x = false := by
  rw [before_iff] at h; rw [before_not]; omega
theorem not_before_trans {x y z : En} (h : before x y = false) (k : before y z = false) : before x z = false := by
  rw [before_not] at *; omega
theorem before_trans {x y z : En} (h : before x y = true) (k : before y z = true) : before x z = true := by
  rw [before_iff] at *; omega
theorem not_before_self (x : En) : before x x = false := by rw [before_not]; omega

/-- The i-th. -/
def nth (L : List En) (i : Nat) : En := L.getD i default

theorem nth_get {L : List En} {i : Nat} (h : i < L.length) : L[i]? = some (nth L i) := by
  unfold nth; rw [List.getD_eq_getElem?_getD, List.getElem?_eq_getElem h]; rfl
theorem nth_of {L : List En} {i : Nat} {x : En} (h : L[i]? = some x) : nth L i = x := by
  unfold nth; rw [List.getD_eq_getElem?_getD, h]; rfl
theorem nth_mem {L : List En} {i : Nat} (h : i < L.length) : nth L i ∈ L := List.mem_of_getElem? (nth_get h)
theorem mem_nth {L : List En} {x : En} (h : x ∈ L) : ∃ i, i < L.length ∧ nth L i = x := by
  obtain ⟨i, hi⟩ := List.mem_iff_getElem?.1 h
  exact ⟨i, (List.getElem?_eq_some_iff.1 hi).1, nth_of hi⟩

/-- Two change places. -/
def swp (L : List En) (i j : Nat) : List En := (L.set i (nth L j)).set j (nth L i)

theorem swp_length (L : List En) (i j : Nat) : (swp L i j).length = L.length := by simp [swp]

theorem nth_swp {L : List En} {i j : Nat} (hi : i < L.length) (hj : j < L.length) (k : Nat) : nth (swp L i j) k = if k = j then nth L i else if k = i then nth L j else nth L k := by
  unfold swp
  by_cases h1 : k = j
  · subst h1; rw [if_pos rfl]; exact nth_of (by rw [List.getElem?_set_self (by simpa using hj)])
  · rw [if_neg h1]
    by_cases h2 : k = i
    · subst h2; rw [if_pos rfl]; exact nth_of (by rw [List.getElem?_set_ne (by omega), List.getElem?_set_self hi])
    · rw [if_neg h2]; unfold nth; rw [List.getD_eq_getElem?_getD, List.getElem?_set_ne (by omega), List.getElem?_set_ne (by omega), List.getD_eq_getElem?_getD]

theorem swp_perm {L : List En} {i j : Nat} (hi : i < L.length) (hj : j < L.length) : (swp L i j).Perm L := by
  have h := Array.swap_perm (xs := L.toArray) (i := i) (j := j) (by simpa using hi) (by simpa using hj)
  have e : (L.toArray.swap i j (by simpa using hi) (by simpa using hj)).toList = swp L i j := by
    unfold swp
    rw [nth_of (List.getElem?_eq_getElem hi), nth_of (List.getElem?_eq_getElem hj)]
    simp [Array.swap_def]
  have := h.toList
  rw [e] at this
  simpa using this

/-- Those from place i0 on are held by their parents, in the first n. -/
def HeapFrom (L : List En) (n i0 : Nat) : Prop := ∀ k, 0 < k → k < n → i0 ≤ (k - 1) / 2 → before (nth L k) (nth L ((k - 1) / 2)) = false

/-- All but the one at j, which may go up. -/
structure UpOk (L : List En) (j : Nat) : Prop where
  rest : ∀ k, 0 < k → k < L.length → k ≠ j → before (nth L k) (nth L ((k - 1) / 2)) = false
  kids : 0 < j → ∀ k, 0 < k → k < L.length → (k - 1) / 2 = j → before (nth L k) (nth L ((j - 1) / 2)) = false

theorem UpOk.done {L : List En} {j : Nat} (h : UpOk L j) (hd : j = 0 ∨ before (nth L j) (nth L ((j - 1) / 2)) = false) : HeapFrom L L.length 0 := fun k h0 h1 _ => by
  by_cases e : k = j
  · subst e; rcases hd with hd | hd
    · omega
    · exact hd
  · exact h.rest k h0 h1 e

theorem UpOk.step {L : List En} {j : Nat} (h : UpOk L j) (hj : 0 < j) (hl : j < L.length) (hb : before (nth L j) (nth L ((j - 1) / 2)) = true) : UpOk (swp L ((j - 1) / 2) j) ((j - 1) / 2) := by
  have hp : (j - 1) / 2 < L.length := by omega
  refine ⟨fun k h0 h1 hk => ?_, fun hpj k h0 h1 hk => ?_⟩
  · rw [swp_length] at h1
    rw [nth_swp hp hl, nth_swp hp hl]
    by_cases e1 : k = j
    · subst e1
      rw [if_pos rfl, if_neg (by omega), if_pos rfl]
      exact before_asymm hb
    · rw [if_neg e1, if_neg hk]
      by_cases e2 : (k - 1) / 2 = j
      · rw [if_pos e2]; exact h.kids hj k h0 h1 e2
      · rw [if_neg e2]
        by_cases e3 : (k - 1) / 2 = (j - 1) / 2
        · rw [if_pos e3]
          have := h.rest k h0 h1 e1
          rw [e3] at this
          exact not_before_trans this (before_asymm hb)
        · rw [if_neg e3]; exact h.rest k h0 h1 e1
  · rw [swp_length] at h1
    rw [nth_swp hp hl, nth_swp hp hl]
    have h5 := h.rest ((j - 1) / 2) hpj hp (by omega)
    rw [if_neg (show ((j - 1) / 2 - 1) / 2 ≠ j by omega), if_neg (show ((j - 1) / 2 - 1) / 2 ≠ (j - 1) / 2 by omega)]
    by_cases e1 : k = j
    · subst e1
      rw [if_pos rfl]; exact h5
    · rw [if_neg e1, if_neg (by omega)]
      have := h.rest k h0 h1 e1
      rw [hk] at this
      exact not_before_trans this h5

theorem UpOk.start {L : List En} {x : En} (h : HeapFrom L L.length 0) : UpOk (L ++ [x]) L.length := by
  have hn : ∀ k, k < L.length → nth (L ++ [x]) k = nth L k := fun k hk => nth_of (by rw [List.getElem?_append_left hk]; exact nth_get hk)
  refine ⟨fun k h0 h1 hk => ?_, fun _ k h0 h1 hk => ?_⟩
  · simp at h1
    rw [hn k (by omega), hn _ (by omega)]
    exact h k h0 (by omega) (Nat.zero_le _)
  · simp at h1; omega

/-- All but the one at i, which may go down, in the first n, from i0 on. -/
structure DnOk (L : List En) (n i0 i : Nat) : Prop where
  rest : ∀ k, 0 < k → k < n → i0 ≤ (k - 1) / 2 → (k - 1) / 2 ≠ i → before (nth L k) (nth L ((k - 1) / 2)) = false
  kids : 0 < i → i0 ≤ (i - 1) / 2 → ∀ k, 0 < k → k < n → (k - 1) / 2 = i → before (nth L k) (nth L ((i - 1) / 2)) = false

theorem DnOk.done {L : List En} {n i0 i : Nat} (h : DnOk L n i0 i) (hd : ∀ k, 0 < k → k < n → (k - 1) / 2 = i → before (nth L k) (nth L i) = false) : HeapFrom L n i0 := fun k h0 h1 h2 => by
  by_cases e : (k - 1) / 2 = i
  · rw [e]; exact hd k h0 h1 e
  · exact h.rest k h0 h1 h2 e

/-- The one at i changes with its kid j, which is no later than the other kid. -/
theorem DnOk.step {L : List En} {n i0 i j : Nat} (h : DnOk L n i0 i) (h0i : i0 ≤ i) (hn : n ≤ L.length) (hj : 0 < j) (hjn : j < n) (hp : (j - 1) / 2 = i) (hb : before (nth L j) (nth L i) = true)
    (hs : ∀ k, 0 < k → k < n → (k - 1) / 2 = i → before (nth L k) (nth L j) = false) : DnOk (swp L i j) n i0 j := by
  have hil : i < L.length := by omega
  have hjl : j < L.length := by omega
  refine ⟨fun k h0 h1 h2 hk => ?_, fun _ h2 k h0 h1 hk => ?_⟩
  · rw [nth_swp hil hjl, nth_swp hil hjl]
    rw [if_neg (show (k - 1) / 2 ≠ j from hk)]
    by_cases e1 : k = j
    · subst e1
      rw [if_pos rfl, if_pos hp]
      exact before_asymm hb
    · rw [if_neg e1]
      by_cases e2 : k = i
      · subst e2
        rw [if_pos rfl, if_neg (by omega)]
        exact h.kids h0 h2 j hj hjn hp
      · rw [if_neg e2]
        by_cases e3 : (k - 1) / 2 = i
        · rw [if_pos e3]; exact hs k h0 h1 e3
        · rw [if_neg e3]; exact h.rest k h0 h1 h2 e3
  · rw [nth_swp hil hjl, nth_swp hil hjl]
    rw [if_neg (show k ≠ j by omega), if_neg (show k ≠ i by omega), if_neg (show (j - 1) / 2 ≠ j by omega), if_pos hp]
    have := h.rest k h0 h1 (by omega) (by omega)
    rwa [hk] at this

theorem HeapFrom.zero_min {L : List En} {n : Nat} (h : HeapFrom L n 0) : ∀ k, k < n → before (nth L k) (nth L 0) = false := by
  intro k
  induction k using Nat.strongRecOn with
  | _ k ih =>
    intro hk
    by_cases h0 : k = 0
    · subst h0; exact not_before_self _
    · exact not_before_trans (h k (by omega) hk (Nat.zero_le _)) (ih ((k - 1) / 2) (by omega) (by omega))

/-! Sorted lists. -/
def Srt (S : List En) : Prop := S.Pairwise (fun x y => before x y = true)

def ins (x : En) : List En → List En
  | [] => [x]
  | y :: r => if before x y = true then x :: y :: r else y :: ins x r

theorem ins_perm (x : En) (S : List En) : (ins x S).Perm (x :: S) := by
  induction S with
  | nil => exact List.Perm.refl _
  | cons y r ih =>
    unfold ins; split
    · exact List.Perm.refl _
    · exact (ih.cons y).trans (List.Perm.swap x y r)

theorem ins_mem {x y : En} {S : List En} : y ∈ ins x S ↔ y = x ∨ y ∈ S := by rw [(ins_perm x S).mem_iff]; simp

theorem ins_srt {x : En} {S : List En} (h : Srt S) (hn : ∀ y ∈ S, y.turn < x.turn) : Srt (ins x S) := by
  induction S with
  | nil => exact List.pairwise_singleton _ _
  | cons y r ih =>
    have h' := List.pairwise_cons.1 h
    unfold ins; split
    · rename_i hb
      refine List.pairwise_cons.2 ⟨fun z hz => ?_, h⟩
      rcases List.mem_cons.1 hz with rfl | hz
      · exact hb
      · exact before_trans hb (h'.1 z hz)
    · rename_i hb
      refine List.pairwise_cons.2 ⟨fun z hz => ?_, ih h'.2 (fun z hz => hn z (by simp [hz]))⟩
      rcases ins_mem.1 hz with rfl | hz
      · have := hn y (by simp)
        simp only [Bool.not_eq_true] at hb
        rw [before_not] at hb
        rw [before_iff]; omega
      · exact h'.1 z hz

theorem ins_filter {x : En} {p : En → Bool} (hp : p x = false) (S : List En) : (ins x S).filter p = S.filter p := by
  induction S with
  | nil => simp [ins, hp]
  | cons y r ih =>
    unfold ins; split
    · rw [List.filter_cons, hp]; rfl
    · rw [List.filter_cons, List.filter_cons, ih]

theorem Srt.filter {S : List En} (h : Srt S) (p : En → Bool) : Srt (S.filter p) := List.Pairwise.filter _ h

/-- What lies as a heap and is, sorted, s first: s lies first. -/
theorem first_least {L S : List En} {s : En} (hH : HeapFrom L L.length 0) (hp : L.Perm (s :: S)) (hs : Srt (s :: S)) : nth L 0 = s := by
  have hl := hp.length_eq
  have h0 : 0 < L.length := by rw [hl]; simp
  have hm : nth L 0 ∈ s :: S := hp.mem_iff.1 (nth_mem h0)
  rcases List.mem_cons.1 hm with h | h
  · exact h
  · have h1 := (List.pairwise_cons.1 hs).1 _ h
    obtain ⟨k, hk, e⟩ := mem_nth (hp.mem_iff.2 (List.mem_cons_self (a := s) (l := S)))
    have := hH.zero_min k hk
    rw [e, h1] at this
    cases this

theorem HeapFrom.congr {L L' : List En} {n i0 : Nat} (h : HeapFrom L n i0) (he : ∀ k, k < n → nth L' k = nth L k) : HeapFrom L' n i0 := fun k h0 h1 h2 => by
  rw [he k h1, he _ (by omega)]; exact h k h0 h1 h2

/-- What down leaves: the first n in order, what is behind as it was. -/
theorem DnOk.pop {L : List En} (hH : HeapFrom L L.length 0) (h0 : 0 < L.length) : DnOk (swp L 0 (L.length - 1)) (L.length - 1) 0 0 := by
  refine ⟨fun k k0 k1 _ k3 => ?_, fun h => by omega⟩
  rw [nth_swp h0 (by omega), nth_swp h0 (by omega), if_neg (by omega), if_neg (by omega), if_neg (by omega), if_neg (by omega)]
  exact hH k k0 (by omega) (Nat.zero_le _)

end Go.Proofs.Ytgimpolgagkffaa
