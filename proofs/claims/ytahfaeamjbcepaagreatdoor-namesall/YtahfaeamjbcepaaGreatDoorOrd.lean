/- Plain facts on texts as lists of bytes, of no program: their order, what sorting and striking neighbours makes of a list of them, and what halving finds in a rising one. No condition. -/
import Derived.Lib.Bytealg
import Derived.Lib.SlicesCompact
import Derived.Shelf.Spec.SearchS
import Derived.Shelf.SlSortCmp.Insertion
import Derived.Sort.Walk0
namespace Go.Proofs.YtahfaeamjbcepaaGreatDoor

theorem cmp_lt : ∀ x y : List UInt8, (Lib.compareBytes x y < 0) ↔ x < y
  | [], [] => by simp [Lib.compareBytes]
  | [], _ :: _ => by simp [Lib.compareBytes]
  | _ :: _, [] => by simp [Lib.compareBytes]
  | a :: x, b :: y => by
    have ih := cmp_lt x y
    simp only [Lib.compareBytes, List.cons_lt_cons_iff]
    by_cases h1 : a < b
    · simp [h1]
    · by_cases h2 : b < a
      · have h3 : a ≠ b := fun e => by subst e; exact absurd h2 (UInt8.lt_irrefl _)
        simp [h1, h2, h3]
      · have h3 : a = b := UInt8.le_antisymm (UInt8.not_lt.1 h2) (UInt8.not_lt.1 h1)
        subst h3
        simp [h1, ih]

theorem ltOf_cmp (x y : List UInt8) : ltOf Lib.compareBytes x y = decide (x < y) := by
  unfold ltOf
  exact decide_eq_decide.2 (cmp_lt x y)

theorem swo_cmp : Sort.SWO (ltOf Lib.compareBytes) where
  irrefl x := by rw [ltOf_cmp]; simp [List.lt_irrefl]
  trans x y z h1 h2 := by simp only [ltOf_cmp, decide_eq_true_eq] at *; exact List.lt_trans h1 h2
  ntrans x y z h1 h2 := by
    simp only [ltOf_cmp, decide_eq_false_iff_not, List.not_lt] at *
    exact List.le_trans h2 h1

theorem tot_cmp (x y : List UInt8) (h1 : ltOf Lib.compareBytes x y = false) (h2 : ltOf Lib.compareBytes y x = false) : x = y := by
  simp only [ltOf_cmp, decide_eq_false_iff_not, List.not_lt] at *
  exact List.le_antisymm h2 h1

theorem lt_tri (x y : List UInt8) : x < y ∨ x = y ∨ y < x := by
  by_cases h1 : x < y
  · exact .inl h1
  · by_cases h2 : y < x
    · exact .inr (.inr h2)
    · exact .inr (.inl (List.le_antisymm (List.not_lt.1 h2) (List.not_lt.1 h1)))

/-- A list whose texts rise, each once. -/
def Asc (l : List (List UInt8)) : Prop := l.Pairwise (· < ·)

theorem asc_ext : ∀ (a b : List (List UInt8)), Asc a → Asc b → (∀ x, x ∈ a ↔ x ∈ b) → a = b
  | [], [], _, _, _ => rfl
  | [], y :: b, _, _, h => by have := (h y).2 (by simp); cases this
  | x :: a, [], _, _, h => by have := (h x).1 (by simp); cases this
  | x :: a, y :: b, ha, hb, h => by
    obtain ⟨ha1, ha2⟩ := List.pairwise_cons.1 ha
    obtain ⟨hb1, hb2⟩ := List.pairwise_cons.1 hb
    have hxy : x = y := by
      have h1 := (h x).1 (by simp)
      have h2 := (h y).2 (by simp)
      rcases List.mem_cons.1 h1 with e | m
      · exact e
      · rcases List.mem_cons.1 h2 with e' | m'
        · exact e'.symm
        · exact absurd (ha1 y m') (List.lt_asymm (hb1 x m))
    subst hxy
    have : a = b := asc_ext a b ha2 hb2 (fun z => by
      constructor
      · intro m
        rcases List.mem_cons.1 ((h z).1 (by simp [m])) with e | m'
        · subst e; exact absurd (ha1 z m) (List.lt_irrefl z)
        · exact m'
      · intro m
        rcases List.mem_cons.1 ((h z).2 (by simp [m])) with e | m'
        · subst e; exact absurd (hb1 z m) (List.lt_irrefl z)
        · exact m')
    rw [this]

/-- Striking neighbours that are alike, of a list that does not fall. -/
theorem compact_upto (d : Array (List UInt8)) (hs : ∀ i j, i < j → j < d.size → ¬ d[j]! < d[i]!) : ∀ m, m ≤ d.size →
    Asc (Lib.compactUpTo d m) ∧ (∀ x, x ∈ Lib.compactUpTo d m ↔ ∃ j, j < m ∧ d[j]! = x)
  | 0, _ => by
    constructor
    · simp [Asc, Lib.compactUpTo]
    · intro x; simp [Lib.compactUpTo]
  | m + 1, hm => by
    obtain ⟨h1, h2⟩ := compact_upto d hs m (by omega)
    rw [Lib.compactUpTo_succ]
    by_cases hk : Lib.keeps d m = true
    · rw [if_pos hk]
      constructor
      · refine List.pairwise_append.2 ⟨h1, by simp, fun a ha b hb => ?_⟩
        obtain rfl : b = d[m]! := by simpa using hb
        obtain ⟨j, hj, rfl⟩ := (h2 a).1 ha
        have hkk : m = 0 ∨ d[m]! ≠ d[m - 1]! := by simpa [Lib.keeps] using hk
        have hne : d[m]! ≠ d[m - 1]! := by
          rcases hkk with e | e
          · omega
          · exact e
        have hlt : d[m - 1]! < d[m]! := by
          rcases lt_tri d[m - 1]! d[m]! with e | e | e
          · exact e
          · exact absurd e.symm hne
          · exact absurd e (hs (m - 1) m (by omega) (by omega))
        by_cases hjm : j = m - 1
        · subst hjm; exact hlt
        · exact List.lt_of_le_of_lt (List.not_lt.1 (hs j (m - 1) (by omega) (by omega))) hlt
      · intro x
        simp only [List.mem_append, List.mem_singleton, h2]
        constructor
        · rintro (⟨j, hj, rfl⟩ | rfl)
          · exact ⟨j, by omega, rfl⟩
          · exact ⟨m, by omega, rfl⟩
        · rintro ⟨j, hj, rfl⟩
          by_cases e : j = m
          · subst e; exact .inr rfl
          · exact .inl ⟨j, by omega, rfl⟩
    · rw [if_neg hk, List.append_nil]
      refine ⟨h1, fun x => ?_⟩
      rw [h2]
      have hkk : m ≠ 0 ∧ d[m]! = d[m - 1]! := by simpa [Lib.keeps] using hk
      constructor
      · rintro ⟨j, hj, rfl⟩; exact ⟨j, by omega, rfl⟩
      · rintro ⟨j, hj, rfl⟩
        by_cases e : j = m
        · subst e; exact ⟨j - 1, by omega, hkk.2.symm⟩
        · exact ⟨j, by omega, rfl⟩

/-- What names.Sorted tells: all texts, rising, each once. -/
def srt (ss : List (List UInt8)) : List (List UInt8) := Lib.compact (ss.mergeSort fun x y => !(ltOf Lib.compareBytes) y x)

theorem srt_spec (ss : List (List UInt8)) : Asc (srt ss) ∧ ∀ x, x ∈ srt ss ↔ x ∈ ss := by
  have hp : (ss.mergeSort fun x y => !(ltOf Lib.compareBytes) y x).Pairwise (fun x y => (!(ltOf Lib.compareBytes) y x) = true) :=
    List.pairwise_mergeSort (fun x y z h1 h2 => by
      simp only [ltOf_cmp, Bool.not_eq_true', decide_eq_false_iff_not, List.not_lt] at *
      exact List.le_trans h1 h2) (fun x y => by
      simp only [ltOf_cmp, Bool.or_eq_true, Bool.not_eq_true', decide_eq_false_iff_not, List.not_lt]
      exact List.le_total x y) ss
  have hmem : ∀ x, x ∈ (ss.mergeSort fun x y => !(ltOf Lib.compareBytes) y x) ↔ x ∈ ss := fun x => List.mem_mergeSort
  unfold srt
  generalize (ss.mergeSort fun x y => !(ltOf Lib.compareBytes) y x) = l at hp hmem
  have hs : ∀ i j, i < j → j < l.toArray.size → ¬ l.toArray[j]! < l.toArray[i]! := fun i j hij hj => by
    have hj' : j < l.length := by simpa using hj
    have h := List.pairwise_iff_getElem.1 hp i j (by omega) hj' hij
    rw [getElem!_pos l.toArray j (by simpa using hj'), getElem!_pos l.toArray i (by simp; omega)]
    simpa [ltOf_cmp] using h
  obtain ⟨h1, h2⟩ := compact_upto l.toArray hs l.length (by simp)
  refine ⟨h1, fun x => ?_⟩
  rw [← hmem]
  refine (h2 x).trans ⟨?_, fun m => ?_⟩
  · rintro ⟨j, hj, rfl⟩
    rw [getElem!_pos l.toArray j (by simpa using hj)]
    simp
  · obtain ⟨j, hj, rfl⟩ := List.getElem_of_mem m
    exact ⟨j, hj, by rw [getElem!_pos l.toArray j (by simpa using hj)]; simp⟩

theorem srt_asc (ss : List (List UInt8)) : Asc (srt ss) := (srt_spec ss).1
theorem mem_srt (ss : List (List UInt8)) (x : List UInt8) : x ∈ srt ss ↔ x ∈ ss := (srt_spec ss).2 x
theorem srt_of_asc {l ss : List (List UInt8)} (h : Asc l) (hm : ∀ x, x ∈ l ↔ x ∈ ss) : srt ss = l :=
  asc_ext _ _ (srt_asc ss) h (fun x => (mem_srt ss x).trans (hm x).symm)
theorem srt_self {l : List (List UInt8)} (h : Asc l) : srt l = l := srt_of_asc h (fun _ => Iff.rfl)
theorem srt_length (ss : List (List UInt8)) : (srt ss).length ≤ ss.length := by
  unfold srt Lib.compact Lib.compactUpTo
  rw [List.length_map]
  refine Nat.le_trans (List.length_filter_le _ _) ?_
  simp

theorem asc_get {l : List (List UInt8)} (h : Asc l) {i j : Nat} {x y : List UInt8} (hx : l[i]? = some x) (hy : l[j]? = some y) (hij : i < j) : x < y := by
  obtain ⟨h1, rfl⟩ := List.getElem?_eq_some_iff.1 hx
  obtain ⟨h2, rfl⟩ := List.getElem?_eq_some_iff.1 hy
  exact List.pairwise_iff_getElem.1 h i j h1 h2 hij

/-- The halving, told by what it looks at alone. -/
theorem bs_spec (less : Nat → Bool) (k N : Nat) (h1 : ∀ t, t < k → less t = true) (h2 : ∀ t, k ≤ t → t < N → less t = false) : ∀ (f lo hi : Nat), hi - lo ≤ f → lo ≤ k → k ≤ hi → hi ≤ N → Lib.bsGo less f lo hi = k
  | 0, lo, hi, hf, a, b, _ => by simp [Lib.bsGo]; omega
  | f + 1, lo, hi, hf, a, b, hN => by
    unfold Lib.bsGo
    by_cases h : lo < hi
    · rw [if_pos h]
      by_cases hm : (lo + hi) / 2 < k
      · rw [h1 _ hm, if_pos rfl]; exact bs_spec less k N h1 h2 f _ _ (by omega) (by omega) b hN
      · rw [h2 _ (by omega) (by omega)]; exact bs_spec less k N h1 h2 f _ _ (by omega) a (by omega) (by omega)
    · rw [if_neg h]; omega

theorem bytes_ext {x y : List UInt8} (h : (⟨x.toArray⟩ : ByteArray) = ⟨y.toArray⟩) : x = y := by
  have := congrArg (fun b : ByteArray => b.data.toList) h
  simpa using this

/-- Halving in a rising list finds a text, just if it is there. -/
theorem bs_has {ss : List (List UInt8)} (h : Asc ss) (x : List UInt8) (n : Nat) (hn : ss.length = n) (Sx : Nat → ByteArray) (hS : ∀ (j : Nat) s, ss[j]? = some s → Sx j = ⟨s.toArray⟩) :
    decide (Lib.bsGo (fun t => Op.bytesLess (Sx t).toList (⟨x.toArray⟩ : ByteArray).toList) n 0 n < n ∧ Sx (Lib.bsGo (fun t => Op.bytesLess (Sx t).toList (⟨x.toArray⟩ : ByteArray).toList) n 0 n) = ⟨x.toArray⟩) = decide (x ∈ ss) := by
  subst hn
  let p : List UInt8 → Bool := fun s => decide (s < x)
  have hless : ∀ t s, ss[t]? = some s → (Op.bytesLess (Sx t).toList (⟨x.toArray⟩ : ByteArray).toList) = p s := fun t s hs => by
    rw [hS t s hs, Lib.toList_data, Lib.toList_data, bytesLess_eq]
  let k := (ss.takeWhile p).length
  have hk : k ≤ ss.length := (List.takeWhile_sublist p).length_le
  have hlow : ∀ (t : Nat) s, t < k → ss[t]? = some s → p s = true := fun t s ht hs => by
    have hpre := List.takeWhile_prefix (l := ss) p
    have h3 : (ss.takeWhile p)[t]? = some s := by
      rw [← hs]
      obtain ⟨r, hr⟩ := hpre
      conv => rhs; rw [← hr]
      rw [List.getElem?_append_left ht]
    exact List.all_eq_true.1 (List.all_takeWhile) s (List.mem_of_getElem? h3)
  have hat : ∀ s, ss[k]? = some s → p s = false := fun s hs => by
    have e : ss = ss.takeWhile p ++ ss.dropWhile p := List.takeWhile_append_dropWhile.symm
    have h3 : (ss.dropWhile p)[0]? = some s := by
      rw [← hs]
      conv => rhs; rw [e]
      rw [List.getElem?_append_right (Nat.le_refl _), Nat.sub_self]
    have := List.head?_dropWhile_not p ss
    rw [List.head?_eq_getElem?, h3] at this
    simpa using this
  have hhigh : ∀ (t : Nat) s, k ≤ t → ss[t]? = some s → p s = false := fun t s ht hs => by
    by_cases e : t = k
    · subst e; exact hat s hs
    · have hkl : k < ss.length := by have := (List.getElem?_eq_some_iff.1 hs).1; omega
      have h4 := hat _ (List.getElem?_eq_getElem hkl)
      have h5 := asc_get h (List.getElem?_eq_getElem hkl) hs (by omega)
      simp only [p, decide_eq_false_iff_not] at h4 ⊢
      exact fun h6 => h4 (List.lt_trans h5 h6)
  have hbs : Lib.bsGo (fun t => Op.bytesLess (Sx t).toList (⟨x.toArray⟩ : ByteArray).toList) ss.length 0 ss.length = k := by
    refine bs_spec _ k ss.length (fun t ht => ?_) (fun t ht htn => ?_) _ _ _ (by omega) (by omega) hk (Nat.le_refl _)
    · have hl : t < ss.length := by omega
      exact (hless t _ (List.getElem?_eq_getElem hl)).trans (hlow t _ ht (List.getElem?_eq_getElem hl))
    · exact (hless t _ (List.getElem?_eq_getElem htn)).trans (hhigh t _ ht (List.getElem?_eq_getElem htn))
  rw [hbs]
  refine decide_eq_decide.2 ⟨fun ⟨h6, h7⟩ => ?_, fun h6 => ?_⟩
  · have h8 := hS k _ (List.getElem?_eq_getElem h6)
    rw [h7] at h8
    rw [bytes_ext h8]
    exact List.getElem_mem h6
  · obtain ⟨t, ht, e⟩ := List.getElem_of_mem h6
    have hg : ss[t]? = some x := by rw [List.getElem?_eq_getElem ht, e]
    have htk : t = k := by
      by_cases h9 : t < k
      · have := hlow t x h9 hg
        simp [p, List.lt_irrefl] at this
      · by_cases h10 : t = k
        · exact h10
        · have hkl : k < ss.length := by omega
          have h11 := asc_get h (List.getElem?_eq_getElem hkl) hg (by omega)
          have h12 := hat _ (List.getElem?_eq_getElem hkl)
          simp only [p, decide_eq_false_iff_not] at h12
          exact absurd h11 h12
    subst htk
    exact ⟨ht, hS _ _ hg⟩
end Go.Proofs.YtahfaeamjbcepaaGreatDoor
