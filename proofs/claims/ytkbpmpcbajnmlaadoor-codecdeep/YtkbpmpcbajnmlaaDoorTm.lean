/- Levels as plain trees: which may be, what they are worth, and that few places tell of all. Of no program; no condition. -/
import Derived.WalkKit
import Derived.WalkSpells
import Derived.WalkLawsBesides
import Derived.Below
import Derived.Laws.MakeOwn
import Derived.Laws.AppendOwn
import Derived.RegionTactic
import Derived.Deep.MidRow
import Derived.Deep.QuietTactic
import Derived.BigQuiet
import Derived.RangeFuncNested
import Derived.RangeFuncBound
namespace Go.Proofs.YtkbpmpcbajnmlaaDoor

inductive Lv where
  | mk (k n : Int) (args : List Lv)

/-- A level as it lies in memory, whatever it may be. -/
theorem Lv.ind {P : Lv → Prop} (h : ∀ k n args, (∀ L ∈ args, P L) → P (.mk k n args)) : ∀ L, P L := fun L =>
  Lv.rec (motive_1 := P) (motive_2 := fun l => ∀ L ∈ l, P L) (fun k n args ih => h k n args ih) (fun _ hx => by cases hx)
    (fun _ _ h1 h2 x hx => by rcases List.mem_cons.1 hx with rfl | hx; exact h1; exact h2 x hx) L

mutual

/-- How many parts it has. -/
def Lv.size : Lv → Nat
  | .mk _ _ args => Lv.sizes args + 1

def Lv.sizes : List Lv → Nat
  | [] => 0
  | L :: r => L.size + Lv.sizes r

end

theorem Lv.size_mk (k n : Int) (args : List Lv) : (Lv.mk k n args).size = Lv.sizes args + 1 := by simp only [Lv.size]

theorem Lv.size_pos (L : Lv) : 1 ≤ L.size := by cases L; rw [Lv.size_mk]; omega

theorem Lv.sizes_append (a b : List Lv) : Lv.sizes (a ++ b) = Lv.sizes a + Lv.sizes b := by
  induction a with
  | nil => simp only [List.nil_append, Lv.sizes]; omega
  | cons x r ih => simp only [List.cons_append, Lv.sizes, ih]; omega

theorem Lv.sizes_take {args : List Lv} {i : Nat} {L : Lv} (h : args[i]? = some L) : Lv.sizes (args.take (i + 1)) = Lv.sizes (args.take i) + L.size := by
  have hi := (List.getElem?_eq_some_iff.1 h).1
  have e : args.take (i + 1) = args.take i ++ [L] := by
    rw [List.take_succ_eq_append_getElem hi, (List.getElem?_eq_some_iff.1 h).2]
  rw [e, Lv.sizes_append]; simp only [Lv.sizes]; omega

theorem Lv.sizes_take_le (args : List Lv) (i : Nat) : Lv.sizes (args.take i) ≤ Lv.sizes args := by
  have e : Lv.sizes args = Lv.sizes (args.take i) + Lv.sizes (args.drop i) := by rw [← Lv.sizes_append, List.take_append_drop]
  omega

theorem Lv.size_mem {args : List Lv} {L : Lv} (h : L ∈ args) : L.size ≤ Lv.sizes args := by
  induction args with
  | nil => cases h
  | cons x r ih =>
    simp only [Lv.sizes]
    rcases List.mem_cons.1 h with rfl | h
    · omega
    · have := ih h; omega

/-- How many Args a kind has. -/
def cnt (k : Int) : Int := if k = 0 ∨ k = 4 then 0 else if k = 1 then 1 else if k = 2 ∨ k = 3 then 2 else -1

/-- May N be? -/
def numB (p k n : Int) : Bool := if k = 4 then decide (0 ≤ n ∧ n < p) else decide (n = 0)

mutual

/-- Is it well formed, its parameters below p, itself d deep and nothing deeper than m? -/
def Lv.ok (p m : Int) : Nat → Lv → Bool
  | d, .mk k n args => decide ((d : Int) ≤ m) && decide (cnt k = args.length) && numB p k n && Lv.oks p m (d + 1) args

def Lv.oks (p m : Int) : Nat → List Lv → Bool
  | _, [] => true
  | d, L :: r => L.ok p m d && Lv.oks p m d r

end

theorem Lv.ok_mk (p m : Int) (d : Nat) (k n : Int) (args : List Lv) : (Lv.mk k n args).ok p m d = (decide ((d : Int) ≤ m) && decide (cnt k = args.length) && numB p k n && Lv.oks p m (d + 1) args) := by simp only [Lv.ok]

theorem Lv.oks_iff {p m : Int} {d : Nat} {args : List Lv} : Lv.oks p m d args = true ↔ ∀ L ∈ args, L.ok p m d = true := by
  induction args with
  | nil => simp [Lv.oks]
  | cons x r ih => simp [Lv.oks, ih]

theorem Lv.oks_false {p m : Int} {d : Nat} {args : List Lv} {i : Nat} {L : Lv} (h : args[i]? = some L) (hL : L.ok p m d = false) : Lv.oks p m d args = false := by
  cases e : Lv.oks p m d args with
  | false => rfl
  | true => have := Lv.oks_iff.1 e L (List.mem_of_getElem? h); rw [this] at hL; cases hL

theorem Lv.oks_take_succ {p m : Int} {d : Nat} {args : List Lv} {i : Nat} {L : Lv} (h : args[i]? = some L) (hi : Lv.oks p m d (args.take i) = true) (hL : L.ok p m d = true) : Lv.oks p m d (args.take (i + 1)) = true := by
  rw [Lv.oks_iff] at hi ⊢
  have hl := (List.getElem?_eq_some_iff.1 h).1
  rw [List.take_succ_eq_append_getElem hl, (List.getElem?_eq_some_iff.1 h).2]
  intro x hx
  rcases List.mem_append.1 hx with hx | hx
  · exact hi x hx
  · simp at hx; subst hx; exact hL

mutual

/-- Below which number its parameters are. -/
def Lv.used : Lv → Int
  | .mk k n args => max (if k = 4 then n + 1 else 0) (Lv.useds args)

def Lv.useds : List Lv → Int
  | [] => 0
  | L :: r => max L.used (Lv.useds r)

end

theorem Lv.used_mk (k n : Int) (args : List Lv) : (Lv.mk k n args).used = max (if k = 4 then n + 1 else 0) (Lv.useds args) := by simp only [Lv.used]

theorem Lv.useds_nonneg (l : List Lv) : 0 ≤ Lv.useds l := by
  induction l with
  | nil => simp [Lv.useds]
  | cons x r ih => simp only [Lv.useds]; omega

theorem Lv.useds_append (a b : List Lv) : Lv.useds (a ++ b) = max (Lv.useds a) (Lv.useds b) := by
  induction a with
  | nil => have := Lv.useds_nonneg b; simp only [List.nil_append, Lv.useds]; omega
  | cons x r ih => simp only [List.cons_append, Lv.useds, ih]; omega

theorem Lv.used_nonneg (L : Lv) : 0 ≤ L.used := by cases L with | mk k n args => rw [Lv.used_mk]; have := Lv.useds_nonneg args; omega

theorem Lv.useds_take {args : List Lv} {i : Nat} {L : Lv} (h : args[i]? = some L) : Lv.useds (args.take (i + 1)) = max (Lv.useds (args.take i)) L.used := by
  have hi := (List.getElem?_eq_some_iff.1 h).1
  have := Lv.used_nonneg L
  rw [List.take_succ_eq_append_getElem hi, (List.getElem?_eq_some_iff.1 h).2, Lv.useds_append]; simp only [Lv.useds]; omega

inductive Lev where
  | zero | succ (a : Lev) | max (a b : Lev) | imax (a b : Lev) | par (n : Nat)
deriving DecidableEq

def Lev.lv : Lev → Lv
  | .zero => .mk 0 0 []
  | .succ a => .mk 1 0 [a.lv]
  | .max a b => .mk 2 0 [a.lv, b.lv]
  | .imax a b => .mk 3 0 [a.lv, b.lv]
  | .par n => .mk 4 n []

/-- Its parameters are below p. -/
def Lev.low (p : Nat) : Lev → Prop
  | .zero => True
  | .succ a => a.low p
  | .max a b => a.low p ∧ b.low p
  | .imax a b => a.low p ∧ b.low p
  | .par n => n < p

theorem lev_of_ok (p m : Int) (L : Lv) : ∀ d, L.ok p m d = true → ∃ l : Lev, L = l.lv ∧ l.low p.toNat := by
  refine Lv.ind (P := fun L => ∀ d, L.ok p m d = true → ∃ l : Lev, L = l.lv ∧ l.low p.toNat) ?_ L
  intro k n args ih d h
  rw [Lv.ok_mk] at h
  simp only [Bool.and_eq_true, decide_eq_true_eq] at h
  obtain ⟨⟨⟨_, hc⟩, hn⟩, ho⟩ := h
  rw [Lv.oks_iff] at ho
  unfold cnt at hc
  unfold numB at hn
  by_cases h4 : k = 4
  · subst h4
    simp at hc hn
    have : args = [] := List.eq_nil_of_length_eq_zero (by omega)
    subst this
    refine ⟨.par n.toNat, ?_, ?_⟩
    · simp only [Lev.lv]; congr 1; omega
    · simp only [Lev.low]; omega
  · rw [if_neg h4] at hn
    simp at hn
    subst hn
    by_cases h0 : k = 0
    · subst h0
      simp at hc
      have : args = [] := List.eq_nil_of_length_eq_zero (by omega)
      subst this
      exact ⟨.zero, rfl, trivial⟩
    · rw [if_neg (by omega)] at hc
      by_cases h1 : k = 1
      · subst h1
        simp at hc
        match args, hc, ih, ho with
        | [x], _, ih, ho =>
          obtain ⟨l, rfl, hl⟩ := ih x (by simp) (d + 1) (ho x (by simp))
          exact ⟨.succ l, rfl, hl⟩
      · rw [if_neg h1] at hc
        by_cases h23 : k = 2 ∨ k = 3
        · rw [if_pos h23] at hc
          match args, hc, ih, ho with
          | [x, y], _, ih, ho =>
            obtain ⟨l, rfl, hl⟩ := ih x (by simp) (d + 1) (ho x (by simp))
            obtain ⟨l', rfl, hl'⟩ := ih y (by simp) (d + 1) (ho y (by simp))
            rcases h23 with rfl | rfl
            · exact ⟨.max l l', rfl, hl, hl'⟩
            · exact ⟨.imax l l', rfl, hl, hl'⟩
          | [], hc, _, _ => simp at hc
          | [_], hc, _, _ => simp at hc
          | _ :: _ :: _ :: _, hc, _, _ => simp at hc; omega
        · rw [if_neg h23] at hc; omega

def Lev.size : Lev → Nat
  | .zero => 1
  | .succ a => a.size + 1
  | .max a b => a.size + b.size + 1
  | .imax a b => a.size + b.size + 1
  | .par _ => 1

theorem Lev.size_lv (l : Lev) : l.lv.size = l.size := by
  induction l with
  | zero => simp [Lev.lv, Lev.size, Lv.size, Lv.sizes]
  | succ a ih => simp [Lev.lv, Lev.size, Lv.size, Lv.sizes, ih]
  | max a b iha ihb => simp [Lev.lv, Lev.size, Lv.size, Lv.sizes, iha, ihb]
  | imax a b iha ihb => simp [Lev.lv, Lev.size, Lv.size, Lv.sizes, iha, ihb]
  | par n => simp [Lev.lv, Lev.size, Lv.size, Lv.sizes]

/-- What it is worth. -/
def Lev.val (v : Nat → Nat) : Lev → Nat
  | .zero => 0
  | .succ a => a.val v + 1
  | .max a b => Nat.max (a.val v) (b.val v)
  | .imax a b => if b.val v = 0 then 0 else Nat.max (a.val v) (b.val v)
  | .par n => v n

theorem Lev.val_le (l : Lev) (v : Nat → Nat) (M : Nat) (h : ∀ i, v i ≤ M) : l.val v ≤ M + l.size := by
  induction l with
  | zero => simp [Lev.val]
  | succ a ih => simp only [Lev.val, Lev.size]; omega
  | max a b iha ihb => simp only [Lev.val, Lev.size]; have := Nat.max_le.2 ⟨iha, Nat.le_refl _⟩; simp only [Nat.max_def]; split <;> omega
  | imax a b iha ihb =>
    simp only [Lev.val, Lev.size]
    split
    · omega
    · simp only [Nat.max_def]; split <;> omega
  | par n => simp only [Lev.val, Lev.size]; have := h n; omega

theorem Lev.val_mono (l : Lev) {u v : Nat → Nat} (h : ∀ i, u i ≤ v i) : l.val u ≤ l.val v := by
  induction l with
  | zero => simp [Lev.val]
  | succ a ih => simp only [Lev.val]; omega
  | max a b iha ihb => simp only [Lev.val, Nat.max_def]; split <;> split <;> omega
  | imax a b iha ihb => simp only [Lev.val, Nat.max_def]; split <;> split <;> (try split) <;> (try split) <;> omega
  | par n => exact h n

theorem Lev.val_congr (l : Lev) {p : Nat} {u v : Nat → Nat} (hl : l.low p) (h : ∀ i, i < p → u i = v i) : l.val u = l.val v := by
  induction l with
  | zero => rfl
  | succ a ih => simp only [Lev.val, ih hl]
  | max a b iha ihb => simp only [Lev.val, iha hl.1, ihb hl.2]
  | imax a b iha ihb => simp only [Lev.val, iha hl.1, ihb hl.2]
  | par n => exact h n hl

abbrev Atom := Option Nat × Nat

def Atom.at (v : Nat → Nat) (x : Atom) : Nat := (match x.1 with | none => 0 | some i => v i) + x.2

def Lev.atoms (pos : Nat → Bool) : Lev → List Atom
  | .zero => [(none, 0)]
  | .succ a => (a.atoms pos).map fun x => (x.1, x.2 + 1)
  | .max a b => a.atoms pos ++ b.atoms pos
  | .imax a b => if (b.atoms pos).all (fun x => x.1.isNone && x.2 == 0) then [(none, 0)] else a.atoms pos ++ b.atoms pos
  | .par n => if pos n then [(some n, 0)] else [(none, 0)]

/-- n is the greatest of what the atoms are. -/
def Tops (v : Nat → Nat) (l : List Atom) (n : Nat) : Prop := (∀ x ∈ l, Atom.at v x ≤ n) ∧ ∃ x ∈ l, Atom.at v x = n

theorem Tops.append {v : Nat → Nat} {l r : List Atom} {n m : Nat} (h : Tops v l n) (k : Tops v r m) : Tops v (l ++ r) (Nat.max n m) := by
  obtain ⟨h1, x, hx, ex⟩ := h
  obtain ⟨k1, y, hy, ey⟩ := k
  refine ⟨fun z hz => ?_, ?_⟩
  · rcases List.mem_append.1 hz with hz | hz
    · exact Nat.le_trans (h1 z hz) (Nat.le_max_left _ _)
    · exact Nat.le_trans (k1 z hz) (Nat.le_max_right _ _)
  · by_cases e : n ≤ m
    · exact ⟨y, List.mem_append.2 (.inr hy), by rw [ey]; exact (Nat.max_eq_right e).symm⟩
    · exact ⟨x, List.mem_append.2 (.inl hx), by rw [ex]; exact (Nat.max_eq_left (by omega)).symm⟩

theorem Lev.atoms_tops (l : Lev) {pos : Nat → Bool} {v : Nat → Nat} (hv : ∀ i, pos i = true ↔ v i ≠ 0) :
    Tops v (l.atoms pos) (l.val v) ∧ ∀ x ∈ l.atoms pos, ∀ i, x.1 = some i → pos i = true := by
  induction l with
  | zero => exact ⟨⟨by simp [Lev.atoms, Lev.val, Atom.at], _, List.mem_singleton.2 rfl, rfl⟩, by simp [Lev.atoms]⟩
  | succ a ih =>
    obtain ⟨⟨h1, x, hx, ex⟩, h2⟩ := ih
    refine ⟨⟨fun y hy => ?_, (x.1, x.2 + 1), List.mem_map.2 ⟨x, hx, rfl⟩, ?_⟩, fun y hy i hi => ?_⟩
    · obtain ⟨z, hz, rfl⟩ := List.mem_map.1 hy
      have := h1 z hz
      simp only [Atom.at, Lev.val] at this ⊢; omega
    · simp only [Atom.at, Lev.val] at ex ⊢; omega
    · obtain ⟨z, hz, rfl⟩ := List.mem_map.1 hy
      exact h2 z hz i hi
  | max a b iha ihb =>
    refine ⟨iha.1.append ihb.1, fun y hy i hi => ?_⟩
    rcases List.mem_append.1 hy with hy | hy
    · exact iha.2 y hy i hi
    · exact ihb.2 y hy i hi
  | imax a b iha ihb =>
    simp only [Lev.atoms, Lev.val]
    by_cases hz : (b.atoms pos).all (fun x => x.1.isNone && x.2 == 0) = true
    · rw [if_pos hz]
      have h0 : b.val v = 0 := by
        obtain ⟨⟨_, x, hx, ex⟩, _⟩ := ihb
        have := List.all_eq_true.1 hz x hx
        obtain ⟨x1, x2⟩ := x
        cases x1 with
        | some i => simp at this
        | none => simp at this; subst this; simpa [Atom.at] using ex.symm
      rw [if_pos h0]
      exact ⟨⟨by simp [Atom.at], _, List.mem_singleton.2 rfl, rfl⟩, by simp⟩
    · rw [if_neg hz]
      have h0 : b.val v ≠ 0 := by
        intro h0
        apply hz
        obtain ⟨⟨h1, _⟩, h2⟩ := ihb
        apply List.all_eq_true.2
        intro x hx
        have h3 := h1 x hx
        have h4 := h2 x hx
        rw [h0] at h3
        obtain ⟨x1, x2⟩ := x
        cases x1 with
        | none => simp [Atom.at] at h3 ⊢; omega
        | some i =>
          have := (hv i).1 (h4 i rfl)
          simp [Atom.at] at h3
          omega
      rw [if_neg h0]
      refine ⟨iha.1.append ihb.1, fun y hy i hi => ?_⟩
      rcases List.mem_append.1 hy with hy | hy
      · exact iha.2 y hy i hi
      · exact ihb.2 y hy i hi
  | par n =>
    simp only [Lev.atoms, Lev.val]
    by_cases hp : pos n = true
    · rw [if_pos hp]
      exact ⟨⟨by simp [Atom.at], _, List.mem_singleton.2 rfl, rfl⟩, fun x hx i hi => by simp at hx; subst hx; simp at hi; subst hi; exact hp⟩
    · rw [if_neg hp]
      have h0 : v n = 0 := by
        by_cases e : v n = 0
        · exact e
        · exact absurd ((hv n).2 e) hp
      exact ⟨⟨by simp [Atom.at], _, List.mem_singleton.2 rfl, by simp [Atom.at, h0]⟩, by simp⟩

theorem Lev.atoms_le (l : Lev) (pos : Nat → Bool) : ∀ x ∈ l.atoms pos, x.2 < l.size := by
  induction l with
  | zero => simp [Lev.atoms, Lev.size]
  | succ a ih =>
    intro y hy
    obtain ⟨z, hz, rfl⟩ := List.mem_map.1 hy
    have := ih z hz
    simp only [Lev.size]; omega
  | max a b iha ihb =>
    intro y hy
    simp only [Lev.size]
    rcases List.mem_append.1 hy with hy | hy
    · have := iha y hy; omega
    · have := ihb y hy; omega
  | imax a b iha ihb =>
    intro y hy
    simp only [Lev.size, Lev.atoms] at hy ⊢
    split at hy
    · simp at hy; subst hy; simp
    · rcases List.mem_append.1 hy with hy | hy
      · have := iha y hy; omega
      · have := ihb y hy; omega
  | par n => intro y hy; simp only [Lev.atoms] at hy; split at hy <;> (simp at hy; subst hy; simp [Lev.size])

/-- A place at which each parameter is 0, 1 or M. -/
def Tells (M : Nat) (u : Nat → Nat) : Prop := ∀ i, u i = 0 ∨ u i = 1 ∨ u i = M

/-- Where a level is more than another one at all, it is so where each parameter is 0, 1 or great. -/
theorem Lev.tell (a b : Lev) (M : Nat) (hM : b.size < M) (v : Nat → Nat) (h : b.val v < a.val v) : ∃ u, Tells M u ∧ b.val u < a.val u := by
  have hv : ∀ i, (decide (v i ≠ 0)) = true ↔ v i ≠ 0 := by simp
  obtain ⟨⟨_, x, hx, ex⟩, h2⟩ := Lev.atoms_tops a hv
  obtain ⟨⟨k1, _⟩, k2⟩ := Lev.atoms_tops b hv
  have hle := Lev.atoms_le b (fun i => decide (v i ≠ 0))
  obtain ⟨o, c⟩ := x
  -- the place
  let u : Nat → Nat := fun j => if v j = 0 then 0 else if o = some j then M else 1
  have hu : ∀ i, (decide (v i ≠ 0)) = true ↔ u i ≠ 0 := by
    intro i
    simp only [u]
    by_cases e : v i = 0
    · simp [e]
    · simp only [e, if_false]
      by_cases e2 : o = some i
      · simp [e2, e]; omega
      · simp [e2, e]
  have hT : Tells M u := by
    intro i
    simp only [u]
    split
    · exact .inl rfl
    · split
      · exact .inr (.inr rfl)
      · exact .inr (.inl rfl)
  refine ⟨u, hT, ?_⟩
  obtain ⟨⟨h1', _⟩, _⟩ := Lev.atoms_tops a hu
  obtain ⟨⟨_, y, hy, ey⟩, _⟩ := Lev.atoms_tops b hu
  have ha := h1' (o, c) hx
  have hlt : Atom.at v y < Atom.at v (o, c) := by rw [ex]; exact Nat.lt_of_le_of_lt (k1 y hy) h
  have hb2 := k2 y hy
  have hb3 := hle y hy
  have hi := fun i => h2 (o, c) hx i
  rw [← ey]
  refine Nat.lt_of_lt_of_le ?_ ha
  clear ha ey hx hy h1' k1 k2 h2 hle ex h hT hu hv
  obtain ⟨yo, yc⟩ := y
  cases o with
  | none =>
    cases yo with
    | none => simpa [Atom.at] using hlt
    | some j =>
      have hj := hb2 j rfl
      simp at hj
      simp [Atom.at] at hlt
      simp [Atom.at, u, hj]
      omega
  | some i =>
    have hi := hi i rfl
    simp at hi
    simp at hb3
    cases yo with
    | none => simp [Atom.at, u, hi]; omega
    | some j =>
      have hj := hb2 j rfl
      simp at hj
      by_cases e : i = j
      · subst e
        simp [Atom.at] at hlt
        simp [Atom.at, u, hi]; omega
      · simp [Atom.at, u, hi, hj, e]; omega

end Go.Proofs.YtkbpmpcbajnmlaaDoor

/- Levels in memory; blocks that are known whole; what stays. Of no program; no condition. -/
namespace Go.Proofs.YtkbpmpcbajnmlaaDoor
open Go.RowKit

/-- Block g holds just these cells. -/
def Blk (w : World) (g : Nat) (t : TypeId) (l : List Value) : Prop := w.heap[g]? = some (.cells l.toArray t (0, 0))

theorem Blk.cell {w : World} {g : Nat} {t : TypeId} {l : List Value} (h : Blk w g t l) {j : Nat} {v : Value} (hj : l[j]? = some v) : w.cell? ⟨g, j, none⟩ = some v := by
  rw [cell_of_row w g j l.toArray t (0, 0) h]; simpa using hj

theorem Blk.frozen {w : World} {g : Nat} {t : TypeId} {l : List Value} (h : Blk w g t l) (j : Nat) : w.frozen? ⟨g, j, none⟩ = false := by
  unfold Blk at h
  simp [World.frozen?, h]

theorem Blk.lt {w : World} {g : Nat} {t : TypeId} {l : List Value} (h : Blk w g t l) : g < w.heap.size := (Array.getElem?_eq_some_iff.1 h).1

theorem Blk.set {w : World} {g : Nat} {t : TypeId} {l : List Value} (h : Blk w g t l) (j : Nat) (v : Value) : Blk (w.setCell ⟨g, j, none⟩ v) g t (l.set j v) := by
  unfold Blk at h ⊢
  simp [World.setCell, Array.getElem?_modify, h]

theorem Blk.carry {w w' : World} {g : Nat} {t : TypeId} {l : List Value} (h : Blk w g t l) (hb : w'.heap[g]? = w.heap[g]?) : Blk w' g t l := by unfold Blk; rw [hb]; exact h

theorem Blk.other {w : World} {g : Nat} {t : TypeId} {l : List Value} (h : Blk w g t l) {g' j : Nat} (v : Value) (hne : g ≠ g') : Blk (w.setCell ⟨g', j, none⟩ v) g t l :=
  h.carry (Below.heap_setCell _ _ _ _ (fun e => hne (by simpa using e)))

theorem Blk.drew {w : World} {g : Nat} {t : TypeId} {l : List Value} (h : Blk w g t l) : Blk w.drew g t l := h.carry rfl

theorem Blk.drewN {w : World} {g : Nat} {t : TypeId} {l : List Value} (h : Blk w g t l) (n : Nat) : Blk (w.drewN n) g t l := h.carry rfl

theorem bel_drewN {B : Nat} {a w : World} (h : Below B a w) (n : Nat) : Below B a (w.drewN n) := h.trans ⟨rfl, rfl, rfl, Nat.le_refl _, fun _ _ => rfl⟩

theorem Blk.alloc {w : World} {g : Nat} {t : TypeId} {l : List Value} (h : Blk w g t l) (o : Obj) : Blk (w.alloc o) g t l := h.carry (Below.heap_alloc w o g h.lt)

theorem Blk.new (w : World) (t : TypeId) (l : List Value) : Blk (w.alloc (.cells l.toArray t)) w.heap.size t l := heap_alloc_new w _

theorem Blk.below {C : Nat} {w w' : World} {g : Nat} {t : TypeId} {l : List Value} (h : Blk w g t l) (hb : Below C w w') (hg : g < C) : Blk w' g t l := h.carry (hb.block g hg)

/-- All blocks that were there stay as they were, but those in S. -/
structure Keep (w w' : World) (S : Nat → Prop) : Prop where
  os : w'.os = w.os
  tape : w'.tape = w.tape
  output : w'.output = w.output
  size : w.heap.size ≤ w'.heap.size
  block : ∀ k, k < w.heap.size → ¬ S k → w'.heap[k]? = w.heap[k]?

theorem Keep.refl (w : World) (S : Nat → Prop) : Keep w w S := ⟨rfl, rfl, rfl, Nat.le_refl _, fun _ _ _ => rfl⟩

theorem Keep.trans {a b c : World} {S T : Nat → Prop} (h : Keep a b S) (k : Keep b c T) (hT : ∀ i, i < a.heap.size → T i → S i) : Keep a c S :=
  ⟨k.os.trans h.os, k.tape.trans h.tape, k.output.trans h.output, Nat.le_trans h.size k.size, fun i hi hS => (k.block i (Nat.lt_of_lt_of_le hi h.size) (fun ht => hS (hT i hi ht))).trans (h.block i hi hS)⟩

theorem Keep.mono {a b : World} {S T : Nat → Prop} (h : Keep a b S) (hT : ∀ i, S i → T i) : Keep a b T := ⟨h.os, h.tape, h.output, h.size, fun i hi hS => h.block i hi (fun x => hS (hT i x))⟩

theorem Keep.of_below {B : Nat} {w w' : World} {S : Nat → Prop} (h : Below B w w') (hB : w.heap.size ≤ B) : Keep w w' S := ⟨h.os, h.tape, h.output, h.size, fun i hi _ => h.block i (Nat.lt_of_lt_of_le hi hB)⟩

theorem Keep.setCell {a w : World} {S : Nat → Prop} (h : Keep a w S) {g : Nat} (hS : g < a.heap.size → S g) (j : Nat) (v : Value) : Keep a (w.setCell ⟨g, j, none⟩ v) S :=
  ⟨h.os, h.tape, h.output, by simp [World.setCell]; exact h.size, fun i hi hn => by
    rw [Below.heap_setCell w ⟨g, j, none⟩ v i (fun e => hn (by simp at e; subst e; exact hS hi))]; exact h.block i hi hn⟩

theorem Keep.alloc {a w : World} {S : Nat → Prop} (h : Keep a w S) (o : Obj) : Keep a (w.alloc o) S :=
  ⟨h.os, h.tape, h.output, by simp; have := h.size; omega, fun i hi hn => (Below.heap_alloc w o i (Nat.lt_of_lt_of_le hi h.size)).trans (h.block i hi hn)⟩

theorem Keep.drew {a w : World} {S : Nat → Prop} (h : Keep a w S) : Keep a w.drew S := ⟨h.os, h.tape, h.output, h.size, h.block⟩

theorem Keep.drewN {a w : World} {S : Nat → Prop} (h : Keep a w S) (n : Nat) : Keep a (w.drewN n) S := ⟨h.os, h.tape, h.output, h.size, h.block⟩

theorem Keep.below {B : Nat} {w w' : World} {S : Nat → Prop} (h : Keep w w' S) (hB : B ≤ w.heap.size) (hS : ∀ k, S k → B ≤ k) : Below B w w' :=
  ⟨h.os, h.tape, h.output, h.size, fun k hk => h.block k (Nat.lt_of_lt_of_le hk hB) (fun s => by have := hS k s; omega)⟩

theorem Keep.low {a b c : World} {S : Nat → Prop} {B : Nat} (h : Keep a b S) (k : Below B b c) (hB : a.heap.size ≤ B) : Keep a c S :=
  ⟨k.os.trans h.os, k.tape.trans h.tape, k.output.trans h.output, Nat.le_trans h.size k.size, fun i hi hS => (k.block i (by omega)).trans (h.block i hi hS)⟩

theorem Blk.keep {w w' : World} {S : Nat → Prop} {g : Nat} {t : TypeId} {l : List Value} (h : Blk w g t l) (hk : Keep w w' S) (hn : ¬ S g) : Blk w' g t l := h.carry (hk.block g h.lt hn)

theorem bcell {W w1 : World} (hb : Below W.heap.size W w1) : (∀ b o, b < W.heap.size → w1.cell? ⟨b, o, none⟩ = W.cell? ⟨b, o, none⟩) ∧ (∀ b o, b < W.heap.size → w1.frozen? ⟨b, o, none⟩ = W.frozen? ⟨b, o, none⟩) :=
  ⟨fun b o h => hb.cell (p := ⟨b, o, none⟩) h, fun b o h => hb.frozen (p := ⟨b, o, none⟩) h⟩

theorem ret_int {k : IntKind} {a b : Int} (h : a = b) : Ending.returned (.int k a) = .returned (.int k b) := by rw [h]

theorem ret_bool {a b : Bool} (h : a = b) : Ending.returned (.bool a) = .returned (.bool b) := by rw [h]

mutual

/-- The value v is the level L; what lies behind it lies in blocks of S. -/
def In (w : World) (S : Nat → Prop) : Lv → Value → Prop
  | .mk k n args, v => ∃ a cap, v = .agg #[.int .i64 k, .int .i64 n, .slice a args.length cap] ∧ (-9223372036854775808 ≤ k ∧ k ≤ 9223372036854775807) ∧ (-9223372036854775808 ≤ n ∧ n ≤ 9223372036854775807) ∧
      args.length ≤ cap ∧ cap ≤ maxLen ∧ (args = [] ∨ ∃ b off, a = some ⟨b, off, none⟩ ∧ S b ∧ InAll w S b off args)

/-- The levels of a list, one behind the other, from a place on. -/
def InAll (w : World) (S : Nat → Prop) (b : Nat) : Nat → List Lv → Prop
  | _, [] => True
  | off, L :: r => (∃ c0 c1 c2, w.cell? ⟨b, off, none⟩ = some c0 ∧ w.cell? ⟨b, off + 1, none⟩ = some c1 ∧ w.cell? ⟨b, off + 2, none⟩ = some c2 ∧ In w S L (.agg #[c0, c1, c2])) ∧ InAll w S b (off + 3) r

end

theorem in_mk {w : World} {S : Nat → Prop} {k n : Int} {args : List Lv} {v : Value} : In w S (.mk k n args) v ↔ ∃ a cap, v = .agg #[.int .i64 k, .int .i64 n, .slice a args.length cap] ∧ (-9223372036854775808 ≤ k ∧ k ≤ 9223372036854775807) ∧ (-9223372036854775808 ≤ n ∧ n ≤ 9223372036854775807) ∧
      args.length ≤ cap ∧ cap ≤ maxLen ∧ (args = [] ∨ ∃ b off, a = some ⟨b, off, none⟩ ∧ S b ∧ InAll w S b off args) := by rw [In]

theorem inAll_cons {w : World} {S : Nat → Prop} {b off : Nat} {L : Lv} {r : List Lv} : InAll w S b off (L :: r) ↔ (∃ c0 c1 c2, w.cell? ⟨b, off, none⟩ = some c0 ∧ w.cell? ⟨b, off + 1, none⟩ = some c1 ∧ w.cell? ⟨b, off + 2, none⟩ = some c2 ∧ In w S L (.agg #[c0, c1, c2])) ∧ InAll w S b (off + 3) r := by rw [InAll]

/-- It stays where its blocks stay. -/
theorem In.carry {w w' : World} {S T : Nat → Prop} (hb : ∀ b, S b → w'.heap[b]? = w.heap[b]?) (hT : ∀ b, S b → T b) (L : Lv) : ∀ v, In w S L v → In w' T L v := by
  refine Lv.ind (P := fun L => ∀ v, In w S L v → In w' T L v) ?_ L
  intro k n args ih v h
  rw [in_mk] at h ⊢
  obtain ⟨a, cap, h1, h2, h3, h4, h5, h6⟩ := h
  refine ⟨a, cap, h1, h2, h3, h4, h5, ?_⟩
  rcases h6 with h6 | ⟨b, off, h6, h7, h8⟩
  · exact .inl h6
  · refine .inr ⟨b, off, h6, hT b h7, ?_⟩
    clear h1 h2 h3 h4 h5 h6
    induction args generalizing off with
    | nil => rw [InAll]; trivial
    | cons x r ihr =>
      rw [inAll_cons] at h8 ⊢
      obtain ⟨⟨c0, c1, c2, e0, e1, e2, hx⟩, hr⟩ := h8
      refine ⟨⟨c0, c1, c2, ?_, ?_, ?_, ih x (by simp) _ hx⟩, ihr (fun L hL => ih L (by simp [hL])) _ hr⟩
      · rw [World.cell?_of_block (w := w) (hb b h7)]; exact e0
      · rw [World.cell?_of_block (w := w) (hb b h7)]; exact e1
      · rw [World.cell?_of_block (w := w) (hb b h7)]; exact e2

theorem In.mono {w : World} {S T : Nat → Prop} {L : Lv} {v : Value} (h : In w S L v) (hT : ∀ b, S b → T b) : In w T L v := In.carry (fun _ _ => rfl) hT L v h

theorem In.below {w w' : World} {B C : Nat} {L : Lv} {v : Value} (h : In w (· < B) L v) (hb : Below C w w') (hB : B ≤ C) : In w' (· < B) L v :=
  In.carry (fun b hlt => hb.block b (Nat.lt_of_lt_of_le hlt hB)) (fun _ h => h) L v h

theorem In.keep {w w' : World} {B : Nat} {S : Nat → Prop} {L : Lv} {v : Value} (h : In w (· < B) L v) (hk : Keep w w' S) (hB : B ≤ w.heap.size) (hS : ∀ b, S b → B ≤ b) : In w' (· < B) L v :=
  h.below (hk.below hB hS) (Nat.le_refl _)

theorem In.up {w : World} {B C : Nat} {L : Lv} {v : Value} (h : In w (· < B) L v) (hB : B ≤ C) : In w (· < C) L v := h.mono (fun _ hb => Nat.lt_of_lt_of_le hb hB)

/-- What is known of a level's value and its args. -/
structure Node (w : World) (S : Nat → Prop) (k n : Int) (args : List Lv) (a : Option Addr) (cap : Nat) : Prop where
  k0 : -9223372036854775808 ≤ k
  k1 : k ≤ 9223372036854775807
  n0 : -9223372036854775808 ≤ n
  n1 : n ≤ 9223372036854775807
  le : args.length ≤ cap
  max : cap ≤ 9223372036854775807
  all : args = [] ∨ ∃ b off, a = some ⟨b, off, none⟩ ∧ S b ∧ InAll w S b off args

theorem In.node {w : World} {S : Nat → Prop} {k n : Int} {args : List Lv} {v : Value} (h : In w S (.mk k n args) v) : ∃ a cap, v = .agg #[.int .i64 k, .int .i64 n, .slice a args.length cap] ∧ Node w S k n args a cap := by
  rw [in_mk] at h
  obtain ⟨a, cap, h1, ⟨h2, h2'⟩, ⟨h3, h3'⟩, h4, h5, h6⟩ := h
  exact ⟨a, cap, h1, h2, h2', h3, h3', h4, h5, h6⟩

theorem Node.is {w : World} {S : Nat → Prop} {k n : Int} {args : List Lv} {a : Option Addr} {cap : Nat} (h : Node w S k n args a cap) : In w S (.mk k n args) (.agg #[.int .i64 k, .int .i64 n, .slice a args.length cap]) := by
  rw [in_mk]
  exact ⟨a, cap, rfl, ⟨h.k0, h.k1⟩, ⟨h.n0, h.n1⟩, h.le, h.max, h.all⟩

theorem In.agg {w : World} {S : Nat → Prop} {k n k' n' : Int} {args : List Lv} {a : Option Addr} {len cap : Nat} (h : In w S (.mk k n args) (.agg #[.int .i64 k', .int .i64 n', .slice a len cap])) : k' = k ∧ n' = n ∧ len = args.length ∧ Node w S k n args a cap := by
  obtain ⟨a', cap', e, hN⟩ := h.node
  simp only [Value.agg.injEq, Array.mk.injEq, List.cons.injEq, Value.int.injEq, Value.slice.injEq, true_and, and_true] at e
  obtain ⟨rfl, rfl, rfl, rfl, rfl⟩ := e
  exact ⟨rfl, rfl, rfl, hN⟩

theorem InAll.get {w : World} {S : Nat → Prop} {b : Nat} {args : List Lv} : ∀ {off : Nat}, InAll w S b off args → ∀ i L, args[i]? = some L → ∃ c0 c1 c2, w.cell? ⟨b, off + i * 3, none⟩ = some c0 ∧ w.cell? ⟨b, off + i * 3 + 1, none⟩ = some c1 ∧ w.cell? ⟨b, off + i * 3 + 2, none⟩ = some c2 ∧ In w S L (.agg #[c0, c1, c2]) := by
  induction args with
  | nil => intro off _ i L h; simp at h
  | cons x r ih =>
    intro off h i L hi
    rw [inAll_cons] at h
    cases i with
    | zero => simp at hi; subst hi; exact h.1
    | succ i =>
      have := ih h.2 i L (by simpa using hi)
      rw [show off + (i + 1) * 3 = off + 3 + i * 3 by omega]
      exact this

theorem InAll.of_get {w : World} {S : Nat → Prop} {b : Nat} {args : List Lv} : ∀ {off : Nat}, (∀ i L, args[i]? = some L → ∃ c0 c1 c2, w.cell? ⟨b, off + i * 3, none⟩ = some c0 ∧ w.cell? ⟨b, off + i * 3 + 1, none⟩ = some c1 ∧ w.cell? ⟨b, off + i * 3 + 2, none⟩ = some c2 ∧ In w S L (.agg #[c0, c1, c2])) → InAll w S b off args := by
  induction args with
  | nil => intro off _; rw [InAll]; trivial
  | cons x r ih =>
    intro off h
    rw [inAll_cons]
    refine ⟨by simpa using h 0 x (by simp), ih fun i L hi => ?_⟩
    have := h (i + 1) L (by simpa using hi)
    rw [show off + (i + 1) * 3 = off + 3 + i * 3 by omega] at this
    exact this

/-- The i-th of the args: where it lies, and that it is a level. -/
theorem Node.get {w : World} {S : Nat → Prop} {k n : Int} {args : List Lv} {a : Option Addr} {cap : Nat} (h : Node w S k n args a cap) {i : Nat} {L : Lv} (hi : args[i]? = some L) :
    ∃ b off k' n' args' a' cap', a = some ⟨b, off, none⟩ ∧ S b ∧ L = .mk k' n' args' ∧ w.cell? ⟨b, off + i * 3, none⟩ = some (.int .i64 k') ∧ w.cell? ⟨b, off + i * 3 + 1, none⟩ = some (.int .i64 n') ∧
      w.cell? ⟨b, off + i * 3 + 2, none⟩ = some (.slice a' args'.length cap') ∧ Node w S k' n' args' a' cap' := by
  rcases h.all with h0 | ⟨b, off, ha, hS, hall⟩
  · subst h0; simp at hi
  · obtain ⟨c0, c1, c2, e0, e1, e2, hin⟩ := hall.get i L hi
    obtain ⟨k', n', args'⟩ := L
    obtain ⟨a', cap', e, hN⟩ := hin.node
    simp only [Value.agg.injEq, Array.mk.injEq, List.cons.injEq, and_true] at e
    obtain ⟨rfl, rfl, rfl⟩ := e
    exact ⟨b, off, k', n', args', a', cap', ha, hS, rfl, e0, e1, e2, hN⟩

theorem Node.carry {w w' : World} {S T : Nat → Prop} {k n : Int} {args : List Lv} {a : Option Addr} {cap : Nat} (h : Node w S k n args a cap) (hb : ∀ b, S b → w'.heap[b]? = w.heap[b]?) (hT : ∀ b, S b → T b) : Node w' T k n args a cap :=
  (In.carry hb hT _ _ h.is).agg.2.2.2

theorem Node.below {w w' : World} {B C : Nat} {k n : Int} {args : List Lv} {a : Option Addr} {cap : Nat} (h : Node w (· < B) k n args a cap) (hb : Below C w w') (hB : B ≤ C) : Node w' (· < B) k n args a cap :=
  h.carry (fun b hlt => hb.block b (Nat.lt_of_lt_of_le hlt hB)) (fun _ h => h)

theorem Node.keep {w w' : World} {B : Nat} {S : Nat → Prop} {k n : Int} {args : List Lv} {a : Option Addr} {cap : Nat} (h : Node w (· < B) k n args a cap) (hk : Keep w w' S) (hB : B ≤ w.heap.size) (hS : ∀ b, S b → B ≤ b) : Node w' (· < B) k n args a cap :=
  h.below (hk.below hB hS) (Nat.le_refl _)

end Go.Proofs.YtkbpmpcbajnmlaaDoor

/- A range over a function whose iterator keeps lists of its own, in memory that grows. Of no program; no condition. -/
namespace Go.Proofs.YtkbpmpcbajnmlaaDoor
open Go.RowKit

theorem Keep.putObj {a w : World} {S : Nat → Prop} (h : Keep a w S) {g : Nat} (hS : g < a.heap.size → S g) (o : Obj) : Keep a (w.putObj g o) S :=
  ⟨h.os, h.tape, h.output, by simp; exact h.size, fun i hi hn => by
    rw [World.putObj_heap_other (fun e => hn (by subst e; exact hS hi))]; exact h.block i hi hn⟩

theorem Keep.put1 (w : World) (g : Nat) (o : Obj) : Keep w (w.putObj g o) (fun k => k = g) := (Keep.refl w (fun k => k = g)).putObj (g := g) (fun _ => rfl) o

/-- What an iterator tells: just xs, in order. Its own blocks are X: they grow; it reads those of L, too; all else it leaves. The rounds leave those of X and of L. -/
def SeqX {α : Type} (P : Program) (g : Nat) (lb : Array Value) (encs : α → Array Value) (xs : List α) (L : Nat → Prop) (w : World) : Prop :=
  ∀ (n l : Nat) (J : List α → (Nat → Prop) → World → Prop) (Jx : List α → World → Prop) (W : World), Keep w W (fun k => ¬ L k) →
    (∀ pre X X' A B, J pre X A → Keep A B X → (∀ k, X k → X' k) → (∀ k, X' k → X k ∨ A.heap.size ≤ k) → J pre X' B) →
    (∀ pre A B, Jx pre A → Keep A B (fun _ => False) → Jx pre B) →
    (∀ pre x rest X W1, xs = pre ++ x :: rest → J pre X W1 → YieldAt Fence.wide (n - 1) P l (encs x) W1 fun e W' =>
      (e = .returned (.bool true) ∧ J (pre ++ [x]) X W' ∧ Keep W1 W' (fun k => ¬ X k ∧ ¬ L k)) ∨ (e = .returned (.bool false) ∧ Jx (pre ++ [x]) W')) →
    J [] (fun _ => False) W →
    CallsIn Fence.wide n P g (#[.func (.yield l) #[] #[]] ++ lb) W fun e W' => (∃ v, e = .returned v) ∧ ((∃ X, J xs X W') ∨ (∃ pre, pre <+: xs ∧ Jx pre W'))

/-- How the body of a round may be left. -/
def postX {α : Type} (N : Nat) (L : Nat → Prop) (I : List α → (Nat → Prop) → World → Prop) (Ix : Code → List α → World → Prop) (xs : List α) (X : Nat → Prop) (W : World) : Exit → Act → World → Prop
  | .normal, _, W' => Keep W W' (fun k => ¬ X k ∧ ¬ L k ∧ k ≠ N ∧ k ≠ N + 1) ∧ I xs X W'
  | .ret, _, W' => Keep W W' (fun k => k ≠ N ∧ k ≠ N + 1) ∧ Ix .ret xs W'
  | .exit id, _, W' => Keep W W' (fun k => k ≠ N ∧ k ≠ N + 1) ∧ Ix (.exit id) xs W'
  | .goto t, _, W' => Keep W W' (fun k => k ≠ N ∧ k ≠ N + 1) ∧ Ix (.goto t) xs W'
  | .panic _, _, _ => False
  | .outgrown, _, _ => False

/-- The statement 'for .. := range g { .. }'. -/
theorem wpIn_range {α : Type} {P : Program} {n : Nat} {g : Operand} {ps : Array Tmp} {assign body : Code} {Q : Exit → Act → World → Prop} {a : Act} {w : World}
    {gf : Nat} {lb : Array Value} (hg : a.eval g = .func (.func gf) #[] lb) (eg : ∀ args w, (callFunc gf args).run P w = .ok (.enter gf args) w)
    {encs : α → Array Value} {xs : List α} {L : Nat → Prop} (hseq : SeqX P gf lb encs xs L w) (hL : ∀ k, L k → k < w.heap.size) (hps : ∀ x, (encs x).size = ps.size)
    (I : List α → (Nat → Prop) → World → Prop) (Ix : Code → List α → World → Prop)
    (hI : ∀ pre X X' A B, I pre X A → (∀ k, X k → w.heap.size + 2 ≤ k) → Keep A B (fun k => X k ∨ k = w.heap.size ∨ k = w.heap.size + 1) → (∀ k, X k → X' k) → (∀ k, X' k → X k ∨ A.heap.size ≤ k) → I pre X' B)
    (hIx : ∀ c pre A B, Ix c pre A → Keep A B (fun k => k = w.heap.size ∨ k = w.heap.size + 1) → Ix c pre B)
    (h0 : I [] (fun _ => False) w) (a₁ : α → Act)
    (hassign : ∀ (l : Nat) (x : α) (W : World) (K : Act → World → Prop), K (a₁ x) W →
      assign.wpIn (Fence.wide.inRound l) (n - 1 - 1) P (Exit.then K (fun _ _ _ => False)) { tmps := (ps.zip (encs x)).foldl (fun t (p, v) => t.setIfInBounds p v) a.tmps, defers := [] } W)
    (hbody : ∀ (l : Nat) (pre : List α) (x : α) (rest : List α) (X : Nat → Prop) (W : World), xs = pre ++ x :: rest → (∀ k, X k → w.heap.size + 2 ≤ k) → w.heap.size + 2 ≤ W.heap.size → I pre X W →
      body.wpIn (Fence.wide.inRound l) (n - 1 - 1) P (postX w.heap.size L I Ix (pre ++ [x]) X W) (a₁ x) W)
    (hdone : ∀ (X : Nat → Prop) (W : World), (∀ k, X k → w.heap.size + 2 ≤ k) → w.heap.size + 2 ≤ W.heap.size → I xs X W → W.heap[w.heap.size]? = some (.deferred (some [])) → Q .normal { a with defers := { target := .collected w.heap.size, args := #[] } :: a.defers } W)
    (hstop : ∀ (c : Code) (pre : List α) (W : World), w.heap.size + 2 ≤ W.heap.size → pre <+: xs → Ix c pre W → W.heap[w.heap.size]? = some (.deferred (some [])) → c.wpIn Fence.wide n P Q { a with defers := { target := .collected w.heap.size, args := #[] } :: a.defers } W) :
    (Code.rangeFunc g ps assign body).wpIn Fence.wide n P Q a w := by
  refine wpIn_rangeFunc ?_
  intro fn hfn
  rw [show Fence.wide.round = none from rfl]
  obtain ⟨rec, hrec⟩ : ∃ rec : LoopState → Option Code → Loop, rec = fun st pe => { state := st, pending := pe, fn, tmps := a.tmps, params := ps, assign, body, defers := w.heap.size } := ⟨_, rfl⟩
  obtain ⟨W1, hW1⟩ : ∃ W1, (w.alloc (.deferred (some []))).alloc (.loop (rec .ready none)) = W1 := ⟨_, rfl⟩
  have hL1 : W1.heap[w.heap.size + 1]? = some (.loop (rec .ready none)) := by
    rw [← hW1]; have := World.alloc_heap_new (w.alloc (.deferred (some []))) (.loop (rec .ready none)); rwa [World.size_alloc] at this
  have hK1 : W1.heap[w.heap.size]? = some (.deferred (some [])) := by
    rw [← hW1]; exact (Below.heap_alloc _ _ _ (by simp)).trans (World.alloc_heap_new w _)
  have hs1 : W1.heap.size = w.heap.size + 2 := by rw [← hW1]; simp
  have hk0 : Keep w W1 (fun _ => False) := by rw [← hW1]; exact ((Keep.refl _ _).alloc _).alloc _
  have hI1 : I [] (fun _ => False) W1 := hI _ _ _ _ _ h0 (fun _ h => h.elim) (hk0.mono (fun _ h => h.elim)) (fun _ h => h) (fun _ h => h.elim)
  refine ⟨w.heap.size + 1, [{ target := .collected w.heap.size, args := #[] }], W1, { target := .fn (.func gf) lb, args := #[.func (.yield (w.heap.size + 1)) #[] #[]] }, W1, gf,
    #[.func (.yield (w.heap.size + 1)) #[] #[]] ++ lb, W1, ?_, ?_, ?_, ?_, (fun h => by simp [Fence.wide] at h), ?_⟩
  · rw [← hW1, hrec]; exact run_enterLoop_outer _ _ _ _ _
  · simp only [resolve, hg]
    simp [go_sem]
  · intro f' _; exact trivial
  · simp [invoke, go_sem, eg]
  · refine (hseq (n - 1) (w.heap.size + 1)
      (fun pre X W => I pre X W ∧ (∀ k, X k → w.heap.size + 2 ≤ k) ∧ w.heap.size + 2 ≤ W.heap.size ∧ W.heap[w.heap.size + 1]? = some (.loop (rec .ready none)) ∧ W.heap[w.heap.size]? = some (.deferred (some [])))
      (fun pre W => ∃ c, Ix c pre W ∧ w.heap.size + 2 ≤ W.heap.size ∧ W.heap[w.heap.size + 1]? = some (.loop (rec .done (some c))) ∧ W.heap[w.heap.size]? = some (.deferred (some [])))
      W1 (hk0.mono (fun _ h => h.elim)) ?_ ?_ ?_ ⟨hI1, fun _ h => h.elim, by omega, hL1, hK1⟩).mono ?_
    · rintro pre X X' A B ⟨hi, hX, hsz, hl, hk⟩ hK hs hn
      have hX' : ∀ k, X' k → w.heap.size + 2 ≤ k := fun k h => (hn k h).elim (hX k) (fun h => by omega)
      exact ⟨hI _ _ _ _ _ hi hX (hK.mono (fun _ h => .inl h)) hs hn, hX', Nat.le_trans hsz hK.size, (hK.block _ (by omega) (fun h => by have := hX _ h; omega)).trans hl, (hK.block _ (by omega) (fun h => by have := hX _ h; omega)).trans hk⟩
    · rintro pre A B ⟨c, hi, hsz, hl, hk⟩ hK
      exact ⟨c, hIx c _ _ _ hi (hK.mono (fun _ h => h.elim)), Nat.le_trans hsz hK.size, (hK.block _ (by omega) (fun h => h)).trans hl, (hK.block _ (by omega) (fun h => h)).trans hk⟩
    · rintro pre x rest X W hxs ⟨hi, hX, hsz, hl, hk⟩
      have hlt : w.heap.size + 1 < W.heap.size := by omega
      have hy := run_yield (P := P) (args := encs x) hl (by rw [hrec]; exact hps x)
      rw [hrec] at hy
      refine ⟨fn, _, assign, body, hy, roundIn_of_wpIn hfn (hassign _ x W _ ⟨_, run_beginRound hl (by rw [hrec]), ?_⟩)⟩
      obtain ⟨W2, hW2⟩ : ∃ W2, W.putObj (w.heap.size + 1) (.loop { rec .ready none with state := .busy }) = W2 := ⟨_, rfl⟩
      have kW : Keep W W2 (fun k => k = w.heap.size + 1) := by rw [← hW2]; exact Keep.put1 _ _ _
      have hl2 : W2.heap[w.heap.size + 1]? = some (.loop { rec .ready none with state := .busy }) := by rw [← hW2]; exact World.putObj_heap_same hlt
      have hk2 : W2.heap[w.heap.size]? = some (.deferred (some [])) := by rw [← hW2]; exact (World.putObj_heap_other (by omega)).trans hk
      have hs2 : W2.heap.size = W.heap.size := by rw [← hW2]; simp
      rw [hW2]
      refine wpIn_mono (hbody _ pre x rest X W2 hxs hX (by omega) (hI _ _ _ _ _ hi hX (kW.mono (fun _ h => .inr (.inr h))) (fun _ h => h) (fun _ h => .inl h))) ?_
      have fin : ∀ (jump : Option Code) (W3 : World), Keep W2 W3 (fun k => k ≠ w.heap.size ∧ k ≠ w.heap.size + 1) →
          ∃ W4, (Instr.endRound (w.heap.size + 1) jump).run P W3 = .ok (.bool jump.isNone) W4 ∧ Keep W3 W4 (fun k => k = w.heap.size + 1) ∧
          W4.heap[w.heap.size + 1]? = some (.loop (rec (if jump.isNone then .ready else .done) jump)) ∧ W4.heap[w.heap.size]? = some (.deferred (some [])) ∧ w.heap.size + 2 ≤ W4.heap.size := fun jump W3 hk3 => by
        have hl3 : W3.heap[w.heap.size + 1]? = some (.loop { rec .ready none with state := .busy }) := (hk3.block _ (by omega) (fun h => h.2 rfl)).trans hl2
        have hk4 : W3.heap[w.heap.size]? = some (.deferred (some [])) := (hk3.block _ (by omega) (fun h => h.1 rfl)).trans hk2
        have hsz3 := hk3.size
        have hr := run_endRound (P := P) jump hl3
        rw [hrec] at hr ⊢
        exact ⟨_, hr, Keep.put1 _ _ _, World.putObj_heap_same (by omega), (World.putObj_heap_other (by omega)).trans hk4, by simp; omega⟩
      rintro e a3 W3 hp
      cases e with
      | normal =>
        obtain ⟨hk3, hi3⟩ := hp
        obtain ⟨W4, hr, hk4, hl4, hd4, hs4⟩ := fin none W3 (hk3.mono (fun _ h => h.2.2))
        refine ⟨_, _, hr, .inl ⟨rfl, ⟨hI _ _ _ _ _ hi3 hX (hk4.mono (fun _ h => .inr (.inr h))) (fun _ h => h) (fun _ h => .inl h), hX, hs4, hl4, hd4⟩, ?_⟩⟩
        have kp : ∀ k, k = w.heap.size + 1 → ¬ X k ∧ ¬ L k := fun k e => ⟨fun h => by have := hX k h; omega, fun h => by have := hL k h; omega⟩
        exact ((kW.mono kp).trans (hk3.mono (fun _ h => ⟨h.1, h.2.1⟩)) (fun _ _ h => h)).trans (hk4.mono kp) (fun _ _ h => h)
      | ret =>
        obtain ⟨hk3, hi3⟩ := hp
        obtain ⟨W4, hr, hk4, hl4, hd4, hs4⟩ := fin (some .ret) W3 hk3
        exact ⟨_, _, hr, .inr ⟨rfl, .ret, hIx _ _ _ _ hi3 (hk4.mono (fun _ h => .inr h)), hs4, hl4, hd4⟩⟩
      | exit id =>
        obtain ⟨hk3, hi3⟩ := hp
        obtain ⟨W4, hr, hk4, hl4, hd4, hs4⟩ := fin (some (.exit id)) W3 hk3
        exact ⟨_, _, hr, .inr ⟨rfl, .exit id, hIx _ _ _ _ hi3 (hk4.mono (fun _ h => .inr h)), hs4, hl4, hd4⟩⟩
      | goto t =>
        obtain ⟨hk3, hi3⟩ := hp
        obtain ⟨W4, hr, hk4, hl4, hd4, hs4⟩ := fin (some (.goto t)) W3 hk3
        exact ⟨_, _, hr, .inr ⟨rfl, .goto t, hIx _ _ _ _ hi3 (hk4.mono (fun _ h => .inr h)), hs4, hl4, hd4⟩⟩
      | panic ch => exact hp.elim
      | outgrown => exact hp.elim
    · rintro e W2 ⟨⟨v, rfl⟩, (⟨X, hi, hX, hsz, hl, hk⟩ | ⟨pre, hpre, c, hi, hsz, hl, hk⟩)⟩
      · have kP : Keep W2 (W2.putObj (w.heap.size + 1) (.loop { rec .ready none with state := .exhausted })) (fun k => k = w.heap.size + 1) := Keep.put1 _ _ _
        exact ⟨none, _, by have := run_endLoop (P := P) hl (by rw [hrec]; simp); rw [hrec] at this; exact this, by
          have := hdone X _ hX (by simp; omega) (hI _ _ _ _ _ hi hX (kP.mono (fun _ h => .inr (.inr h))) (fun _ h => h) (fun _ h => .inl h)) ((World.putObj_heap_other (by omega)).trans hk)
          rw [hrec] at this; exact this⟩
      · have kP : Keep W2 (W2.putObj (w.heap.size + 1) (.loop { rec .done (some c) with state := .exhausted })) (fun k => k = w.heap.size + 1) := Keep.put1 _ _ _
        exact ⟨some c, _, by have := run_endLoop (P := P) hl (by rw [hrec]; simp); rw [hrec] at this; exact this, by
          have := hstop c pre _ (by simp; omega) hpre (hIx _ _ _ _ hi (kP.mono (fun _ h => .inr h))) ((World.putObj_heap_other (by omega)).trans hk)
          rw [hrec] at this; exact this⟩

end Go.Proofs.YtkbpmpcbajnmlaaDoor

/- Terms as they lie in memory, and their parts in order. Of no program; no condition. -/
namespace Go.Proofs.YtkbpmpcbajnmlaaDoor
open Go.RowKit

inductive Tr where
  | mk (k n : Int) (s : ByteArray) (ls : List Lv) (la : Option Addr) (lc : Nat) (a : Option Addr) (c : Nat) (b off : Nat) (args : List Tr)

/-- A term as it lies in memory, with its lists' headers, and where its Args lie. -/
theorem Tr.ind {P : Tr → Prop} (h : ∀ k n s ls la lc a c b off args, (∀ T ∈ args, P T) → P (.mk k n s ls la lc a c b off args)) : ∀ T, P T := fun T =>
  Tr.rec (motive_1 := P) (motive_2 := fun l => ∀ T ∈ l, P T) (fun k n s ls la lc a c b off args ih => h k n s ls la lc a c b off args ih) (fun _ hx => by cases hx)
    (fun _ _ h1 h2 x hx => by rcases List.mem_cons.1 hx with rfl | hx; exact h1; exact h2 x hx) T

def Tr.k : Tr → Int | .mk k _ _ _ _ _ _ _ _ _ _ => k

def Tr.n : Tr → Int | .mk _ n _ _ _ _ _ _ _ _ _ => n

def Tr.s : Tr → ByteArray | .mk _ _ s _ _ _ _ _ _ _ _ => s

def Tr.ls : Tr → List Lv | .mk _ _ _ ls _ _ _ _ _ _ _ => ls

def Tr.la : Tr → Option Addr | .mk _ _ _ _ la _ _ _ _ _ _ => la

def Tr.lc : Tr → Nat | .mk _ _ _ _ _ lc _ _ _ _ _ => lc

def Tr.a : Tr → Option Addr | .mk _ _ _ _ _ _ a _ _ _ _ => a

def Tr.c : Tr → Nat | .mk _ _ _ _ _ _ _ c _ _ _ => c

def Tr.b : Tr → Nat | .mk _ _ _ _ _ _ _ _ b _ _ => b

def Tr.off : Tr → Nat | .mk _ _ _ _ _ _ _ _ _ off _ => off

def Tr.args : Tr → List Tr | .mk _ _ _ _ _ _ _ _ _ _ args => args

theorem Tr.eta (T : Tr) : T = .mk T.k T.n T.s T.ls T.la T.lc T.a T.c T.b T.off T.args := by cases T; rfl

theorem Tr.ind' {P : Tr → Prop} (h : ∀ T : Tr, (∀ x ∈ T.args, P x) → P T) (T : Tr) : P T := by
  refine Tr.ind (P := P) ?_ T
  intro k n s ls la lc a c b off args ih
  exact h (.mk k n s ls la lc a c b off args) ih

def Tr.val (T : Tr) : Value := .agg #[.int .i64 T.k, .int .i64 T.n, .string T.s, .slice T.la T.ls.length T.lc, .slice T.a T.args.length T.c]

mutual

/-- How many parts it has. -/
def Tr.size : Tr → Nat
  | .mk _ _ _ _ _ _ _ _ _ _ args => Tr.sizes args + 1

def Tr.sizes : List Tr → Nat
  | [] => 0
  | T :: r => T.size + Tr.sizes r

end

theorem Tr.size_eq (T : Tr) : T.size = Tr.sizes T.args + 1 := by cases T; simp only [Tr.size, Tr.args]

theorem Tr.size_pos (T : Tr) : 1 ≤ T.size := by rw [Tr.size_eq]; omega

theorem Tr.sizes_append (a b : List Tr) : Tr.sizes (a ++ b) = Tr.sizes a + Tr.sizes b := by
  induction a with
  | nil => simp only [List.nil_append, Tr.sizes]; omega
  | cons x r ih => simp only [List.cons_append, Tr.sizes, ih]; omega

theorem Tr.sizes_take {args : List Tr} {i : Nat} {L : Tr} (h : args[i]? = some L) : Tr.sizes (args.take (i + 1)) = Tr.sizes (args.take i) + L.size := by
  have hi := (List.getElem?_eq_some_iff.1 h).1
  have e : args.take (i + 1) = args.take i ++ [L] := by
    rw [List.take_succ_eq_append_getElem hi, (List.getElem?_eq_some_iff.1 h).2]
  rw [e, Tr.sizes_append]; simp only [Tr.sizes]; omega

theorem Tr.sizes_take_le (args : List Tr) (i : Nat) : Tr.sizes (args.take i) ≤ Tr.sizes args := by
  have e : Tr.sizes args = Tr.sizes (args.take i) + Tr.sizes (args.drop i) := by rw [← Tr.sizes_append, List.take_append_drop]
  omega

theorem Tr.size_mem {args : List Tr} {L : Tr} (h : L ∈ args) : L.size ≤ Tr.sizes args := by
  induction args with
  | nil => cases h
  | cons x r ih =>
    simp only [Tr.sizes]
    rcases List.mem_cons.1 h with rfl | h
    · omega
    · have := ih h; omega

theorem Tr.sizes_len (l : List Tr) : l.length ≤ Tr.sizes l := by
  induction l with
  | nil => simp [Tr.sizes]
  | cons x r ih => have := x.size_pos; simp only [Tr.sizes, List.length_cons]; omega

/-- The five cells of a term at a place. -/
structure TCells (w : World) (b off : Nat) (T : Tr) : Prop where
  c0 : w.cell? ⟨b, off, none⟩ = some (.int .i64 T.k)
  c1 : w.cell? ⟨b, off + 1, none⟩ = some (.int .i64 T.n)
  c2 : w.cell? ⟨b, off + 2, none⟩ = some (.string T.s)
  c3 : w.cell? ⟨b, off + 3, none⟩ = some (.slice T.la T.ls.length T.lc)
  c4 : w.cell? ⟨b, off + 4, none⟩ = some (.slice T.a T.args.length T.c)

theorem TCells.carry {w w' : World} {b off : Nat} {T : Tr} (h : TCells w b off T) (hb : w'.heap[b]? = w.heap[b]?) : TCells w' b off T :=
  ⟨(World.cell?_of_block (w := w) hb).trans h.c0, (World.cell?_of_block (w := w) hb).trans h.c1, (World.cell?_of_block (w := w) hb).trans h.c2, (World.cell?_of_block (w := w) hb).trans h.c3, (World.cell?_of_block (w := w) hb).trans h.c4⟩

theorem TCells.lt {w : World} {b off : Nat} {T : Tr} (h : TCells w b off T) : b < w.heap.size := World.block_lt_of_cell? w _ h.c0

mutual

/-- What is behind a term's value lies in blocks of S. -/
def TIn (w : World) (S : Nat → Prop) : Tr → Prop
  | .mk k n _ ls la lc a c b off args => (-9223372036854775808 ≤ k ∧ k ≤ 9223372036854775807) ∧ (-9223372036854775808 ≤ n ∧ n ≤ 9223372036854775807) ∧ Node w S 0 0 ls la lc ∧ args.length ≤ c ∧ c ≤ maxLen ∧
      (args = [] ∨ (a = some ⟨b, off, none⟩ ∧ S b ∧ TAll w S b off args))

def TAll (w : World) (S : Nat → Prop) (b : Nat) : Nat → List Tr → Prop
  | _, [] => True
  | off, T :: r => (TCells w b off T ∧ TIn w S T) ∧ TAll w S b (off + 5) r

end

structure TNode (w : World) (S : Nat → Prop) (T : Tr) : Prop where
  k0 : -9223372036854775808 ≤ T.k
  k1 : T.k ≤ 9223372036854775807
  n0 : -9223372036854775808 ≤ T.n
  n1 : T.n ≤ 9223372036854775807
  lv : Node w S 0 0 T.ls T.la T.lc
  le : T.args.length ≤ T.c
  max : T.c ≤ 9223372036854775807
  all : T.args = [] ∨ (T.a = some ⟨T.b, T.off, none⟩ ∧ S T.b ∧ TAll w S T.b T.off T.args)

theorem tin_iff {w : World} {S : Nat → Prop} {T : Tr} : TIn w S T ↔ TNode w S T := by
  cases T
  rw [TIn]
  exact ⟨fun ⟨⟨h1, h2⟩, ⟨h3, h4⟩, h5, h6, h7, h8⟩ => ⟨h1, h2, h3, h4, h5, h6, h7, h8⟩, fun h => ⟨⟨h.k0, h.k1⟩, ⟨h.n0, h.n1⟩, h.lv, h.le, h.max, h.all⟩⟩

theorem tall_cons {w : World} {S : Nat → Prop} {b off : Nat} {T : Tr} {r : List Tr} : TAll w S b off (T :: r) ↔ (TCells w b off T ∧ TIn w S T) ∧ TAll w S b (off + 5) r := by rw [TAll]

theorem TAll.get {w : World} {S : Nat → Prop} {b : Nat} {args : List Tr} : ∀ {off : Nat}, TAll w S b off args → ∀ i L, args[i]? = some L → TCells w b (off + i * 5) L ∧ TIn w S L := by
  induction args with
  | nil => intro off _ i L h; simp at h
  | cons x r ih =>
    intro off h i L hi
    rw [tall_cons] at h
    cases i with
    | zero => simp at hi; subst hi; simpa using h.1
    | succ i =>
      have := ih h.2 i L (by simpa using hi)
      rw [show off + (i + 1) * 5 = off + 5 + i * 5 by omega]
      exact this

theorem TAll.of_get {w : World} {S : Nat → Prop} {b : Nat} {args : List Tr} : ∀ {off : Nat}, (∀ i L, args[i]? = some L → TCells w b (off + i * 5) L ∧ TIn w S L) → TAll w S b off args := by
  induction args with
  | nil => intro off _; rw [TAll]; trivial
  | cons x r ih =>
    intro off h
    rw [tall_cons]
    refine ⟨by simpa using h 0 x (by simp), ih fun i L hi => ?_⟩
    have := h (i + 1) L (by simpa using hi)
    rw [show off + (i + 1) * 5 = off + 5 + i * 5 by omega] at this
    exact this

/-- The i-th of the args: where it lies. -/
theorem TIn.get {w : World} {S : Nat → Prop} {T : Tr} (h : TIn w S T) {i : Nat} {L : Tr} (hi : T.args[i]? = some L) : T.a = some ⟨T.b, T.off, none⟩ ∧ S T.b ∧ TCells w T.b (T.off + i * 5) L ∧ TIn w S L := by
  rcases (tin_iff.1 h).all with h0 | ⟨ha, hS, hall⟩
  · rw [h0] at hi; simp at hi
  · exact ⟨ha, hS, hall.get i L hi⟩

/-- It stays where its blocks stay. -/
theorem TIn.carry {w w' : World} {S T : Nat → Prop} (hb : ∀ b, S b → w'.heap[b]? = w.heap[b]?) (hT : ∀ b, S b → T b) (t : Tr) : TIn w S t → TIn w' T t := by
  refine Tr.ind' (P := fun t => TIn w S t → TIn w' T t) ?_ t
  intro t ih h
  have hn := tin_iff.1 h
  refine tin_iff.2 ⟨hn.k0, hn.k1, hn.n0, hn.n1, hn.lv.carry hb hT, hn.le, hn.max, ?_⟩
  rcases hn.all with h0 | ⟨ha, hS, hall⟩
  · exact .inl h0
  · refine .inr ⟨ha, hT _ hS, TAll.of_get fun i L hi => ?_⟩
    have := hall.get i L hi
    exact ⟨this.1.carry (hb _ hS), ih L (List.mem_of_getElem? hi) this.2⟩

theorem TIn.mono {w : World} {S T : Nat → Prop} {t : Tr} (h : TIn w S t) (hT : ∀ b, S b → T b) : TIn w T t := TIn.carry (fun _ _ => rfl) hT t h

theorem TIn.below {w w' : World} {B C : Nat} {t : Tr} (h : TIn w (· < B) t) (hb : Below C w w') (hB : B ≤ C) : TIn w' (· < B) t :=
  TIn.carry (fun b hlt => hb.block b (Nat.lt_of_lt_of_le hlt hB)) (fun _ h => h) t h

theorem TIn.keep {w w' : World} {B : Nat} {S : Nat → Prop} {t : Tr} (h : TIn w (· < B) t) (hk : Keep w w' S) (hB : B ≤ w.heap.size) (hS : ∀ b, S b → B ≤ b) : TIn w' (· < B) t :=
  h.below (hk.below hB hS) (Nat.le_refl _)

theorem TIn.drew {w : World} {S : Nat → Prop} {t : Tr} (h : TIn w S t) : TIn w.drew S t := TIn.carry (w := w) (w' := w.drew) (S := S) (fun _ _ => rfl) (fun _ h => h) t h

/-- Does the i-th of the args stand below the binder? -/
def bnd (k : Int) (i : Nat) : Nat := if (k = 4 ∨ k = 5) ∧ i = 1 ∨ k = 6 ∧ i = 2 then 1 else 0

theorem bnd_le (k : Int) (i : Nat) : bnd k i ≤ 1 := by unfold bnd; split <;> omega

/-- A part: where it lies, how deep, below how many binders. -/
structure Pt where
  b : Nat
  off : Nat
  t : Tr
  d : Nat
  m : Nat

def Pt.val (p : Pt) : Value := .agg #[.pointer (some ⟨p.b, p.off, none⟩), .int .i64 (p.d : Int), .int .i64 (p.m : Int)]

/-- Its i-th arg. -/
def Pt.kid (p : Pt) (i : Nat) (T : Tr) : Pt := ⟨p.t.b, p.t.off + i * 5, T, p.d + 1, p.m + bnd p.t.k i⟩

mutual

def Tr.seq (b off d m : Nat) : Tr → List Pt
  | .mk k n s ls la lc a c b' off' args => ⟨b, off, .mk k n s ls la lc a c b' off' args, d, m⟩ :: Tr.seqs k b' off' (d + 1) m 0 args

def Tr.seqs (k : Int) (b off d m : Nat) : Nat → List Tr → List Pt
  | _, [] => []
  | i, T :: r => T.seq b (off + i * 5) d (m + bnd k i) ++ Tr.seqs k b off d m (i + 1) r

end

/-- All parts of a part. -/
def Pt.seq (p : Pt) : List Pt := p.t.seq p.b p.off p.d p.m

/-- All parts below, from the j-th arg on. -/
def Pt.from (p : Pt) (j : Nat) : List Pt := Tr.seqs p.t.k p.t.b p.t.off (p.d + 1) p.m j (p.t.args.drop j)

theorem Pt.seq_eq (p : Pt) : p.seq = p :: p.from 0 := by
  obtain ⟨b, off, t, d, m⟩ := p
  cases t
  simp only [Pt.seq, Tr.seq, Pt.from, List.drop_zero, Tr.k, Tr.b, Tr.off, Tr.args]

theorem Pt.from_lt (p : Pt) {j : Nat} {T : Tr} (h : p.t.args[j]? = some T) : p.from j = (p.kid j T).seq ++ p.from (j + 1) := by
  have hj := (List.getElem?_eq_some_iff.1 h).1
  unfold Pt.from
  rw [List.drop_eq_getElem_cons hj, (List.getElem?_eq_some_iff.1 h).2, Tr.seqs]
  rfl

theorem Pt.from_ge (p : Pt) {j : Nat} (h : p.t.args.length ≤ j) : p.from j = [] := by
  unfold Pt.from
  rw [List.drop_of_length_le h, Tr.seqs]

theorem Tr.seqs_len (k : Int) (b off d m : Nat) (l : List Tr) : (∀ T ∈ l, ∀ b off d m, (T.seq b off d m).length = T.size) → ∀ i, (Tr.seqs k b off d m i l).length = Tr.sizes l := by
  induction l with
  | nil => intro _ i; simp [Tr.seqs, Tr.sizes]
  | cons x r ih => intro h i; rw [Tr.seqs, List.length_append, h x (by simp), ih (fun T hT => h T (by simp [hT])), Tr.sizes]

theorem Tr.seq_len (T : Tr) : ∀ b off d m, (T.seq b off d m).length = T.size := by
  refine Tr.ind (P := fun T => ∀ b off d m, (T.seq b off d m).length = T.size) ?_ T
  intro k n s ls la lc a c b off args ih b' off' d m
  rw [Tr.seq, List.length_cons, Tr.seqs_len _ _ _ _ _ _ ih, Tr.size]

/-- Where an iterator is: the parts that are open, the last one first, and which of their args comes next. -/
abbrev Stk := List (Pt × Nat)

def Stk.rem (st : Stk) : List Pt := st.flatMap fun x => x.1.from x.2

/-- What comes behind a part p when st is open. -/
def push (p : Pt) (st : Stk) : Stk := if p.t.args = [] then st else (p, 0) :: st

theorem push_rem (p : Pt) (st : Stk) : p :: Stk.rem (push p st) = p.seq ++ Stk.rem st := by
  unfold push
  split
  · rename_i h; rw [p.seq_eq, p.from_ge (by simp [h])]; rfl
  · rw [p.seq_eq]; simp [Stk.rem]

/-- One of the open one's args is taken. -/
def took (p : Pt) (j : Nat) (st : Stk) : Stk := if j + 1 = p.t.args.length then st else (p, j + 1) :: st

theorem took_rem (p : Pt) (j : Nat) (st : Stk) {T : Tr} (h : p.t.args[j]? = some T) : Stk.rem ((p, j) :: st) = (p.kid j T).seq ++ Stk.rem (took p j st) := by
  unfold took
  split
  · rename_i e; simp only [Stk.rem, List.flatMap_cons]; rw [p.from_lt h, p.from_ge (j := j + 1) (by omega)]; simp
  · simp only [Stk.rem, List.flatMap_cons]; rw [p.from_lt h]; simp

theorem Pt.kid_t (p : Pt) (i : Nat) (T : Tr) : (p.kid i T).t = T := rfl

/-- The cells of what is open, the first one first. -/
def Stk.cells : Stk → List Value
  | [] => []
  | (p, j) :: r => Stk.cells r ++ [.pointer (some ⟨p.b, p.off, none⟩), .int .i64 (p.d : Int), .int .i64 (p.m : Int), .int .i64 (j : Int)]

theorem Stk.cells_len (st : Stk) : (Stk.cells st).length = st.length * 4 := by
  induction st with
  | nil => rfl
  | cons x r ih => obtain ⟨p, j⟩ := x; rw [Stk.cells, List.length_append, ih]; simp; omega

end Go.Proofs.YtkbpmpcbajnmlaaDoor
