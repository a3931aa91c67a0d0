/- Levels as plain trees: which may be, what they are worth, and that few places tell of all. Of no program; no condition. -/
namespace Go.Proofs.Ytemgmphddmlmlaa

inductive Lv where
  | mk (k n : Int) (args : List Lv)

/-- A level as it lies in memory, whatever it may be. -/
theorem Lv.ind {P : Lv → Prop} (h : ∀ k n args, (∀ L ∈ args, P L) → P (.mk k n args)) : ∀ L, P L := fun L =>
  Lv.rec (motive_1 := P) (motive_2 := fun l => ∀ L ∈ l, P L) (fun k n args ih => h k n args ih) (fun _ hx => by cases hx)
    (fun _ _ h1 h2 x hx => by rcases List.mem_cons.1 hx with rfl | hx; exact h1; exact h2 x hx) L

mutual

/-- How many parts it has. -/
def Lv.size : Lv → Nat
  | .mk _ _ args => Lv.sizes args + 1

def Lv.sizes : List Lv → Nat
  | [] => 0
  | L :: r => L.size + Lv.sizes r

end

theorem Lv.size_mk (k n : Int) (args : List Lv) : (Lv.mk k n args).size = Lv.sizes args + 1 := by simp only [Lv.size]

theorem Lv.size_pos (L : Lv) : 1 ≤ L.size := by cases L; rw [Lv.size_mk]; omega

theorem Lv.sizes_append (a b : List Lv) : Lv.sizes (a ++ b) = Lv.sizes a + Lv.sizes b := by
  induction a with
  | nil => simp only [List.nil_append, Lv.sizes]; omega
  | cons x r ih => simp only [List.cons_append, Lv.sizes, ih]; omega

theorem Lv.sizes_take {args : List Lv} {i : Nat} {L : Lv} (h : args[i]? = some L) : Lv.sizes (args.take (i + 1)) = Lv.sizes (args.take i) + L.size := by
  have hi := (List.getElem?_eq_some_iff.1 h).1
  have e : args.take (i + 1) = args.take i ++ [L] := by
    rw [List.take_succ_eq_append_getElem hi, (List.getElem?_eq_some_iff.1 h).2]
  rw [e, Lv.sizes_append]; simp only [Lv.sizes]; omega

theorem Lv.sizes_take_le (args : List Lv) (i : Nat) : Lv.sizes (args.take i) ≤ Lv.sizes args := by
  have e : Lv.sizes args = Lv.sizes (args.take i) + Lv.sizes (args.drop i) := by rw [← Lv.sizes_append, List.take_append_drop]
  omega

theorem Lv.size_mem {args : List Lv} {L : Lv} (h : L ∈ args) : L.size ≤ Lv.sizes args := by
  induction args with
  | nil => cases h
  | cons x r ih =>
    simp only [Lv.sizes]
    rcases List.mem_cons.1 h with rfl | h
    · omega
    · have := ih h; omega

/-- How many Args a kind has. -/
def cnt (k : Int) : Int := if k = 0 ∨ k = 4 then 0 else if k = 1 then 1 else if k = 2 ∨ k = 3 then 2 else -1

/-- May N be? -/
def numB (p k n : Int) : Bool := if k = 4 then decide (0 ≤ n ∧ n < p) else decide (n = 0)

mutual

/-- Is it well formed, its parameters below p, itself d deep and nothing deeper than m? -/
def Lv.ok (p m : Int) : Nat → Lv → Bool
  | d, .mk k n args => decide ((d : Int) ≤ m) && decide (cnt k = args.length) && numB p k n && Lv.oks p m (d + 1) args

def Lv.oks (p m : Int) : Nat → List Lv → Bool
  | _, [] => true
  | d, L :: r => L.ok p m d && Lv.oks p m d r

end

theorem Lv.ok_mk (p m : Int) (d : Nat) (k n : Int) (args : List Lv) : (Lv.mk k n args).ok p m d = (decide ((d : Int) ≤ m) && decide (cnt k = args.length) && numB p k n && Lv.oks p m (d + 1) args) := by simp only [Lv.ok]

theorem Lv.oks_iff {p m : Int} {d : Nat} {args : List Lv} : Lv.oks p m d args = true ↔ ∀ L ∈ args, L.ok p m d = true := by
  induction args with
  | nil => simp [Lv.oks]
  | cons x r ih => simp [Lv.oks, ih]

theorem Lv.oks_false {p m : Int} {d : Nat} {args : List Lv} {i : Nat} {L : Lv} (h : args[i]? = some L) (hL : L.ok p m d = false) : Lv.oks p m d args = false := by
  cases e : Lv.oks p m d args with
  | false => rfl
  | true => have := Lv.oks_iff.1 e L (List.mem_of_getElem? h); rw [this] at hL; cases hL

theorem Lv.oks_take_succ {p m : Int} {d : Nat} {args : List Lv} {i : Nat} {L : Lv} (h : args[i]? = some L) (hi : Lv.oks p m d (args.take i) = true) (hL : L.ok p m d = true) : Lv.oks p m d (args.take (i + 1)) = true := by
  rw [Lv.oks_iff] at hi ⊢
  have hl := (List.getElem?_eq_some_iff.1 h).1
  rw [List.take_succ_eq_append_getElem hl, (List.getElem?_eq_some_iff.1 h).2]
  intro x hx
  rcases List.mem_append.1 hx with hx | hx
  · exact hi x hx
  · simp at hx; subst hx; exact hL

mutual

/-- Below which number its parameters are. -/
def Lv.used : Lv → Int
  | .mk k n args => max (if k = 4 then n + 1 else 0) (Lv.useds args)

def Lv.useds : List Lv → Int
  | [] => 0
  | L :: r => max L.used (Lv.useds r)

end

theorem Lv.used_mk (k n : Int) (args : List Lv) : (Lv.mk k n args).used = max (if k = 4 then n + 1 else 0) (Lv.useds args) := by simp only [Lv.used]

theorem Lv.useds_nonneg (l : List Lv) : 0 ≤ Lv.useds l := by
  induction l with
  | nil => simp [Lv.useds]
  | cons x r ih => simp only [Lv.useds]; omega

theorem Lv.useds_append (a b : List Lv) : Lv.useds (a ++ b) = max (Lv.useds a) (Lv.useds b) := by
  induction a with
  | nil => have := Lv.useds_nonneg b; simp only [List.nil_append, Lv.useds]; omega
  | cons x r ih => simp only [List.cons_append, Lv.useds, ih]; omega

theorem Lv.used_nonneg (L : Lv) : 0 ≤ L.used := by cases L with | mk k n args => rw [Lv.used_mk]; have := Lv.useds_nonneg args; omega

theorem Lv.useds_take {args : List Lv} {i : Nat} {L : Lv} (h : args[i]? = some L) : Lv.useds (args.take (i + 1)) = max (Lv.useds (args.take i)) L.used := by
  have hi := (List.getElem?_eq_some_iff.1 h).1
  have := Lv.used_nonneg L
  rw [List.take_succ_eq_append_getElem hi, (List.getElem?_eq_some_iff.1 h).2, Lv.useds_append]; simp only [Lv.useds]; omega

inductive Lev where
  | zero | succ (a : Lev) | max (a b : Lev) | imax (a b : Lev) | par (n : Nat)
deriving DecidableEq

def Lev.lv : Lev → Lv
  | .zero => .mk 0 0 []
  | .succ a => .mk 1 0 [a.lv]
  | .max a b => .mk 2 0 [a.lv, b.lv]
  | .imax a b => .mk 3 0 [a.lv, b.lv]
  | .par n => .mk 4 n []

/-- Its parameters are below p. -/
def Lev.low (p : Nat) : Lev → Prop
  | .zero => True
  | .succ a => a.low p
  | .max a b => a.low p ∧ b.low p
  | .imax a b => a.low p ∧ b.low p
  | .par n => n < p

theorem lev_of_ok (p m : Int) (L : Lv) : ∀ d, L.ok p m d = true → ∃ l : Lev, L = l.lv ∧ l.low p.toNat := by
  refine Lv.ind (P := fun L => ∀ d, L.ok p m d = true → ∃ l : Lev, L = l.lv ∧ l.low p.toNat) ?_ L
  intro k n args ih d h
  rw [Lv.ok_mk] at h
  simp only [Bool.and_eq_true, decide_eq_true_eq] at h
  obtain ⟨⟨⟨_, hc⟩, hn⟩, ho⟩ := h
  rw [Lv.oks_iff] at ho
  unfold cnt at hc
  unfold numB at hn
  by_cases h4 : k = 4
  · subst h4
    simp at hc hn
    have : args = [] := List.eq_nil_of_length_eq_zero (by omega)
    subst this
    refine ⟨.par n.toNat, ?_, ?_⟩
    · simp only [Lev.lv]; congr 1; omega
    · simp only [Lev.low]; omega
  · rw [if_neg h4] at hn
    simp at hn
    subst hn
    by_cases h0 : k = 0
    · subst h0
      simp at hc
      have : args = [] := List.eq_nil_of_length_eq_zero (by omega)
      subst this
      exact ⟨.zero, rfl, trivial⟩
    · rw [if_neg (by omega)] at hc
      by_cases h1 : k = 1
      · subst h1
        simp at hc
        match args, hc, ih, ho with
        | [x], _, ih, ho =>
          obtain ⟨l, rfl, hl⟩ := ih x (by simp) (d + 1) (ho x (by simp))
          exact ⟨.succ l, rfl, hl⟩
      · rw [if_neg h1] at hc
        by_cases h23 : k = 2 ∨ k = 3
        · rw [if_pos h23] at hc
          match args, hc, ih, ho with
          | [x, y], _, ih, ho =>
            obtain ⟨l, rfl, hl⟩ := ih x (by simp) (d + 1) (ho x (by simp))
            obtain ⟨l', rfl, hl'⟩ := ih y (by simp) (d + 1) (ho y (by simp))
            rcases h23 with rfl | rfl
            · exact ⟨.max l l', rfl, hl, hl'⟩
            · exact ⟨.imax l l', rfl, hl, hl'⟩
          | [], hc, _, _ => simp at hc
          | [_], hc, _, _ => simp at hc
          | _ :: _ :: _ :: _, hc, _, _ => simp at hc; omega
        · rw [if_neg h23] at hc; omega

def Lev.size : Lev → Nat
  | .zero => 1
  | .succ a => a.size + 1
  | .max a b => a.size + b.size + 1
  | .imax a b => a.size + b.size + 1
  | .par _ => 1

theorem Lev.size_lv (l : Lev) : l.lv.size = l.size := by
  induction l with
  | zero => simp [Lev.lv, Lev.size, Lv.size, Lv.sizes]
  | succ a ih => simp [Lev.lv, Lev.size, Lv.size, Lv.sizes, ih]
  | max a b iha ihb => simp [Lev.lv, Lev.size, Lv.size, Lv.sizes, iha, ihb]
  | imax a b iha ihb => simp [Lev.lv, Lev.size, Lv.size, Lv.sizes, iha, ihb]
  | par n => simp [Lev.lv, Lev.size, Lv.size, Lv.sizes]

/-- What it is worth. -/
def Lev.val (v : Nat → Nat) : Lev → Nat
  | .zero => 0
  | .succ a => a.val v + 1
  | .max a b => Nat.max (a.val v) (b.val v)
  | .imax a b => if b.val v = 0 then 0 else Nat.max (a.val v) (b.val v)
  | .par n => v n

theorem Lev.val_le (l : Lev) (v : Nat → Nat) (M : Nat) (h : ∀ i, v i ≤ M) : l.val v ≤ M + l.size := by
  induction l with
  | zero => simp [Lev.val]
  | succ a ih => simp only [Lev.val, Lev.size]; omega
  | max a b iha ihb => simp only [Lev.val, Lev.size]; have := Nat.max_le.2 ⟨iha, Nat.le_refl _⟩; simp only [Nat.max_def]; split <;> omega
  | imax a b iha ihb =>
    simp only [Lev.val, Lev.size]
    split
    · omega
    · simp only [Nat.max_def]; split <;> omega
  | par n => simp only [Lev.val, Lev.size]; have := h n; omega

theorem Lev.val_mono (l : Lev) {u v : Nat → Nat} (h : ∀ i, u i ≤ v i) : l.val u ≤ l.val v := by
  induction l with
  | zero => simp [Lev.val]
  | succ a ih => simp only [Lev.val]; omega
  | max a b iha ihb => simp only [Lev.val, Nat.max_def]; split <;> split <;> omega
  | imax a b iha ihb => simp only [Lev.val, Nat.max_def]; split <;> split <;> (try split) <;> (try split) <;> omega
  | par n => exact h n

theorem Lev.val_congr (l : Lev) {p : Nat} {u v : Nat → Nat} (hl : l.low p) (h : ∀ i, i < p → u i = v i) : l.val u = l.val v := by
  induction l with
  | zero => rfl
  | succ a ih => simp only [Lev.val, ih hl]
  | max a b iha ihb => simp only [Lev.val, iha hl.1, ihb hl.2]
  | imax a b iha ihb => simp only [Lev.val, iha hl.1, ihb hl.2]
  | par n => exact h n hl

abbrev Atom := Option Nat × Nat

def Atom.at (v : Nat → Nat) (x : Atom) : Nat := (match x.1 with | none => 0 | some i => v i) + x.2

def Lev.atoms (pos : Nat → Bool) : Lev → List Atom
  | .zero => [(none, 0)]
  | .succ a => (a.atoms pos).map fun x => (x.1, x.2 + 1)
  | .max a b => a.atoms pos ++ b.atoms pos
  | .imax a b => if (b.atoms pos).all (fun x => x.1.isNone && x.2 == 0) then [(none, 0)] else a.atoms pos ++ b.atoms pos
  | .par n => if pos n then [(some n, 0)] else [(none, 0)]

/-- n is the greatest of what the atoms are. -/
def Tops (v : Nat → Nat) (l : List Atom) (n : Nat) : Prop := (∀ x ∈ l, Atom.at v x ≤ n) ∧ ∃ x ∈ l, Atom.at v x = n

theorem Tops.append {v : Nat → Nat} {l r : List Atom} {n m : Nat} (h : Tops v l n) (k : Tops v r m) : Tops v (l ++ r) (Nat.max n m) := by
  obtain ⟨h1, x, hx, ex⟩ := h
  obtain ⟨k1, y, hy, ey⟩ := k
  refine ⟨fun z hz => ?_, ?_⟩
  · rcases List.mem_append.1 hz with hz | hz
    · exact Nat.le_trans (h1 z hz) (Nat.le_max_left _ _)
    · exact Nat.le_trans (k1 z hz) (Nat.le_max_right _ _)
  · by_cases e : n ≤ m
    · exact ⟨y, List.mem_append.2 (.inr hy), by rw [ey]; exact (Nat.max_eq_right e).symm⟩
    · exact ⟨x, List.mem_append.2 (.inl hx), by rw [ex]; exact (Nat.max_eq_left (by omega)).symm⟩

theorem Lev.atoms_tops (l : Lev) {pos : Nat → Bool} {v : Nat → Nat} (hv : ∀ i, pos i = true ↔ v i ≠ 0) :
    Tops v (l.atoms pos) (l.val v) ∧ ∀ x ∈ l.atoms pos, ∀ i, x.1 = some i → pos i = true := by
  induction l with
  | zero => exact ⟨⟨by simp [Lev.atoms, Lev.val, Atom.at], _, List.mem_singleton.2 rfl, rfl⟩, by simp [Lev.atoms]⟩
  | succ a ih =>
    obtain ⟨⟨h1, x, hx, ex⟩, h2⟩ := ih
    refine ⟨⟨fun y hy => ?_, (x.1, x.2 + 1), List.mem_map.2 ⟨x, hx, rfl⟩, ?_⟩, fun y hy i hi => ?_⟩
    · obtain ⟨z, hz, rfl⟩ := List.mem_map.1 hy
      have := h1 z hz
      simp only [Atom.at, Lev.val] at this ⊢; omega
    · simp only [Atom.at, Lev.val] at ex ⊢; omega
    · obtain ⟨z, hz, rfl⟩ := List.mem_map.1 hy
      exact h2 z hz i hi
  | max a b iha ihb =>
    refine ⟨iha.1.append ihb.1, fun y hy i hi => ?_⟩
    rcases List.mem_append.1 hy with hy | hy
    · exact iha.2 y hy i hi
    · exact ihb.2 y hy i hi
  | imax a b iha ihb =>
    simp only [Lev.atoms, Lev.val]
    by_cases hz : (b.atoms pos).all (fun x => x.1.isNone && x.2 == 0) = true
    · rw [if_pos hz]
      have h0 : b.val v = 0 := by
        obtain ⟨⟨_, x, hx, ex⟩, _⟩ := ihb
        have := List.all_eq_true.1 hz x hx
        obtain ⟨x1, x2⟩ := x
        cases x1 with
        | some i => simp at this
        | none => simp at this; subst this; simpa [Atom.at] using ex.symm
      rw [if_pos h0]
      exact ⟨⟨by simp [Atom.at], _, List.mem_singleton.2 rfl, rfl⟩, by simp⟩
    · rw [if_neg hz]
      have h0 : b.val v ≠ 0 := by
        intro h0
        apply hz
        obtain ⟨⟨h1, _⟩, h2⟩ := ihb
        apply List.all_eq_true.2
        intro x hx
        have h3 := h1 x hx
        have h4 := h2 x hx
        rw [h0] at h3
        obtain ⟨x1, x2⟩ := x
        cases x1 with
        | none => simp [Atom.at] at h3 ⊢; omega
        | some i =>
          have := (hv i).1 (h4 i rfl)
          simp [Atom.at] at h3
          omega
      rw [if_neg h0]
      refine ⟨iha.1.append ihb.1, fun y hy i hi => ?_⟩
      rcases List.mem_append.1 hy with hy | hy
      · exact iha.2 y hy i hi
      · exact ihb.2 y hy i hi
  | par n =>
    simp only [Lev.atoms, Lev.val]
    by_cases hp : pos n = true
    · rw [if_pos hp]
      exact ⟨⟨by simp [Atom.at], _, List.mem_singleton.2 rfl, rfl⟩, fun x hx i hi => by simp at hx; subst hx; simp at hi; subst hi; exact hp⟩
    · rw [if_neg hp]
      have h0 : v n = 0 := by
        by_cases e : v n = 0
        · exact e
        · exact absurd ((hv n).2 e) hp
      exact ⟨⟨by simp [Atom.at], _, List.mem_singleton.2 rfl, by simp [Atom.at, h0]⟩, by simp⟩

theorem Lev.atoms_le (l : Lev) (pos : Nat → Bool) : ∀ x ∈ l.atoms pos, x.2 < l.size := by
  induction l with
  | zero => simp [Lev.atoms, Lev.size]
  | succ a ih =>
    intro y hy
    obtain ⟨z, hz, rfl⟩ := List.mem_map.1 hy
    have := ih z hz
    simp only [Lev.size]; omega
  | max a b iha ihb =>
    intro y hy
    simp only [Lev.size]
    rcases List.mem_append.1 hy with hy | hy
    · have := iha y hy; omega
    · have := ihb y hy; omega
  | imax a b iha ihb =>
    intro y hy
    simp only [Lev.size, Lev.atoms] at hy ⊢
    split at hy
    · simp at hy; subst hy; simp
    · rcases List.mem_append.1 hy with hy | hy
      · have := iha y hy; omega
      · have := ihb y hy; omega
  | par n => intro y hy; simp only [Lev.atoms] at hy; split at hy <;> (simp at hy; subst hy; simp [Lev.size])

/-- A place at which each parameter is 0, 1 or M. -/
def Tells (M : Nat) (u : Nat → Nat) : Prop := ∀ i, u i = 0 ∨ u i = 1 ∨ u i = M

/-- Where a level is more than another one at all, it is so where each parameter is 0, 1 or great. -/
theorem Lev.tell (a b : Lev) (M : Nat) (hM : b.size < M) (v : Nat → Nat) (h : b.val v < a.val v) : ∃ u, Tells M u ∧ b.val u < a.val u := by
  have hv : ∀ i, (decide (v i ≠ 0)) = true ↔ v i ≠ 0 := by simp
  obtain ⟨⟨_, x, hx, ex⟩, h2⟩ := Lev.atoms_tops a hv
  obtain ⟨⟨k1, _⟩, k2⟩ := Lev.atoms_tops b hv
  have hle := Lev.atoms_le b (fun i => decide (v i ≠ 0))
  obtain ⟨o, c⟩ := x
  -- the place
  let u : Nat → Nat := fun j => if v j = 0 then 0 else if o = some j then M else 1
  have hu : ∀ i, (decide (v i ≠ 0)) = true ↔ u i ≠ 0 := by
    intro i
    simp only [u]
    by_cases e : v i = 0
    · simp [e]
    · simp only [e, if_false]
      by_cases e2 : o = some i
      · simp [e2, e]; omega
      · simp [e2, e]
  have hT : Tells M u := by
    intro i
    simp only [u]
    split
    · exact .inl rfl
    · split
      · exact .inr (.inr rfl)
      · exact .inr (.inl rfl)
  refine ⟨u, hT, ?_⟩
  obtain ⟨⟨h1', _⟩, _⟩ := Lev.atoms_tops a hu
  obtain ⟨⟨_, y, hy, ey⟩, _⟩ := Lev.atoms_tops b hu
  have ha := h1' (o, c) hx
  have hlt : Atom.at v y < Atom.at v (o, c) := by rw [ex]; exact Nat.lt_of_le_of_lt (k1 y hy) h
  have hb2 := k2 y hy
  have hb3 := hle y hy
  have hi := fun i => h2 (o, c) hx i
  rw [← ey]
  refine Nat.lt_of_lt_of_le ?_ ha
  clear ha ey hx hy h1' k1 k2 h2 hle ex h hT hu hv
  obtain ⟨yo, yc⟩ := y
  cases o with
  | none =>
    cases yo with
    | none => simpa [Atom.at] using hlt
    | some j =>
      have hj := hb2 j rfl
      simp at hj
      simp [Atom.at] at hlt
      simp [Atom.at, u, hj]
      omega
  | some i =>
    have hi := hi i rfl
    simp at hi
    simp at hb3
    cases yo with
    | none => simp [Atom.at, u, hi]; omega
    | some j =>
      have hj := hb2 j rfl
      simp at hj
      by_cases e : i = j
      · subst e
        simp [Atom.at] at hlt
        simp [Atom.at, u, hi]; omega
      · simp [Atom.at, u, hi, hj, e]; omega

end Go.Proofs.Ytemgmphddmlmlaa
