/- Reading as plain functions: numbers, names, levels, terms, declarations; an error's number, or what was read and the rest. Of no program but for the functions 'tv', 'tt'; no condition. -/
import Derived.Test.YtkbpmpcbajnmlaaDoorText
import Derived.Test.YtkbpmpcbajnmlaaDoorTm
namespace Go.Proofs.YtkbpmpcbajnmlaaDoor
open Go.RowKit

/-- An error's number, or what was read. -/
inductive Er (α : Type) where
  | bad (c : Nat)
  | ok (x : α)

def Er.bind {α β : Type} : Er α → (α → Er β) → Er β
  | .bad c, _ => .bad c
  | .ok x, f => f x

abbrev Bs := List UInt8

/-- What is told, and where the reading stands then. -/
def Er.told {α : Type} (z : α) : Er (α × Bs) → α
  | .bad _ => z
  | .ok x => x.1

def Er.rest {α : Type} : Er (α × Bs) → Er Bs
  | .bad c => .bad c
  | .ok x => .ok x.2

def rWide (bs : Bs) : Er (Nat × Bs) := if (tv 0 0 bs).2.2 ≠ 0 then .bad (tv 0 0 bs).2.2 else .ok ((tv 0 0 bs).1, bs.drop (tv 0 0 bs).2.1)

def chk (p : Nat → Bool) (c : Nat) : Er (Nat × Bs) → Er (Nat × Bs)
  | .bad c => .bad c
  | .ok (v, r) => if p v then .ok (v, r) else .bad c

def rKind (lo hi : Nat) (bs : Bs) : Er (Nat × Bs) := chk (fun v => decide (lo ≤ v) && decide (v ≤ hi)) 5 (rWide bs)
def rNum (bs : Bs) : Er (Nat × Bs) := chk (fun v => decide (v ≤ 1073741824)) 4 (rWide bs)
def rUpTo (most c : Nat) (bs : Bs) : Er (Nat × Bs) := chk (fun v => decide (v ≤ most)) c (rNum bs)
def rName (bs : Bs) : Er (Bs × Bs) := if (tt bs 24).2.2 ≠ 0 then .bad (tt bs 24).2.2 else .ok ((tt bs 24).1, bs.drop (tt bs 24).2.1)

theorem tv_bad (l : Bs) : ∀ (i acc : Nat), (tv i acc l).2.2 ≠ 0 → (tv i acc l).1 = 0 ∧ (tv i acc l).2.1 = 0 := by
  induction l with
  | nil => intro i acc _; simp [tv]
  | cons c r ih =>
    intro i acc h
    rw [tv] at h ⊢
    by_cases h1 : i = 9 ∧ 1 < c.toNat
    · rw [if_pos h1]; simp
    · rw [if_neg h1] at h ⊢
      by_cases h2 : 128 ≤ c.toNat
      · rw [if_pos h2] at h ⊢; exact ih _ _ h
      · rw [if_neg h2] at h ⊢
        by_cases h3 : c.toNat = 0 ∧ 0 < i
        · rw [if_pos h3]; simp
        · rw [if_neg h3] at h; simp at h

theorem tt_bad (bs : Bs) (m : Int) (h : (tt bs m).2.2 ≠ 0) : (tt bs m).1 = [] ∧ (tt bs m).2.1 = 0 := by
  unfold tt at h ⊢
  split
  · simp
  · rename_i h1
    rw [if_neg h1] at h
    split
    · simp
    · rename_i h2
      rw [if_neg h2] at h
      split
      · simp
      · rename_i h3; rw [if_neg h3] at h; simp at h

theorem tt_bounds (bs : Bs) (m : Int) : (tt bs m).2.1 ≤ bs.length ∧ (tt bs m).2.2 ≤ 5 ∧ (tt bs m).1.length ≤ m.toNat := by
  have hb := tv_bounds bs 0 0 (by omega) (by decide)
  unfold tt
  split
  · simp; omega
  · split
    · simp
    · split
      · simp
      · simp; omega

/-- How many Args a kind of levels, of terms, has. -/
def argL (k : Nat) : Nat := if k = 1 then 1 else if k = 2 ∨ k = 3 then 2 else 0
def argT (k : Nat) : Nat := if k = 3 ∨ k = 4 ∨ k = 5 then 2 else if k = 6 then 3 else 0

/-- So many, one behind the other. -/
def rMany {σ β : Type} (rd : σ → Er (β × σ)) : Nat → σ → Er (List β × σ)
  | 0, s => .ok ([], s)
  | n + 1, s => (rd s).bind fun x => (rMany rd n x.2).bind fun y => .ok (x.1 :: y.1, y.2)

/-- A level, of which so many levels may still be deep; parts of it that came, and bytes. -/
def rLv : Nat → Nat × Bs → Er (Lv × Nat × Bs)
  | 0, s => if s.1 = 64 then .bad 3 else .bad 6
  | f + 1, s => if s.1 = 64 then .bad 3 else (rKind 0 4 s.2).bind fun x =>
      if x.1 = 4 then (rUpTo 3 7 x.2).bind fun y => .ok (.mk 4 y.1 [], s.1 + 1, y.2)
      else (rMany (rLv f) (argL x.1) (s.1 + 1, x.2)).bind fun y => .ok (.mk x.1 0 y.1, y.2)

def rLevel (bs : Bs) : Er (Lv × Bs) := (rLv 32 (0, bs)).bind fun x => .ok (x.1, x.2.2)

/-- A term, without where it lies. -/
inductive Pm where
  | mk (k n : Int) (s : ByteArray) (ls : List Lv) (args : List Pm)

def rTm : Nat → Nat × Bs → Er (Pm × Nat × Bs)
  | 0, s => if s.1 = 2000 then .bad 3 else .bad 6
  | f + 1, s => if s.1 = 2000 then .bad 3 else (rKind 0 6 s.2).bind fun x =>
      if x.1 = 0 then (rNum x.2).bind fun y => .ok (.mk 0 y.1 ⟨#[]⟩ [] [], s.1 + 1, y.2)
      else if x.1 = 1 then (rLevel x.2).bind fun y => .ok (.mk 1 0 ⟨#[]⟩ [y.1] [], s.1 + 1, y.2)
      else if x.1 = 2 then (rName x.2).bind fun y => (rUpTo 4 7 y.2).bind fun z => (rMany rLevel z.1 z.2).bind fun u => .ok (.mk 2 0 ⟨y.1.toArray⟩ u.1 [], s.1 + 1, u.2)
      else (rMany (rTm f) (argT x.1) (s.1 + 1, x.2)).bind fun y => .ok (.mk x.1 0 ⟨#[]⟩ [] y.1, y.2)

def rTerm (bs : Bs) : Er (Pm × Bs) := (rTm 100 (0, bs)).bind fun x => .ok (x.1, x.2.2)

/-- A declaration. -/
structure Dc where
  k : Nat
  p : Nat
  c : Nat
  n : Bs
  f : Bs
  t : Pm
  v : Pm
  cs : List (Bs × Pm)

def rCtor (bs : Bs) : Er ((Bs × Pm) × Bs) := (rName bs).bind fun x => (rTerm x.2).bind fun y => .ok ((x.1, y.1), y.2)

def noTm : Pm := .mk 0 0 ⟨#[]⟩ [] []

def vals (k : Nat) : Nat := if k = 2 then 1 else 0

/-- The Value, if there is one. -/
def rVal (k : Nat) (bs : Bs) : Er (Pm × Bs) := (rKind (vals k) (vals k) bs).bind fun x => if x.1 = 1 then rTerm x.2 else .ok (noTm, x.2)

def rDecl (bs : Bs) : Er (Dc × Bs) :=
  (rKind 1 5 bs).bind fun a => (rNum a.2).bind fun b => (rNum b.2).bind fun c => (rName c.2).bind fun d => (rName d.2).bind fun e => (rTerm e.2).bind fun t =>
    (rVal a.1 t.2).bind fun v => (rUpTo 5 3 v.2).bind fun m => (rMany rCtor m.1 m.2).bind fun cs => .ok (⟨a.1, b.1, c.1, d.1, e.1, t.1, v.1, cs.1⟩, cs.2)
end Go.Proofs.YtkbpmpcbajnmlaaDoor
