/- Lists of texts in memory, of no program: one that can be read, one that the call owns. No condition. -/
import Derived.Test.YtekdalbhgdkckaaGreatDoorApp
import Derived.Sort.EncStr
namespace Go.Proofs.YtekdalbhgdkckaaGreatDoor
open Go.RowKit

/-- A text as a value. -/
def tx (s : List UInt8) : Value := .string ⟨s.toArray⟩

/-- The slice value 'ao, n, cap' can be read, and reads as the texts ss. -/
structure SR (w : World) (ao : Option Addr) (n cap : Nat) (ss : List (List UInt8)) : Prop where
  len : ss.length = n
  le : n ≤ cap
  max : cap ≤ maxLen
  cells : ∀ j s, ss[j]? = some s → ∃ b off, ao = some ⟨b, off, none⟩ ∧ b < w.heap.size ∧ w.cell? ⟨b, off + j, none⟩ = some (tx s)

theorem SR.nil (w : World) : SR w none 0 0 [] := ⟨rfl, Nat.le_refl _, Nat.zero_le _, fun j s h => by simp at h⟩

theorem SR.on {w w' : World} {ao : Option Addr} {n cap : Nat} {ss : List (List UInt8)} (h : SR w ao n cap ss) (hb : Below w.heap.size w w') : SR w' ao n cap ss :=
  ⟨h.len, h.le, h.max, fun j s hj => by
    obtain ⟨b, off, h1, h2, h3⟩ := h.cells j s hj
    exact ⟨b, off, h1, Nat.lt_of_lt_of_le h2 hb.size, ((bcell hb).1 b _ h2).trans h3⟩⟩

theorem SR.keep {w w' : World} {S : Nat → Prop} {ao : Option Addr} {n cap : Nat} {ss : List (List UInt8)} (h : SR w ao n cap ss) (hk : Keep w w' S) (hn : ∀ b off, ao = some ⟨b, off, none⟩ → b < w.heap.size → ¬ S b) : SR w' ao n cap ss :=
  ⟨h.len, h.le, h.max, fun j s hj => by
    obtain ⟨b, off, h1, h2, h3⟩ := h.cells j s hj
    exact ⟨b, off, h1, Nat.lt_of_lt_of_le h2 hk.size, (World.cell?_of_block (hk.block b h2 (hn b off h1 h2))).trans h3⟩⟩

theorem SR.some {w : World} {ao : Option Addr} {n cap : Nat} {ss : List (List UInt8)} (h : SR w ao n cap ss) (hn : 0 < n) : ∃ b off, ao = some ⟨b, off, none⟩ ∧ b < w.heap.size ∧ ∀ j s, ss[j]? = some s → w.cell? ⟨b, off + j, none⟩ = some (tx s) := by
  have hl := h.len
  obtain ⟨b, off, h1, h2, _⟩ := h.cells 0 _ (List.getElem?_eq_getElem (by omega))
  refine ⟨b, off, h1, h2, fun j s hj => ?_⟩
  obtain ⟨b', off', h1', _, h3⟩ := h.cells j s hj
  rw [h1] at h1'
  simp only [Option.some.injEq, Addr.mk.injEq] at h1'
  obtain ⟨rfl, rfl, _⟩ := h1'
  exact h3

/-- A row of texts of the call's own, as one that can be read. -/
theorem owns_SR {w : World} {base : Nat} {e : TypeId} {ao : Option Addr} {n cap : Nat} {ss : List (List UInt8)} (h : w.ownsRow base e 1 (.slice ao n cap) n (ss.map tx)) : SR w ao n cap ss := by
  have hl : ss.length = n := by have := h.1; simpa using this
  refine ⟨hl, ?_, ?_, fun j s hj => ?_⟩
  · rcases h.2 with ⟨h1, h2⟩ | ⟨g, c, cur, h1, _, _, h2, _⟩
    · omega
    · simp only [Value.slice.injEq] at h1; omega
  · rcases h.2 with ⟨h1, h2⟩ | ⟨g, c, cur, h1, _, _, _, h2, _⟩
    · simp only [Value.slice.injEq] at h1
      have := h1.2.2
      subst this
      exact Nat.zero_le _
    · simp only [Value.slice.injEq] at h1
      have := h1.2.2
      subst this
      exact h2
  · obtain ⟨g, h1, _, h2, _, _, h3⟩ := owns_cell h (i := j) (c := tx s) (by simp [hj])
    exact ⟨g, 0, h1, h2, by simpa using h3⟩

theorem wpList_append_two {P : Program} {ops : Array Oper} {rest : List Oper} {o : Oper} {a : Act} {w : World} {Q : Exit → Act → World → Prop}
    (hg : o.guard = none) (s x : Operand) (t : TypeId) (hop : o.op = Op.call { callee := Callee.builtin Builtin.append, args := #[s, x], argTypes := #[t, t] })
    (base : Nat) (e : TypeId) (i : TypeInfo) (z : Value) (size bytes : Nat) (h1 : P.underlying t = some (.slice e)) (h2 : P.info? e = some i) (h3 : i.zero = some z) (h4 : i.size = size) (h5 : i.bytes = bytes) (h6 : z.cells.size = size) (h7 : 0 < size)
    (v : Value) (n : Nat) (xs : List Value) (hs : a.eval s = v) (hown : w.ownsRow base e size v n xs)
    (ad : Addr) (m c : Nat) (news : List Value) (hx : a.eval x = .slice (some ad) m c) (hn : news.length = m * size) (hc : ∀ j u, news[j]? = some u → w.cell? (ad.add j) = some u) (h1c : ∀ u ∈ news, u.oneCell' = true)
    (b1 : n + m ≤ maxLen) (b2 : (n + m) * bytes ≤ 140737488355328) (hbase : base ≤ w.heap.size)
    (hm : 0 < m) (hK : ∀ v' w', w'.ownsRow base e size v' (n + m) (xs ++ news) → w.grownBy w' v.ownBlock → (v'.ownBlock = v.ownBlock ∨ ∃ b, v'.ownBlock = some b ∧ w.heap.size ≤ b) → wpList P ops Q rest (a.put o.dst v') w') :
    wpList P ops Q (o :: rest) a w :=
  wpList_plain hg fun K hK' => by
    obtain ⟨v', w', hrun, r1, r2, r3⟩ := run_append_two (P := P) w base t o.type e i z size bytes h1 h2 h3 h4 h5 h6 h7 v n xs hown ad m c news hn hc h1c b1 b2 hbase hm
    unfold Oper.wp
    simp [execOp, hop, resolve, invoke, builtin, hs, hx, hrun, Result.andThen]
    exact hK' _ _ (hK v' w' r1 r2 r3)

/-- What has grown by a row that is new since B stands below B. -/
theorem below_grown {B : Nat} {w w' : World} {row : Option Nat} (hg : w.grownBy w' row) (hB : B ≤ w.heap.size) (hr : ∀ g, row = some g → B ≤ g) : Below B w w' :=
  ⟨hg.os, hg.tape, hg.output, hg.size, fun k hk => hg.block k (Nat.lt_of_lt_of_le hk hB) (fun e => by have := hr k e.symm; omega)⟩

theorem new_one (w : World) (l : List Value) (t : TypeId) : ∃ w1, w.alloc (.cells l.toArray t) = w1 ∧ Below w.heap.size w w1 ∧ Blk w1 w.heap.size t l ∧ w1.heap.size = w.heap.size + 1 :=
  ⟨_, rfl, (Below.refl _ _).alloc (Nat.le_refl _) _, Blk.new _ _ _, by simp⟩

end Go.Proofs.YtekdalbhgdkckaaGreatDoor
