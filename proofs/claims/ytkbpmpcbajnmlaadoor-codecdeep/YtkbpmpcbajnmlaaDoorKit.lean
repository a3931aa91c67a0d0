/- Small laws on bytes in memory, of no program: what a []byte that can be read, and one that the call owns, hold; what append makes of them. No condition. -/
import Derived.Deep.AppendSrc
import Derived.Below
import Derived.Lib.Varint
import Derived.Laws.IdiomStrings
import Derived.WalkKit
import Derived.Laws.MakeOwn
import Derived.RegionTactic
namespace Go.Proofs.YtkbpmpcbajnmlaaDoor
open Go.RowKit

/-- A byte as a cell. -/
def bval (b : UInt8) : Value := .int .u8 (b.toNat : Int)

/-- The slice value 'ao, n, cap' can be read, and reads as the bytes bs. -/
structure Rd (w : World) (ao : Option Addr) (n cap : Nat) (bs : List UInt8) : Prop where
  len : bs.length = n
  le : n ≤ cap
  max : cap ≤ maxLen
  nil : ao = none → cap = 0
  cells : ∀ a, ao = some a → ∀ j u, bs[j]? = some u → w.cell? (a.add j) = some (.int .u8 (u.toNat : Int))

/-- The block g is a row of bytes of the call's own (from block B on), of cap cells, the first of them bs. -/
structure Own (e : TypeId) (B : Nat) (w : World) (g n cap : Nat) (bs : List UInt8) : Prop where
  len : bs.length = n
  le : n ≤ cap
  max : cap ≤ maxLen
  new : B ≤ g
  row : ∃ cur : Array Value, w.heap[g]? = some (.cells cur e (0, 0)) ∧ cur.size = cap ∧ cur.toList.take n = bs.map bval

theorem Own.lt {e : TypeId} {B : Nat} {w : World} {g n cap : Nat} {bs : List UInt8} (h : Own e B w g n cap bs) : g < w.heap.size := by
  obtain ⟨cur, h1, _⟩ := h.row
  exact (Array.getElem?_eq_some_iff.1 h1).1

theorem Own.cell {e : TypeId} {B : Nat} {w : World} {g n cap : Nat} {bs : List UInt8} (h : Own e B w g n cap bs) {j : Nat} {u : UInt8} (hu : bs[j]? = some u) : w.cell? ⟨g, j, none⟩ = some (.int .u8 (u.toNat : Int)) := by
  obtain ⟨cur, h1, h2, h3⟩ := h.row
  rw [cell_of_row w g j cur e (0, 0) h1]
  have hj : j < n := by have := (List.getElem?_eq_some_iff.1 hu).1; rw [h.len] at this; exact this
  have e1 : (cur.toList.take n)[j]? = some (bval u) := by rw [h3, List.getElem?_map, hu]; rfl
  rw [List.getElem?_take_of_lt hj] at e1
  simpa [bval] using e1

theorem Own.rd {e : TypeId} {B : Nat} {w : World} {g n cap : Nat} {bs : List UInt8} (h : Own e B w g n cap bs) : Rd w (some ⟨g, 0, none⟩) n cap bs :=
  ⟨h.len, h.le, h.max, (fun h0 => by cases h0), fun a ha j u hu => by
    obtain rfl : ⟨g, 0, none⟩ = a := by simpa using ha
    rw [Addr.add_lit, Nat.zero_add]
    exact h.cell hu⟩

theorem Own.mono {e : TypeId} {B B' : Nat} {w : World} {g n cap : Nat} {bs : List UInt8} (h : Own e B w g n cap bs) (hB : B' ≤ B) : Own e B' w g n cap bs :=
  ⟨h.len, h.le, h.max, Nat.le_trans hB h.new, h.row⟩

/-- What is owned looks at its own block alone. -/
theorem Own.carry {e : TypeId} {B : Nat} {w w' : World} {g n cap : Nat} {bs : List UInt8} (h : Own e B w g n cap bs) (hb : w'.heap[g]? = w.heap[g]?) : Own e B w' g n cap bs :=
  ⟨h.len, h.le, h.max, h.new, by rw [hb]; exact h.row⟩

theorem Own.alloc {e : TypeId} {B : Nat} {w : World} {g n cap : Nat} {bs : List UInt8} (h : Own e B w g n cap bs) (o : Obj) : Own e B (w.alloc o) g n cap bs :=
  h.carry (Below.heap_alloc w o g h.lt)

theorem Own.below {e : TypeId} {B C : Nat} {w w' : World} {g n cap : Nat} {bs : List UInt8} (h : Own e B w g n cap bs) (hb : Below C w w') (hg : g < C) : Own e B w' g n cap bs :=
  h.carry (hb.block g hg)

/-- A cell that is read stays where its block does. -/
theorem Rd.carry {w w' : World} {ao : Option Addr} {n cap : Nat} {bs : List UInt8} (h : Rd w ao n cap bs) (hb : ∀ k, k < w.heap.size → w'.heap[k]? = w.heap[k]?) : Rd w' ao n cap bs :=
  ⟨h.len, h.le, h.max, h.nil, fun a ha j u hu => by
    have h1 := h.cells a ha j u hu
    exact (World.cell?_of_block (hb _ (World.block_lt_of_cell? w _ h1))).trans h1⟩

/-- .. below C, where all that is read lies below C. -/
theorem Rd.below {C : Nat} {w w' : World} {ao : Option Addr} {n cap : Nat} {bs : List UInt8} (h : Rd w ao n cap bs) (hb : Below C w w') (hC : w.heap.size ≤ C) : Rd w' ao n cap bs :=
  h.carry fun k hk => hb.block k (Nat.lt_of_lt_of_le hk hC)

theorem Rd.alloc {w : World} {ao : Option Addr} {n cap : Nat} {bs : List UInt8} (h : Rd w ao n cap bs) (o : Obj) : Rd (w.alloc o) ao n cap bs :=
  h.carry fun k hk => Below.heap_alloc w o k hk

/-- What a call hands back in new memory: nil, or a row of the call's own. -/
def Res (e : TypeId) (B : Nat) (w : World) (ao : Option Addr) (n cap : Nat) (bs : List UInt8) : Prop :=
  Rd w ao n cap bs ∧ ((ao = none ∧ n = 0 ∧ cap = 0) ∨ ∃ g, ao = some ⟨g, 0, none⟩ ∧ Own e B w g n cap bs)

theorem Own.res {e : TypeId} {B : Nat} {w : World} {g n cap : Nat} {bs : List UInt8} (h : Own e B w g n cap bs) : Res e B w (some ⟨g, 0, none⟩) n cap bs :=
  ⟨h.rd, .inr ⟨g, rfl, h⟩⟩

/-- What append may be given: nothing spare, or a row of the call's own. -/
def App (e : TypeId) (B : Nat) (w : World) (ao : Option Addr) (n cap : Nat) (bs : List UInt8) : Prop :=
  Rd w ao n cap bs ∧ (n = cap ∨ ∃ g, ao = some ⟨g, 0, none⟩ ∧ Own e B w g n cap bs)

theorem App.alloc {e : TypeId} {B : Nat} {w : World} {ao : Option Addr} {n cap : Nat} {bs : List UInt8} (h : App e B w ao n cap bs) (o : Obj) : App e B (w.alloc o) ao n cap bs :=
  ⟨h.1.alloc o, h.2.imp id fun ⟨g, h1, h2⟩ => ⟨g, h1, h2.alloc o⟩⟩

theorem Own.app {e : TypeId} {B : Nat} {w : World} {g n cap : Nat} {bs : List UInt8} (h : Own e B w g n cap bs) : App e B w (some ⟨g, 0, none⟩) n cap bs :=
  ⟨h.rd, .inr ⟨g, rfl, h⟩⟩

theorem App.nil (e : TypeId) (B : Nat) (w : World) : App e B w none 0 0 [] :=
  ⟨⟨rfl, Nat.le_refl _, Nat.zero_le _, (fun _ => rfl), (fun _ h => by cases h)⟩, .inl rfl⟩

section

variable {P : Program} (w : World)

/-- There is room in a row that is known whole; the source general. -/
theorem run_append_room_row (t tx ty e : TypeId) (i : TypeInfo) (ht : P.underlying t = some (.slice e)) (hi : P.info? e = some i)
    (g sLen sCap : Nat) (cur : Array Value) (hg : w.heap[g]? = some (.cells cur e (0, 0))) (x : Value) (m : Nat) (news : List Value) (hs : Src P i.size tx x m news w)
    (hroom : sLen + m ≤ sCap) (hfit : sLen * i.size + news.length ≤ cur.size) :
    (Builtin.append_ #[t, tx] ty #[.slice (some ⟨g, 0, none⟩) sLen sCap, x]).run P w =
      .ok (.slice (some ⟨g, 0, none⟩) (sLen + m) sCap) (w.setRow g (cur.toList.take (sLen * i.size) ++ news ++ cur.toList.drop (sLen * i.size + news.length)).toArray) := by
  have hst := run_storeCells_at P g (sLen * i.size) e news 0 cur w hg (by simpa using hfit) hs.one
  simp only [Nat.add_zero] at hst
  rcases hs.kind with ⟨e', hk⟩ | hk <;> simp [Builtin.append_, run_underlying ht, run_underlying hk, sizeOf, typeInfo, hi, hs.len, hroom, hs.cells, Addr.add_lit, hst]

/-- append on bytes: onto a slice with nothing spare, or onto a row of the call's own: a row of the call's own. -/
theorem run_append_bytes (t tx ty e : TypeId) (i : TypeInfo) (ht : P.underlying t = some (.slice e)) (hi : P.info? e = some i) (hz : i.zero = some (.int .u8 0)) (hs1 : i.size = 1) (hb1 : i.bytes = 1)
    (B : Nat) (hB : B ≤ w.heap.size) {ao : Option Addr} {n cap : Nat} {bs : List UInt8} (hA : App e B w ao n cap bs) (x : Value) (m : Nat) (news : List UInt8) (hs : Src P 1 tx x m (news.map bval) w)
    (hm : 0 < m ∨ ∃ g, ao = some ⟨g, 0, none⟩ ∧ Own e B w g n cap bs) (hle : n + m ≤ 70368744177664) :
    ∃ g cap' w', (Builtin.append_ #[t, tx] ty #[.slice ao n cap, x]).run P w = .ok (.slice (some ⟨g, 0, none⟩) (n + m) cap') w' ∧ Own e B w' g (n + m) cap' (bs ++ news) ∧
      Below B w w' ∧ w.grownBy w' (Value.ownBlock (.slice ao n cap)) ∧ (g = w.heap.size ∨ ao = some ⟨g, 0, none⟩) := by
  obtain ⟨hrd, hor⟩ := hA
  have hnl : news.length = m := by have := hs.newsLen; simpa using this
  have hs' : Src P i.size tx x m (news.map bval) w := by rw [hs1]; exact hs
  have hbl := hrd.len
  by_cases hroom : n + m ≤ cap
  · -- there is room: a row of the call's own
    have hown : ∃ g, ao = some ⟨g, 0, none⟩ ∧ Own e B w g n cap bs := by
      rcases hm with hm | hm
      · rcases hor with h | h
        · omega
        · exact h
      · exact hm
    obtain ⟨g, rfl, ho⟩ := hown
    obtain ⟨cur, hg, hcs, htk⟩ := ho.row
    have hr := run_append_room_row (P := P) w t tx ty e i ht hi g n cap cur hg x m (news.map bval) hs' hroom (by rw [hs1, hcs]; simp; omega)
    rw [hs1, Nat.mul_one] at hr
    refine ⟨g, cap, _, hr, ⟨by simp [hbl, hnl], hroom, ho.max, ho.new, _, setRow_heap w g cur _ e _ hg, ?_, ?_⟩, ⟨rfl, rfl, rfl, by simp, fun k hk => setRow_other w g k _ (by have := ho.new; omega)⟩,
      ⟨rfl, rfl, rfl, by simp, fun k _ hk => setRow_other w g k _ (fun e => hk (by simp [Value.ownBlock, e]))⟩, .inr rfl⟩
    · simp only [List.size_toArray, List.length_append, List.length_take, List.length_drop, Array.length_toList, List.length_map]
      omega
    · rw [htk]
      have hL : (bs.map bval ++ news.map bval).length = n + m := by simp [hbl, hnl]
      rw [List.map_append, ← hL]
      exact List.take_left
  · -- a new row
    have hold : (Builtin.firstCells i.size n (.slice ao n cap)).run P w.drew = .ok (bs.map bval).toArray w.drew := by
      cases ao with
      | none =>
        have := hrd.nil rfl
        obtain rfl : n = 0 := by have := hrd.le; omega
        obtain rfl : bs = [] := List.eq_nil_of_length_eq_zero hbl
        exact run_firstCells_none w.drew i.size 0 0 cap
      | some a =>
        refine run_firstCells_some w.drew i.size n a n cap (bs.map bval) (by rw [hs1]; simpa using hbl) (fun j u hu => ?_)
        rw [List.getElem?_map] at hu
        cases hj : bs[j]? with
        | none => rw [hj] at hu; cases hu
        | some b =>
          rw [hj] at hu
          have := hrd.cells a rfl j b hj
          simp only [Option.map_some, Option.some.injEq] at hu
          subst hu
          simpa [bval] using this
    have hg : cap < n + m := by omega
    have hrun := run_append_grow_src (P := P) w t tx ty e i (.int .u8 0) ht hi hz ao n cap (bs.map bval) hold x m (news.map bval) hs' hg (by omega) (growslice_fits hg (by rw [hb1]; omega))
    have hge := grownCap_ge w (n + m) cap e
    have hcm := grownCap_le_maxLen w (n + m) cap e (by unfold maxLen; omega)
    refine ⟨w.heap.size, grownCap w (n + m) cap e, _, hrun, ⟨by simp [hbl, hnl], hge, hcm, hB, _, heap_alloc_new w.drew _, ?_, ?_⟩, ⟨rfl, rfl, rfl, by simp, fun k hk => Below.heap_alloc w.drew _ k (Nat.lt_of_lt_of_le hk hB)⟩,
      ⟨rfl, rfl, rfl, by simp, fun k hk _ => Below.heap_alloc w.drew _ k hk⟩, .inl rfl⟩
    · rw [Array.size_append, List.size_toArray, List.length_append, List.length_map, List.length_map, size_zeroCells, hbl, hnl]
      have : (Value.int IntKind.u8 0).cells.size = 1 := rfl
      rw [this]
      omega
    · have hL : (bs.map bval ++ news.map bval).length = n + m := by simp [hbl, hnl]
      rw [Array.toList_append, List.toList_toArray, List.map_append, ← hL]
      exact List.take_left

/-- .. for the walk. -/
theorem wpList_append_bytes {ops : Array Oper} {rest : List Oper} {o : Oper} {a : Act} {Q : Exit → Act → World → Prop} (hgd : o.guard = none) (s x : Operand) (t tx : TypeId)
    (ho : o.op = .call { callee := .builtin .append, args := #[s, x], argTypes := #[t, tx] })
    (e : TypeId) (i : TypeInfo) (ht : P.underlying t = some (.slice e)) (hi : P.info? e = some i) (hz : i.zero = some (.int .u8 0)) (hs1 : i.size = 1) (hb1 : i.bytes = 1)
    (B : Nat) (hB : B ≤ w.heap.size) {ao : Option Addr} {n cap : Nat} {bs : List UInt8} (hv : a.eval s = .slice ao n cap) (hA : App e B w ao n cap bs)
    {xv : Value} {m : Nat} (news : List UInt8) (hx : a.eval x = xv) (hs : Src P 1 tx xv m (news.map bval) w)
    (hm : 0 < m ∨ ∃ g, ao = some ⟨g, 0, none⟩ ∧ Own e B w g n cap bs) (hle : n + m ≤ 70368744177664)
    (hK : ∀ g cap' w', Own e B w' g (n + m) cap' (bs ++ news) → Below B w w' → w.grownBy w' (Value.ownBlock (.slice ao n cap)) → (g = w.heap.size ∨ ao = some ⟨g, 0, none⟩) →
      wpList P ops Q rest (a.put o.dst (.slice (some ⟨g, 0, none⟩) (n + m) cap')) w') : wpList P ops Q (o :: rest) a w := by
  refine wpList_plain hgd fun K hK' => ?_
  obtain ⟨g, cap', w', hrun, h1, h2, h3, h4⟩ := run_append_bytes (P := P) w t tx o.type e i ht hi hz hs1 hb1 B hB hA xv m news hs hm hle
  unfold Oper.wp
  simp [execOp, ho, resolve, invoke, builtin, hv, hx, hrun, Result.andThen]
  exact hK' _ _ (hK g cap' w' h1 h2 h3 h4)

/-- One element, laid in a block of its own. -/
theorem src_one {tx e' : TypeId} (hk : P.underlying tx = some (.slice e')) (b : Nat) (c : Nat) (u : UInt8) (h : w.cell? ⟨b, 0, none⟩ = some (.int .u8 (u.toNat : Int))) : Src P 1 tx (.slice (some ⟨b, 0, none⟩) 1 c) 1 ([u].map bval) w :=
  Src.ofSlice w hk ⟨b, 0, none⟩ 1 c _ (by simp) (fun j v hj => by
    match j, hj with
    | 0, hj => simp at hj; subst hj; rw [Addr.add_lit]; exact h) (fun v hv => by simp at hv; subst hv; rfl)

/-- A slice that can be read, as a source. -/
theorem Rd.src {tx e' : TypeId} (hk : P.underlying tx = some (.slice e')) {ao : Option Addr} {n cap : Nat} {bs : List UInt8} (h : Rd w ao n cap bs) : Src P 1 tx (.slice ao n cap) n (bs.map bval) w := by
  cases ao with
  | none =>
    have := h.nil rfl
    obtain rfl : n = 0 := by have := h.le; omega
    obtain rfl : bs = [] := List.eq_nil_of_length_eq_zero h.len
    exact Src.ofNil w hk cap
  | some a =>
    refine Src.ofSlice w hk a n cap _ (by simpa using h.len) (fun j u hu => ?_) (fun v hv => ?_)
    · rw [List.getElem?_map] at hu
      cases hj : bs[j]? with
      | none => rw [hj] at hu; cases hu
      | some b =>
        rw [hj] at hu
        simp only [Option.map_some, Option.some.injEq] at hu
        subst hu
        exact h.cells a rfl j b hj
    · obtain ⟨b, _, rfl⟩ := List.mem_map.1 hv
      rfl

/-- A piece of a slice that can be read. -/
theorem Rd.cut {b off n cap : Nat} {bs : List UInt8} (h : Rd w (some ⟨b, off, none⟩) n cap bs) (l m c : Nat) (hl : l + m ≤ n) (hc : m ≤ c) (hm : c ≤ maxLen) : Rd w (some ⟨b, off + l, none⟩) m c ((bs.drop l).take m) :=
  ⟨by have := h.len; simp; omega, hc, hm, (fun h0 => by cases h0), fun a ha j u hu => by
    obtain rfl : ⟨b, off + l, none⟩ = a := by simpa using ha
    have hj : j < m := by have := (List.getElem?_eq_some_iff.1 hu).1; simp at this; omega
    rw [List.getElem?_take_of_lt hj, List.getElem?_drop] at hu
    have := h.cells _ rfl (l + j) u hu
    rw [Addr.add_lit] at this ⊢
    rw [Nat.add_assoc]
    exact this⟩

/-- Nothing that can be read is no memory. -/
theorem Rd.none' (ao : Option Addr) : Rd w ao 0 0 [] :=
  ⟨rfl, Nat.le_refl _, Nat.zero_le _, (fun _ => rfl), fun _ _ j u hu => by simp at hu⟩

/-- append of nothing onto nil. -/
theorem run_append_none (t tx ty e e' : TypeId) (i : TypeInfo) (ht : P.underlying t = some (.slice e)) (hk : P.underlying tx = some (.slice e')) (hi : P.info? e = some i) (ao : Option Addr) (c : Nat) :
    (Builtin.append_ #[t, tx] ty #[.slice none 0 0, .slice ao 0 c]).run P w = .ok (.slice none 0 0) w := by
  have h1 : (Builtin.firstCells i.size 0 (.slice ao 0 c)).run P w = .ok #[] w := by
    cases ao with
    | none => exact run_firstCells_none w i.size 0 0 c
    | some a => exact run_firstCells_some w i.size 0 a 0 c [] (by simp) (by intro _ _ h'; simp at h')
  simp [Builtin.append_, run_underlying ht, run_underlying hk, sizeOf, typeInfo, hi, Builtin.lenOf, h1]

theorem wpList_append_none {ops : Array Oper} {rest : List Oper} {o : Oper} {a : Act} {Q : Exit → Act → World → Prop} (hgd : o.guard = none) (s x : Operand) (t tx : TypeId)
    (ho : o.op = .call { callee := .builtin .append, args := #[s, x], argTypes := #[t, tx] }) (e e' : TypeId) (i : TypeInfo) (ht : P.underlying t = some (.slice e)) (hk' : P.underlying tx = some (.slice e')) (hi : P.info? e = some i)
    {ao : Option Addr} {c : Nat} (hv : a.eval s = .slice none 0 0) (hx : a.eval x = .slice ao 0 c)
    (hK : wpList P ops Q rest (a.put o.dst (.slice none 0 0)) w) : wpList P ops Q (o :: rest) a w := by
  refine wpList_plain hgd fun K hK' => ?_
  have hrun := run_append_none (P := P) w t tx o.type e e' i ht hk' hi ao c
  unfold Oper.wp
  simp [execOp, ho, resolve, invoke, builtin, hv, hx, hrun, Result.andThen]
  exact hK' _ _ hK

/-- 'string(b)'. -/
theorem Rd.str {src dst e : TypeId} (hs : P.underlying src = some (.slice e)) (he : P.underlying e = some (.int .u8)) (hd : P.underlying dst = some .string) {ao : Option Addr} {n cap : Nat} {bs : List UInt8} (h : Rd w ao n cap bs) :
    (convert src dst (.slice ao n cap)).run P w = .ok (.string ⟨bs.toArray⟩) w := by
  cases ao with
  | none =>
    have := h.nil rfl
    obtain rfl : n = 0 := by have := h.le; omega
    obtain rfl : bs = [] := List.eq_nil_of_length_eq_zero h.len
    rw [run_convert_bytes_string w src dst e none 0 cap hs he hd]
    simp [Conv.bytesToString, Sem.run_pure]
    rfl
  | some a =>
    have hl := h.len
    subst hl
    refine run_convert_bytes_back w src dst e a cap bs hs he hd (fun j hj => ?_)
    exact h.cells a rfl j _ (List.getElem?_eq_getElem hj)

end

theorem Own.drew {e : TypeId} {B : Nat} {w : World} {g n cap : Nat} {bs : List UInt8} (h : Own e B w g n cap bs) : Own e B w.drew g n cap bs := h.carry rfl

theorem Rd.drew {w : World} {ao : Option Addr} {n cap : Nat} {bs : List UInt8} (h : Rd w ao n cap bs) : Rd w.drew ao n cap bs := h.carry fun _ _ => rfl

theorem App.drew {e : TypeId} {B : Nat} {w : World} {ao : Option Addr} {n cap : Nat} {bs : List UInt8} (h : App e B w ao n cap bs) : App e B w.drew ao n cap bs :=
  ⟨h.1.drew, h.2.imp id fun ⟨g, h1, h2⟩ => ⟨g, h1, h2.drew⟩⟩

/-- A row of zeros, as make lays it. -/
def zrow (c : Nat) : Array Value := madeCells #[.int .u8 0] c

theorem zrow_size (c : Nat) : (zrow c).size = c := size_madeCells _ _

theorem zrow_list (c : Nat) : (zrow c).toList = List.replicate c (.int .u8 0) := by
  apply List.ext_getElem
  · simp [zrow, madeCells]
  · intro i h1 h2
    simp [zrow, madeCells]
    have : i % 1 = 0 := Nat.mod_one i
    simp [this]

section

variable {P : Program} (w : World)

/-- 'make([]byte, l, c)'. -/
theorem run_make_bytes (t e : TypeId) (i : TypeInfo) (ht : P.underlying t = some (.slice e)) (hi : P.info? e = some i) (hz : i.zero = some (.int .u8 0)) (hs1 : i.size = 1) (hb1 : i.bytes = 1) (kl kc : IntKind) (l c : Int)
    (h0 : 0 ≤ l) (hlc : l ≤ c) (hc : c ≤ 70368744177664) :
    (Instr.makeSlice t (.int kl l) (.int kc c)).run P w = .ok (.slice (some ⟨w.heap.size, 0, none⟩) l.toNat c.toNat) (w.alloc (.cells (zrow c.toNat) e)) := by
  rw [run_make (P := P) w t e i (.int .u8 0) ht hi hz kl kc l c h0 hlc (by rw [hb1]; omega) (by omega), hs1, Nat.mul_one]
  rfl

theorem own_made (e : TypeId) (B : Nat) (hB : B ≤ w.heap.size) (l c : Nat) (hlc : l ≤ c) (hc : c ≤ maxLen) : Own e B (w.alloc (.cells (zrow c) e)) w.heap.size l c (List.replicate l 0) :=
  ⟨by simp, hlc, hc, hB, _, heap_alloc_new w _, zrow_size c, by rw [zrow_list, List.take_replicate, Nat.min_eq_left hlc]; simp [bval]⟩

/-- append on bytes, at a step of a region that draws its order. -/
theorem step_append_bytes {ops : Array Oper} {o : Oper} {a : Act} {K : Act → World → Prop} {Q : Exit → Act → World → Prop} {E : Prop} (hgd : o.guard = none) (s x : Operand) (t tx : TypeId)
    (ho : o.op = .call { callee := .builtin .append, args := #[s, x], argTypes := #[t, tx] })
    (e : TypeId) (i : TypeInfo) (ht : P.underlying t = some (.slice e)) (hi : P.info? e = some i) (hz : i.zero = some (.int .u8 0)) (hs1 : i.size = 1) (hb1 : i.bytes = 1)
    (B : Nat) (hB : B ≤ w.heap.size) {ao : Option Addr} {n cap : Nat} {bs : List UInt8} (hv : a.eval s = .slice ao n cap) (hA : App e B w ao n cap bs)
    {xv : Value} {m : Nat} (news : List UInt8) (hx : a.eval x = xv) (hs : Src P 1 tx xv m (news.map bval) w)
    (hm : 0 < m ∨ ∃ g, ao = some ⟨g, 0, none⟩ ∧ Own e B w g n cap bs) (hle : n + m ≤ 70368744177664)
    (hK : ∀ g cap' w', Own e B w' g (n + m) cap' (bs ++ news) → Below B w w' → w.grownBy w' (Value.ownBlock (.slice ao n cap)) → (g = w.heap.size ∨ ao = some ⟨g, 0, none⟩) →
      K (a.put o.dst (.slice (some ⟨g, 0, none⟩) (n + m) cap')) w') :
    if Region.wanted o (yielded ops a.tmps) = true then Oper.wp P o a w K Q else E := by
  have hw : Region.wanted o (yielded ops a.tmps) = true := by simp [Region.wanted, hgd]
  rw [if_pos hw]
  obtain ⟨g, cap', w', hrun, h1, h2, h3, h4⟩ := run_append_bytes (P := P) w t tx o.type e i ht hi hz hs1 hb1 B hB hA xv m news hs hm hle
  unfold Oper.wp execOp
  simp only [ho, resolve, invoke, builtin, Sem.run_bind, Sem.run_pure, Result.andThen_ok, List.map_toArray, List.map_cons, List.map_nil, hv, hx, hrun]
  exact hK g cap' w' h1 h2 h3 h4

/-- Two elements, laid in a block of their own. -/
theorem src_two {tx e' : TypeId} (hk : P.underlying tx = some (.slice e')) (b : Nat) (c : Nat) (u v : UInt8) (h : w.cell? ⟨b, 0, none⟩ = some (.int .u8 (u.toNat : Int))) (h' : w.cell? ⟨b, 1, none⟩ = some (.int .u8 (v.toNat : Int))) :
    Src P 1 tx (.slice (some ⟨b, 0, none⟩) 2 c) 2 ([u, v].map bval) w :=
  Src.ofSlice w hk ⟨b, 0, none⟩ 2 c _ (by simp) (fun j y hj => by
    match j, hj with
    | 0, hj => simp at hj; subst hj; rw [Addr.add_lit]; exact h
    | 1, hj => simp at hj; subst hj; rw [Addr.add_lit]; exact h') (fun y hy => by simp at hy; rcases hy with rfl | rfl <;> rfl)

end

end Go.Proofs.YtkbpmpcbajnmlaaDoor
