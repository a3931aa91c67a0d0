/- Lists of byte slices in memory; the walks of the statements' own Sum, Place and Cut. No condition but that what is given can be read and is no longer than 2^20. -/
import Derived.Test.YtbbfjfmcmckdmaaTwin
import Derived.Deep.MidRow
namespace Go.Proofs.Ytbbfjfmcmckdmaa
open Go.RowKit

/-- Block g holds just these cells. -/
def Blk (w : World) (g : Nat) (t : TypeId) (l : List Value) : Prop := w.heap[g]? = some (.cells l.toArray t (0, 0))

theorem Blk.cell {w : World} {g : Nat} {t : TypeId} {l : List Value} (h : Blk w g t l) {j : Nat} {v : Value} (hj : l[j]? = some v) : w.cell? ⟨g, j, none⟩ = some v := by
  rw [cell_of_row w g j l.toArray t (0, 0) h]; simpa using hj

theorem Blk.frozen {w : World} {g : Nat} {t : TypeId} {l : List Value} (h : Blk w g t l) (j : Nat) : w.frozen? ⟨g, j, none⟩ = false := by
  unfold Blk at h
  simp [World.frozen?, h]

theorem Blk.lt {w : World} {g : Nat} {t : TypeId} {l : List Value} (h : Blk w g t l) : g < w.heap.size := (Array.getElem?_eq_some_iff.1 h).1

theorem Blk.set {w : World} {g : Nat} {t : TypeId} {l : List Value} (h : Blk w g t l) (j : Nat) (v : Value) : Blk (w.setCell ⟨g, j, none⟩ v) g t (l.set j v) := by
  unfold Blk at h ⊢
  simp [World.setCell, Array.getElem?_modify, h]

theorem Blk.carry {w w' : World} {g : Nat} {t : TypeId} {l : List Value} (h : Blk w g t l) (hb : w'.heap[g]? = w.heap[g]?) : Blk w' g t l := by unfold Blk; rw [hb]; exact h

theorem Blk.other {w : World} {g : Nat} {t : TypeId} {l : List Value} (h : Blk w g t l) {g' j : Nat} (v : Value) (hne : g ≠ g') : Blk (w.setCell ⟨g', j, none⟩ v) g t l :=
  h.carry (Below.heap_setCell _ _ _ _ (fun e => hne (by simpa using e)))

theorem Blk.drew {w : World} {g : Nat} {t : TypeId} {l : List Value} (h : Blk w g t l) : Blk w.drew g t l := h.carry rfl

theorem Blk.drewN {w : World} {g : Nat} {t : TypeId} {l : List Value} (h : Blk w g t l) (n : Nat) : Blk (w.drewN n) g t l := h.carry rfl

theorem bel_drewN {B : Nat} {a w : World} (h : Below B a w) (n : Nat) : Below B a (w.drewN n) := h.trans ⟨rfl, rfl, rfl, Nat.le_refl _, fun _ _ => rfl⟩

theorem Blk.alloc {w : World} {g : Nat} {t : TypeId} {l : List Value} (h : Blk w g t l) (o : Obj) : Blk (w.alloc o) g t l := h.carry (Below.heap_alloc w o g h.lt)

theorem Blk.new (w : World) (t : TypeId) (l : List Value) : Blk (w.alloc (.cells l.toArray t)) w.heap.size t l := heap_alloc_new w _

theorem Blk.below {C : Nat} {w w' : World} {g : Nat} {t : TypeId} {l : List Value} (h : Blk w g t l) (hb : Below C w w') (hg : g < C) : Blk w' g t l := h.carry (hb.block g hg)

/-- Below g. -/
def Low (n : Nat) (ao : Option Addr) (g : Nat) : Prop := 0 < n → ∀ a, ao = some a → a.block < g

theorem Rd.lowSize {w : World} {ao : Option Addr} {n cap : Nat} {bs : List UInt8} (h : Rd w ao n cap bs) : Low n ao w.heap.size := fun h0 a ha => by
  have hl := h.len
  have h1 := h.cells a ha 0 (bs[0]'(by omega)) (List.getElem?_eq_getElem _)
  have h2 := World.block_lt_of_cell? w _ h1
  unfold Addr.add at h2
  split at h2 <;> simpa using h2

theorem Rd.low {w w' : World} {ao : Option Addr} {n cap g : Nat} {bs : List UInt8} (h : Rd w ao n cap bs) (hl : Low n ao g) (hb : ∀ k, k < g → w'.heap[k]? = w.heap[k]?) : Rd w' ao n cap bs :=
  ⟨h.len, h.le, h.max, h.nil, fun a ha j u hu => by
    have h1 := h.cells a ha j u hu
    refine (World.cell?_of_block ?_).trans h1
    refine hb _ ?_
    have hj : j < bs.length := (List.getElem?_eq_some_iff.1 hu).1
    have := hl (by have := h.len; omega) a ha
    unfold Addr.add
    split <;> simpa using this⟩

/-- What is left behind the first k. -/
theorem Rd.rest {w : World} {b off n cap : Nat} {bs : List UInt8} (h : Rd w (some ⟨b, off, none⟩) n cap bs) (k : Nat) (hk : k ≤ n) : Rd w (if cap = k then some ⟨b, off, none⟩ else some ⟨b, off + k, none⟩) (n - k) (cap - k) (bs.drop k) := by
  have hle := h.le
  have hmax := h.max
  have hlen := h.len
  by_cases e : cap = k
  · obtain rfl : n = k := by omega
    rw [if_pos e, List.drop_eq_nil_of_le (by omega)]
    subst e
    rw [Nat.sub_self]
    exact Rd.none' _ _
  · rw [if_neg e]
    have := h.cut (w := w) k (n - k) (cap - k) (by omega) (by omega) (by omega)
    rwa [List.take_of_length_le (by simp; omega)] at this

theorem low_if {b off k g n m : Nat} (h : Low n (some ⟨b, off, none⟩) g) (hn : m ≤ n) (c : Prop) [Decidable c] : Low m (if c then some ⟨b, off, none⟩ else some ⟨b, off + k, none⟩) g := by
  intro h0 a ha
  have := h (by omega) _ rfl
  split at ha
  · obtain rfl : ⟨b, off, none⟩ = a := by simpa using ha
    exact this
  · obtain rfl : ⟨b, off + k, none⟩ = a := by simpa using ha
    exact this

/-- A part: a slice value that reads as bytes that lie below g. -/
def Part (w : World) (g : Nat) (v : Value) (bs : List UInt8) : Prop := ∃ a n c, v = .slice a n c ∧ Rd w a n c bs ∧ Low n a g

/-- Parts, all below g. -/
structure Parts (w : World) (g : Nat) (ao : Option Addr) (n cap : Nat) (ls : List (List UInt8)) : Prop where
  len : ls.length = n
  le : n ≤ cap
  max : cap ≤ maxLen
  cell : ∀ i l, ls[i]? = some l → ∃ b off v, ao = some ⟨b, off, none⟩ ∧ b < g ∧ w.cell? ⟨b, off + i, none⟩ = some v ∧ Part w g v l

theorem Part.low {w w' : World} {g : Nat} {v : Value} {bs : List UInt8} (h : Part w g v bs) (hb : ∀ k, k < g → w'.heap[k]? = w.heap[k]?) : Part w' g v bs := by
  obtain ⟨a, n, c, h1, h2, h3⟩ := h
  exact ⟨a, n, c, h1, h2.low h3 hb, h3⟩

theorem Low.mono {n : Nat} {ao : Option Addr} {g g' : Nat} (h : Low n ao g) (hg : g ≤ g') : Low n ao g' := fun h0 a ha => Nat.lt_of_lt_of_le (h h0 a ha) hg

theorem Part.mono {w : World} {g g' : Nat} {v : Value} {bs : List UInt8} (h : Part w g v bs) (hg : g ≤ g') : Part w g' v bs := by
  obtain ⟨a, n, c, h1, h2, h3⟩ := h
  exact ⟨a, n, c, h1, h2, h3.mono hg⟩

theorem Parts.low {w w' : World} {g : Nat} {ao : Option Addr} {n cap : Nat} {ls : List (List UInt8)} (h : Parts w g ao n cap ls) (hb : ∀ k, k < g → w'.heap[k]? = w.heap[k]?) : Parts w' g ao n cap ls :=
  ⟨h.len, h.le, h.max, fun i l hl => by
    obtain ⟨b, off, v, h1, h2, h3, h4⟩ := h.cell i l hl
    exact ⟨b, off, v, h1, h2, (World.cell?_of_block (hb b h2)).trans h3, h4.low hb⟩⟩

theorem flat_take (ls : List (List UInt8)) (k : Nat) (l : List UInt8) (h : ls[k]? = some l) : (ls.take (k + 1)).flatten = (ls.take k).flatten ++ l := by
  rw [List.take_add_one, h]
  simp

theorem flat_le (ls : List (List UInt8)) (k : Nat) : (ls.take k).flatten.length ≤ ls.flatten.length := by
  conv => rhs; rw [← List.take_append_drop k ls]
  rw [List.flatten_append, List.length_append]
  omega

theorem parts_nil (w : World) (g : Nat) : Parts w g none 0 0 [] := ⟨rfl, Nat.le_refl _, by decide, fun i l h => by simp at h⟩

/-- A part that was just laid. -/
theorem part_of {w : World} {g : Nat} {a : Option Addr} {n c : Nat} {bs : List UInt8} (h : Rd w a n c bs) (hl : Low n a g) : Part w g (.slice a n c) bs := ⟨a, n, c, rfl, h, hl⟩

set_option maxRecDepth 100000 in
set_option maxHeartbeats 1000000 in
theorem place_any (k : Int) (n : Nat) (w : World) (hn : 0 < n) (hn1 : n ≤ 1099511627776) :
    Calls Try.prog 21 #[.int .i64 k, .int .i64 (n : Int)] w fun e w' => ∃ m : Nat, m < n ∧ e = .returned (.int .i64 (m : Int)) ∧ w = w' := by
  have h1 := Int.tmod_lt_of_pos k (show (0 : Int) < n by omega)
  have h2 : -(n : Int) < k.tmod n := by
    have := Int.tmod_lt_of_pos (-k) (show (0 : Int) < n by omega)
    rw [Int.neg_tmod] at this
    omega
  obtain ⟨t, ht⟩ : ∃ t, k.tmod (n : Int) = t := ⟨_, rfl⟩
  rw [ht] at h1 h2
  by_cases h : t < 0
  · go_enter Try.func21, Try.ntmps21
    go_wp2
    go_ret
    refine ⟨(t + n).toNat, by omega, ?_, rfl⟩
    rw [show ((t + (n : Int)).toNat : Int) = t + n by omega]
    rfl
  · go_enter Try.func21, Try.ntmps21
    go_wp2
    go_ret
    refine ⟨t.toNat, by omega, ?_, rfl⟩
    rw [show (t.toNat : Int) = t by omega]
    rfl

/-- The block g is a row of the call's own (from block B on), of cap cells, the first of them vs. -/
structure OwnV (e : TypeId) (B : Nat) (w : World) (g n cap : Nat) (vs : List Value) : Prop where
  len : vs.length = n
  le : n ≤ cap
  max : cap ≤ maxLen
  new : B ≤ g
  row : ∃ cur : Array Value, w.heap[g]? = some (.cells cur e (0, 0)) ∧ cur.size = cap ∧ cur.toList.take n = vs

def AppV (e : TypeId) (B : Nat) (w : World) (ao : Option Addr) (n cap : Nat) (vs : List Value) : Prop :=
  (ao = none ∧ n = 0 ∧ cap = 0 ∧ vs = []) ∨ ∃ g, ao = some ⟨g, 0, none⟩ ∧ OwnV e B w g n cap vs

theorem OwnV.lt {e : TypeId} {B : Nat} {w : World} {g n cap : Nat} {vs : List Value} (h : OwnV e B w g n cap vs) : g < w.heap.size := by
  obtain ⟨cur, h1, _⟩ := h.row
  exact (Array.getElem?_eq_some_iff.1 h1).1

theorem OwnV.carry {e : TypeId} {B : Nat} {w w' : World} {g n cap : Nat} {vs : List Value} (h : OwnV e B w g n cap vs) (hb : w'.heap[g]? = w.heap[g]?) : OwnV e B w' g n cap vs :=
  ⟨h.len, h.le, h.max, h.new, by rw [hb]; exact h.row⟩

theorem OwnV.cell {e : TypeId} {B : Nat} {w : World} {g n cap : Nat} {vs : List Value} (h : OwnV e B w g n cap vs) {j : Nat} {v : Value} (hv : vs[j]? = some v) : w.cell? ⟨g, j, none⟩ = some v := by
  obtain ⟨cur, h1, h2, h3⟩ := h.row
  rw [cell_of_row w g j cur e (0, 0) h1]
  have hj : j < n := by have := (List.getElem?_eq_some_iff.1 hv).1; rw [h.len] at this; exact this
  rw [← h3, List.getElem?_take_of_lt hj] at hv
  simpa using hv

theorem AppV.alloc {e : TypeId} {B : Nat} {w : World} {ao : Option Addr} {n cap : Nat} {vs : List Value} (h : AppV e B w ao n cap vs) (o : Obj) : AppV e B (w.alloc o) ao n cap vs :=
  h.imp id fun ⟨g, h1, h2⟩ => ⟨g, h1, h2.carry (Below.heap_alloc w o g h2.lt)⟩

theorem AppV.below {e : TypeId} {B C : Nat} {w w' : World} {ao : Option Addr} {n cap : Nat} {vs : List Value} (h : AppV e B w ao n cap vs) (hb : Below C w w') (hC : w.heap.size ≤ C) : AppV e B w' ao n cap vs :=
  h.imp id fun ⟨g, h1, h2⟩ => ⟨g, h1, h2.carry (hb.block g (Nat.lt_of_lt_of_le h2.lt hC))⟩

section

variable {P : Program} (w : World)

theorem run_append_val (t tx ty e : TypeId) (i : TypeInfo) (z : Value) (ht : P.underlying t = some (.slice e)) (hi : P.info? e = some i) (hz : i.zero = some z) (hs1 : i.size = 1) (hzc : z.cells.size = 1) (hb1 : i.bytes ≤ 24)
    (B : Nat) (hB : B ≤ w.heap.size) {ao : Option Addr} {n cap : Nat} {vs : List Value} (hA : AppV e B w ao n cap vs) (x : Value) (v : Value) (hs : Src P 1 tx x 1 [v] w) (hle : n + 1 ≤ 1099511627776) :
    ∃ g cap' w', (Builtin.append_ #[t, tx] ty #[.slice ao n cap, x]).run P w = .ok (.slice (some ⟨g, 0, none⟩) (n + 1) cap') w' ∧ OwnV e B w' g (n + 1) cap' (vs ++ [v]) ∧
      Below B w w' ∧ w.grownBy w' (Value.ownBlock (.slice ao n cap)) ∧ (g = w.heap.size ∨ ao = some ⟨g, 0, none⟩) := by
  have hs' : Src P i.size tx x 1 [v] w := by rw [hs1]; exact hs
  by_cases hroom : n + 1 ≤ cap
  · obtain ⟨g, rfl, ho⟩ : ∃ g, ao = some ⟨g, 0, none⟩ ∧ OwnV e B w g n cap vs := by
      rcases hA with ⟨_, _, h, _⟩ | h
      · omega
      · exact h
    obtain ⟨cur, hg, hcs, htk⟩ := ho.row
    have hlen := ho.len
    have hr := run_append_room_row (P := P) w t tx ty e i ht hi g n cap cur hg x 1 [v] hs' hroom (by rw [hs1, hcs]; simp; omega)
    rw [hs1, Nat.mul_one] at hr
    refine ⟨g, cap, _, hr, ⟨by simp [hlen], hroom, ho.max, ho.new, _, setRow_heap w g cur _ e _ hg, ?_, ?_⟩, ⟨rfl, rfl, rfl, by simp, fun k hk => setRow_other w g k _ (by have := ho.new; omega)⟩,
      ⟨rfl, rfl, rfl, by simp, fun k _ hk => setRow_other w g k _ (fun e => hk (by simp [Value.ownBlock, e]))⟩, .inr rfl⟩
    · simp only [List.size_toArray, List.length_append, List.length_take, List.length_drop, Array.length_toList, List.length_cons, List.length_nil]
      omega
    · rw [htk]
      have hL : (vs ++ [v]).length = n + 1 := by simp [hlen]
      rw [← hL]
      exact List.take_left
  · have hlen : vs.length = n := by
      rcases hA with ⟨_, h1, _, h2⟩ | ⟨g, _, ho⟩
      · subst h1 h2; rfl
      · exact ho.len
    have hold : (Builtin.firstCells i.size n (.slice ao n cap)).run P w.drew = .ok vs.toArray w.drew := by
      rcases hA with ⟨rfl, rfl, rfl, rfl⟩ | ⟨g, rfl, ho⟩
      · exact run_firstCells_none w.drew i.size 0 0 0
      · refine run_firstCells_some w.drew i.size n ⟨g, 0, none⟩ n cap vs (by rw [hs1]; simpa using hlen) (fun j u hu => ?_)
        rw [Addr.add_lit, Nat.zero_add]
        simpa using ho.cell hu
    have hg : cap < n + 1 := by omega
    have hmul : (n + 1) * i.bytes ≤ (n + 1) * 24 := Nat.mul_le_mul_left _ hb1
    have hrun := run_append_grow_src (P := P) w t tx ty e i z ht hi hz ao n cap vs hold x 1 [v] hs' hg (by omega) (growslice_fits hg (by omega))
    have hge := grownCap_ge w (n + 1) cap e
    have hcm := grownCap_le_maxLen w (n + 1) cap e (by unfold maxLen; omega)
    refine ⟨w.heap.size, grownCap w (n + 1) cap e, _, hrun, ⟨by simp [hlen], hge, hcm, hB, _, heap_alloc_new w.drew _, ?_, ?_⟩, ⟨rfl, rfl, rfl, by simp, fun k hk => Below.heap_alloc w.drew _ k (Nat.lt_of_lt_of_le hk hB)⟩,
      ⟨rfl, rfl, rfl, by simp, fun k hk _ => Below.heap_alloc w.drew _ k hk⟩, .inl rfl⟩
    · rw [Array.size_append, List.size_toArray, List.length_append, size_zeroCells, hzc, hlen]
      simp only [List.length_cons, List.length_nil]
      omega
    · have hL : (vs ++ [v]).length = n + 1 := by simp [hlen]
      rw [Array.toList_append, List.toList_toArray, ← hL]
      exact List.take_left

theorem wpList_append_val {ops : Array Oper} {rest : List Oper} {o : Oper} {a : Act} {Q : Exit → Act → World → Prop} (hgd : o.guard = none) (s x : Operand) (t tx : TypeId)
    (ho : o.op = .call { callee := .builtin .append, args := #[s, x], argTypes := #[t, tx] })
    (e : TypeId) (i : TypeInfo) (z : Value) (ht : P.underlying t = some (.slice e)) (hi : P.info? e = some i) (hz : i.zero = some z) (hs1 : i.size = 1) (hzc : z.cells.size = 1) (hb1 : i.bytes ≤ 24)
    (B : Nat) (hB : B ≤ w.heap.size) {ao : Option Addr} {n cap : Nat} {vs : List Value} (hv : a.eval s = .slice ao n cap) (hA : AppV e B w ao n cap vs)
    {xv : Value} (v : Value) (hx : a.eval x = xv) (hs : Src P 1 tx xv 1 [v] w) (hle : n + 1 ≤ 1099511627776)
    (hK : ∀ g cap' w', OwnV e B w' g (n + 1) cap' (vs ++ [v]) → Below B w w' → w.grownBy w' (Value.ownBlock (.slice ao n cap)) → (g = w.heap.size ∨ ao = some ⟨g, 0, none⟩) →
      wpList P ops Q rest (a.put o.dst (.slice (some ⟨g, 0, none⟩) (n + 1) cap')) w') : wpList P ops Q (o :: rest) a w := by
  refine wpList_plain hgd fun K hK' => ?_
  obtain ⟨g, cap', w', hrun, h1, h2, h3, h4⟩ := run_append_val (P := P) w t tx o.type e i z ht hi hz hs1 hzc hb1 B hB hA xv v hs hle
  unfold Oper.wp
  simp [execOp, ho, resolve, invoke, builtin, hv, hx, hrun, Result.andThen]
  exact hK' _ _ (hK g cap' w' h1 h2 h3 h4)

/-- One value, laid in a block of its own. -/
theorem src_val {tx e' : TypeId} (hk : P.underlying tx = some (.slice e')) (b : Nat) (c : Nat) (v : Value) (h1 : v.oneCell' = true) (h : w.cell? ⟨b, 0, none⟩ = some v) : Src P 1 tx (.slice (some ⟨b, 0, none⟩) 1 c) 1 [v] w :=
  Src.ofSlice w hk ⟨b, 0, none⟩ 1 c _ (by simp) (fun j u hj => by
    match j, hj with
    | 0, hj => simp at hj; subst hj; rw [Addr.add_lit]; exact h) (fun u hu => by simp at hu; subst hu; exact h1)

end

theorem Try.info28 : (Try.prog.info? 28).map (fun i => (i.zero, i.size, i.bytes)) = some (some (.slice none 0 0), 1, 24) := by kernel_rfl

theorem info_parts28 : ∃ i, Try.prog.info? 28 = some i ∧ i.zero = some (.slice none 0 0) ∧ i.size = 1 ∧ i.bytes ≤ 24 := by
  have h := Try.info28
  cases hq : Try.prog.info? 28 with
  | none => rw [hq] at h; cases h
  | some i =>
    rw [hq] at h
    simp at h
    exact ⟨i, rfl, h.1, h.2.1, by omega⟩

/-- A []int that can be read. -/
structure RdI (w : World) (ao : Option Addr) (n cap : Nat) (zs : List Int) : Prop where
  len : zs.length = n
  le : n ≤ cap
  max : cap ≤ maxLen
  cells : ∀ j z, zs[j]? = some z → ∃ b off, ao = some ⟨b, off, none⟩ ∧ w.cell? ⟨b, off + j, none⟩ = some (.int .i64 z)

theorem RdI.below {C : Nat} {w w' : World} {ao : Option Addr} {n cap : Nat} {zs : List Int} (h : RdI w ao n cap zs) (hb : Below C w w') (hC : w.heap.size ≤ C) : RdI w' ao n cap zs :=
  ⟨h.len, h.le, h.max, fun j z hz => by
    obtain ⟨b, off, h1, h2⟩ := h.cells j z hz
    exact ⟨b, off, h1, (World.cell?_of_block (hb.block _ (Nat.lt_of_lt_of_le (World.block_lt_of_cell? w _ h2) hC))).trans h2⟩⟩

/-- Values that are parts, one by one. -/
def PV (w : World) (g : Nat) (vs : List Value) (ls : List (List UInt8)) : Prop := vs.length = ls.length ∧ ∀ (j : Nat) (l : List UInt8), ls[j]? = some l → ∃ v, vs[j]? = some v ∧ Part w g v l

theorem PV.low {w w' : World} {g : Nat} {vs : List Value} {ls : List (List UInt8)} (h : PV w g vs ls) (hb : ∀ k, k < g → w'.heap[k]? = w.heap[k]?) : PV w' g vs ls :=
  ⟨h.1, fun j l hl => by obtain ⟨v, h1, h2⟩ := h.2 j l hl; exact ⟨v, h1, h2.low hb⟩⟩

theorem PV.snoc {w : World} {g : Nat} {vs : List Value} {ls : List (List UInt8)} (h : PV w g vs ls) {v : Value} {l : List UInt8} (hp : Part w g v l) : PV w g (vs ++ [v]) (ls ++ [l]) :=
  ⟨by simp [h.1], fun j x hx => by
    by_cases hj : j < ls.length
    · rw [List.getElem?_append_left hj] at hx
      obtain ⟨u, h1, h2⟩ := h.2 j x hx
      exact ⟨u, by rw [List.getElem?_append_left (by rw [h.1]; exact hj)]; exact h1, h2⟩
    · rw [List.getElem?_append_right (by omega)] at hx
      have : j - ls.length = 0 := by
        have := (List.getElem?_eq_some_iff.1 hx).1
        simp at this
        omega
      rw [this] at hx
      simp at hx
      subst hx
      exact ⟨v, by rw [List.getElem?_append_right (by rw [h.1]; omega), h.1, this]; rfl, hp⟩⟩

theorem AppV.parts {B : Nat} {w : World} {ao : Option Addr} {n cap : Nat} {vs : List Value} {ls : List (List UInt8)} {g : Nat} (h : AppV 28 B w ao n cap vs) (hp : PV w g vs ls) (hg : g ≤ w.heap.size) : Parts w w.heap.size ao n cap ls := by
  rcases h with ⟨rfl, rfl, rfl, rfl⟩ | ⟨b, rfl, ho⟩
  · obtain rfl : ls = [] := List.eq_nil_of_length_eq_zero hp.1.symm
    exact parts_nil _ _
  · refine ⟨by rw [← hp.1]; exact ho.len, ho.le, ho.max, fun i l hl => ?_⟩
    obtain ⟨v, h1, h2⟩ := hp.2 i l hl
    exact ⟨b, 0, v, rfl, ho.lt, by rw [Nat.zero_add]; exact ho.cell h1, h2.mono hg⟩

theorem Rd.head {w : World} {b off n cap : Nat} {bs : List UInt8} (h : Rd w (some ⟨b, off, none⟩) n cap bs) (k : Nat) (hk : k ≤ n) : Rd w (some ⟨b, off, none⟩) k cap (bs.take k) := by
  have hle := h.le
  have := h.cut (w := w) 0 k cap (by omega) (by omega) h.max
  simpa using this

set_option maxRecDepth 100000 in
set_option maxHeartbeats 1000000 in
theorem cut_any (ao : Option Addr) (n cap : Nat) (bs : List UInt8) (so : Option Addr) (m scap : Nat) (zs : List Int) (w : World) (h : Rd w ao n cap bs) (hz : RdI w so m scap zs) (hn : n ≤ 1048576) (hm : m ≤ 1048576) :
    Calls Try.prog 20 #[.slice ao n cap, .slice so m scap] w fun e w' => ∃ ao' n' cap' ls, e = .returned (.slice ao' n' cap') ∧ Parts w' w'.heap.size ao' n' cap' ls ∧ ls.flatten = bs ∧ n' ≤ 1048577 ∧ Below w.heap.size w w' := by
  obtain ⟨i28, hi, hz0, hz1, hz2⟩ := info_parts28
  have HI : Hid _ := hi
  have HZ0 : Hid _ := hz0
  have HZ1 : Hid _ := hz1
  have hlow := h.lowSize
  clear hi hz0 hz1
  go_enter Try.func20, Try.ntmps20
  go_wp2_with fail
  go_loopw [0, 5, 6] (fun s0 s5 s6 wr => ∃ (k : Nat) (a' : Option Addr) (n' c' : Nat) (rest : List UInt8) (l' : Option Addr) (c2 : Nat) (vs : List Value) (ls : List (List UInt8)), k ≤ m ∧ s6 = .int .i64 (k : Int) ∧ s0 = .slice a' n' c' ∧ s5 = .slice l' k c2 ∧ n' ≤ n ∧ Rd wr a' n' c' rest ∧ Low n' a' w.heap.size ∧ AppV 28 w.heap.size wr l' k c2 vs ∧ PV wr w.heap.size vs ls ∧ Hid (ls.flatten ++ rest = bs) ∧ Below w.heap.size w wr) (fun _ _ s6 _ => m - (intOf s6).toNat)
  case atStart => exact ⟨0, ao, n, cap, bs, none, 0, [], [], by omega, rfl, rfl, rfl, Nat.le_refl _, h, hlow, .inl ⟨rfl, rfl, rfl, rfl⟩, ⟨rfl, fun j l hl => by simp at hl⟩, rfl, Below.refl _ _⟩
  case round =>
    clear h hlow
    obtain ⟨k, a', n', c', rest, l', c2, vs, ls, hk, rfl, rfl, rfl, hn', hr, hlow, hA, hP, HE, hB⟩ := hrel
    have hle := hr.le
    have hmx := hr.max
    unfold maxLen at hmx
    have hzr := hz.below hB (Nat.le_refl _)
    have hzle := hz.le
    have hzmx := hz.max
    unfold maxLen at hzmx
    have hsz := hB.size
    by_cases h0 : 0 < n'
    · by_cases hlt : k < m
      · obtain ⟨b, off, rfl, _, _⟩ := hr.at h0
        obtain ⟨z, hzk⟩ : ∃ z, zs[k]? = some z := ⟨_, List.getElem?_eq_getElem (by rw [hz.len]; exact hlt)⟩
        obtain ⟨sb, soff, rfl, hc⟩ := hzr.cells k z hzk
        clear hzk
        go_wp2_with fail
        refine (place_any z n' _ h0 (by omega)).mono ?_
        rintro e w1 ⟨p, hp, rfl, rfl⟩
        have hh := hr.head (p + 1) (by omega)
        have hA1 := hA.alloc (.cells #[.slice (some ⟨b, off, none⟩) (p + 1) c'] 28)
        have hB1 := hB.alloc hsz (.cells #[.slice (some ⟨b, off, none⟩) (p + 1) c'] 28)
        have hcn : (wr.alloc (.cells #[.slice (some ⟨b, off, none⟩) (p + 1) c'] 28)).cell? ⟨wr.heap.size, 0, none⟩ = some (.slice (some ⟨b, off, none⟩) (p + 1) c') := (Blk.new wr 28 [.slice (some ⟨b, off, none⟩) (p + 1) c']).cell rfl
        have hcn' : Hid _ := hcn
        clear hcn
        go_wp2_with (at_builtin; refine wpList_append_val (P := Try.prog) _ (by rfl) (.tmp 27) (.tmp 31) 22 22 (by rfl) 28 i28 (.slice none 0 0) Try.underlying22 HI.out HZ0.out HZ1.out rfl hz2 w.heap.size (by simp; omega) (by rfl) hA1 (.slice (some ⟨b, off, none⟩) (p + 1) c') (by rfl) (src_val _ Try.underlying22 wr.heap.size _ _ rfl hcn'.out) (by omega) ?_; intro g2 cap2 w2 ho2 hb2 hg2 hw2)
        have hold : ∀ j, j < w.heap.size → w2.heap[j]? = wr.heap[j]? := fun j hj => (hb2.block j hj).trans (Below.heap_alloc wr _ j (by omega))
        have hN := (hr.low hlow hold).rest (p + 1) (by omega)
        have hH : Part w2 w.heap.size (.slice (some ⟨b, off, none⟩) (p + 1) c') (rest.take (p + 1)) := part_of ((hr.low hlow hold).head (p + 1) (by omega)) (fun _ => hlow h0)
        refine ⟨⟨k + 1, _, n' - (p + 1), c' - (p + 1), rest.drop (p + 1), some ⟨g2, 0, none⟩, cap2, _, ls ++ [rest.take (p + 1)], by omega, by go_num, rfl, rfl, by omega, hN, low_if hlow (by omega) _, .inr ⟨g2, rfl, ho2⟩, (hP.low hold).snoc hH, ?_, hB1.trans hb2⟩, by simp [intOf]; omega⟩
        unfold Hid
        rw [List.flatten_append, List.append_assoc]
        simpa using HE.out
      · have hz' : (k : Int) = m := by omega
        obtain ⟨b, off, rfl, _, _⟩ := hr.at h0
        have hA1 := hA.alloc (.cells #[.slice (some ⟨b, off, none⟩) n' c'] 28)
        have hB1 := hB.alloc hsz (.cells #[.slice (some ⟨b, off, none⟩) n' c'] 28)
        have hcn' : Hid ((wr.alloc (.cells #[.slice (some ⟨b, off, none⟩) n' c'] 28)).cell? ⟨wr.heap.size, 0, none⟩ = some (.slice (some ⟨b, off, none⟩) n' c')) := (Blk.new wr 28 [.slice (some ⟨b, off, none⟩) n' c']).cell rfl
        go_wp2_with (at_builtin; refine wpList_append_val (P := Try.prog) _ (by rfl) (.tmp 39) (.tmp 41) 22 22 (by rfl) 28 i28 (.slice none 0 0) Try.underlying22 HI.out HZ0.out HZ1.out rfl hz2 w.heap.size (by simp; omega) (by rfl) hA1 (.slice (some ⟨b, off, none⟩) n' c') (by rfl) (src_val _ Try.underlying22 wr.heap.size _ _ rfl hcn'.out) (by omega) ?_; intro g2 cap2 w2 ho2 hb2 hg2 hw2)
        have hold : ∀ j, j < w.heap.size → w2.heap[j]? = wr.heap[j]? := fun j hj => (hb2.block j hj).trans (Below.heap_alloc wr _ j (by omega))
        have hH : Part w2 w.heap.size (.slice (some ⟨b, off, none⟩) n' c') rest := part_of (hr.low hlow hold) hlow
        have hB2 := hB1.trans hb2
        go_ret
        refine ⟨some ⟨g2, 0, none⟩, k + 1, cap2, ls ++ [rest], rfl, AppV.parts (.inr ⟨g2, rfl, ho2⟩) ((hP.low hold).snoc hH) hB2.size, ?_, by omega, hB2⟩
        rw [List.flatten_append]
        simpa using HE.out
    · obtain rfl : n' = 0 := by omega
      obtain rfl : rest = [] := List.eq_nil_of_length_eq_zero hr.len
      have HE2 : Hid (ls.flatten = bs) := by have := HE.out; rw [List.append_nil] at this; exact this
      by_cases hlt : k < m
      · go_wp2_with fail
        go_ret
        exact ⟨l', k, c2, ls, rfl, AppV.parts hA hP hsz, HE2.out, by omega, hB⟩
      · go_wp2_with fail
        go_ret
        exact ⟨l', k, c2, ls, rfl, AppV.parts hA hP hsz, HE2.out, by omega, hB⟩

set_option maxRecDepth 100000 in
set_option maxHeartbeats 1000000 in
theorem lsum_any (ao : Option Addr) (n cap : Nat) (ls : List (List UInt8)) (w : World) (h : Parts w w.heap.size ao n cap ls) (hn : n ≤ 1048576) (M : Nat) (hM : M ≤ 1048576) :
    Calls Try.prog 9 #[.slice ao n cap, .int .i64 (M : Int)] w fun e w' => (∃ z : Nat, e = .returned (.int .i64 (z : Int)) ∧ z ≤ 2 * M + 1 ∧ (z ≤ M → ls.flatten.length ≤ M)) ∧ w = w' := by
  have hnc := h.le
  have hcm := h.max
  unfold maxLen at hcm
  go_enter Try.func9, Try.ntmps9
  go_wp2_with fail
  go_loop [5, 6] (fun s5 s6 => ∃ (k t : Nat), k ≤ n ∧ s6 = .int .i64 (k : Int) ∧ s5 = .int .i64 (t : Int) ∧ Hid (t = (ls.take k).flatten.length) ∧ t ≤ 2 * M) (fun _ s6 => n - (intOf s6).toNat)
  case atStart => exact ⟨0, 0, by omega, rfl, rfl, rfl, by omega⟩
  case round =>
    obtain ⟨k, t, hkn, rfl, rfl, HT, ht⟩ := hrel
    by_cases hlt : k < n
    · by_cases hle : t ≤ M
      · obtain ⟨l, hl⟩ : ∃ l, ls[k]? = some l := ⟨_, List.getElem?_eq_getElem (by rw [h.len]; exact hlt)⟩
        obtain ⟨b, off, v, rfl, hbg, hc, pa, pm, pc, rfl, hr, _⟩ := h.cell k l hl
        have HF : Hid _ := flat_take ls k l hl
        have HPL : Hid _ := hr.len
        have hpc := hr.le
        have hpx := hr.max
        unfold maxLen at hpx
        clear hl hr
        by_cases hbig : M < pm
        · go_wp2_with fail
          go_ret
          exact ⟨⟨M + 1, by go_num, by omega, fun h => by omega⟩, rfl⟩
        · have HT2 : Hid (t + pm = (ls.take (k + 1)).flatten.length) := by unfold Hid; rw [HF.out, List.length_append, HPL.out, ← HT.out]
          go_wp2_with fail
          exact ⟨⟨k + 1, t + pm, by omega, by go_num, by go_num, HT2, by omega⟩, by simp [intOf]; omega⟩
      · go_wp2_with fail
        go_ret
        exact ⟨⟨t, rfl, by omega, fun h => by omega⟩, rfl⟩
    · have HT2 : Hid (t = ls.flatten.length) := by
        have := HT.out
        rw [List.take_of_length_le (by rw [h.len]; omega)] at this
        exact this
      go_wp2_with fail
      go_ret
      exact ⟨⟨t, rfl, by omega, fun h => by have e := HT2.out; rw [← List.length_flatten, ← e]; exact h⟩, rfl⟩
end Go.Proofs.Ytbbfjfmcmckdmaa
