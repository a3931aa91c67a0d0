/- Small laws on blocks that are known whole, of no program. -/
import Derived.Test.YtpibpjbeedcefaaDoorNum
import Derived.Deep.MidRow
namespace Go.Proofs.YtpibpjbeedcefaaDoor
open Go.RowKit

/-- Block g holds just these cells. -/
def Blk (w : World) (g : Nat) (t : TypeId) (l : List Value) : Prop := w.heap[g]? = some (.cells l.toArray t (0, 0))

theorem Blk.cell {w : World} {g : Nat} {t : TypeId} {l : List Value} (h : Blk w g t l) {j : Nat} {v : Value} (hj : l[j]? = some v) : w.cell? ⟨g, j, none⟩ = some v := by
  rw [cell_of_row w g j l.toArray t (0, 0) h]; simpa using hj
theorem Blk.frozen {w : World} {g : Nat} {t : TypeId} {l : List Value} (h : Blk w g t l) (j : Nat) : w.frozen? ⟨g, j, none⟩ = false := by
  unfold Blk at h
  simp [World.frozen?, h]
theorem Blk.lt {w : World} {g : Nat} {t : TypeId} {l : List Value} (h : Blk w g t l) : g < w.heap.size := (Array.getElem?_eq_some_iff.1 h).1
theorem Blk.set {w : World} {g : Nat} {t : TypeId} {l : List Value} (h : Blk w g t l) (j : Nat) (v : Value) : Blk (w.setCell ⟨g, j, none⟩ v) g t (l.set j v) := by
  unfold Blk at h ⊢
  simp [World.setCell, Array.getElem?_modify, h]
theorem Blk.setTo {w : World} {g : Nat} {t : TypeId} {l l' : List Value} (h : Blk w g t l) {j : Nat} {k : IntKind} {z z' : Int} (hz : z = z') (hl : l.set j (.int k z') = l') : Blk (w.setCell ⟨g, j, none⟩ (.int k z)) g t l' := by
  subst hz hl; exact h.set j _
theorem Blk.carry {w w' : World} {g : Nat} {t : TypeId} {l : List Value} (h : Blk w g t l) (hb : w'.heap[g]? = w.heap[g]?) : Blk w' g t l := by unfold Blk; rw [hb]; exact h
theorem Blk.other {w : World} {g : Nat} {t : TypeId} {l : List Value} (h : Blk w g t l) {g' j : Nat} (v : Value) (hne : g ≠ g') : Blk (w.setCell ⟨g', j, none⟩ v) g t l :=
  h.carry (Below.heap_setCell _ _ _ _ (fun e => hne (by simpa using e)))
theorem Blk.drew {w : World} {g : Nat} {t : TypeId} {l : List Value} (h : Blk w g t l) : Blk w.drew g t l := h.carry rfl
theorem Blk.drewN {w : World} {g : Nat} {t : TypeId} {l : List Value} (h : Blk w g t l) (n : Nat) : Blk (w.drewN n) g t l := h.carry rfl
theorem bel_drewN {B : Nat} {a w : World} (h : Below B a w) (n : Nat) : Below B a (w.drewN n) := h.trans ⟨rfl, rfl, rfl, Nat.le_refl _, fun _ _ => rfl⟩
theorem Blk.alloc {w : World} {g : Nat} {t : TypeId} {l : List Value} (h : Blk w g t l) (o : Obj) : Blk (w.alloc o) g t l := h.carry (Below.heap_alloc w o g h.lt)
theorem Blk.new (w : World) (t : TypeId) (l : List Value) : Blk (w.alloc (.cells l.toArray t)) w.heap.size t l := heap_alloc_new w _
theorem Blk.below {C : Nat} {w w' : World} {g : Nat} {t : TypeId} {l : List Value} (h : Blk w g t l) (hb : Below C w w') (hg : g < C) : Blk w' g t l := h.carry (hb.block g hg)

theorem Blk.range {w : World} {g : Nat} {t : TypeId} {l : List Value} (h : Blk w g t l) (o : Nat) (cs : List Value) (hc : ∀ j v, cs[j]? = some v → l[o + j]? = some v) : w.rangeAt g o cs :=
  fun j v hv => h.cell (hc j v hv)
theorem Blk.whole {w : World} {g : Nat} {t : TypeId} {l : List Value} (h : Blk w g t l) : w.rangeAt g 0 l := h.range 0 l fun j v hv => by rw [Nat.zero_add]; exact hv
theorem Blk.there {w : World} {g : Nat} {t : TypeId} {l : List Value} (h : Blk w g t l) (o n : Nat) (hn : o + n ≤ l.length) : w.there g o n := fun j hj => by
  refine ⟨?_, h.frozen _⟩
  rw [h.cell (List.getElem?_eq_getElem (show o + j < l.length by omega))]; rfl

theorem splice_cons {α : Type} (l : List α) (o : Nat) (v : α) (r : List α) (ho : o + (v :: r).length ≤ l.length) : splice (l.set o v) (o + 1) r = splice l o (v :: r) := by
  simp only [List.length_cons] at ho
  unfold splice
  apply List.ext_getElem?
  intro j
  simp only [List.length_cons]
  rw [List.getElem?_append, List.getElem?_append, List.getElem?_append, List.getElem?_append]
  simp only [List.length_take, List.length_set, List.length_cons]
  have e1 : min (o + 1) l.length = o + 1 := by omega
  have e2 : min o l.length = o := by omega
  rw [e1, e2]
  by_cases h1 : j < o
  · rw [if_pos (by omega), if_pos h1, List.getElem?_take_of_lt (by omega), List.getElem?_take_of_lt h1, List.getElem?_set_ne (by omega)]
  · by_cases h2 : j = o
    · subst h2
      rw [if_pos (by omega), if_neg (by omega), if_pos (by omega), List.getElem?_take_of_lt (by omega), List.getElem?_set_self (by omega)]
      simp
    · rw [if_neg (by omega), if_neg h1]
      by_cases h3 : j < o + 1 + r.length
      · rw [if_pos (by omega), if_pos (by omega), show j - o = (j - (o + 1)) + 1 by omega, List.getElem?_cons_succ]
      · rw [if_neg (by omega), if_neg (by omega), List.getElem?_drop, List.getElem?_drop, List.getElem?_set_ne (by omega)]
        congr 1
        omega

theorem splice_nil {α : Type} (l : List α) (o : Nat) : splice l o [] = l := by unfold splice; simp

theorem Blk.setCells {g : Nat} {t : TypeId} : ∀ (vs : List Value) (o : Nat) (w : World) (l : List Value), Blk w g t l → o + vs.length ≤ l.length → Blk (w.setCells g o vs) g t (splice l o vs)
  | [], o, w, l, h, _ => by rw [splice_nil]; exact h
  | v :: r, o, w, l, h, hl => by
    rw [World.setCells, ← splice_cons l o v r hl]
    exact Blk.setCells r (o + 1) _ _ (h.set o v) (by simp at hl ⊢; omega)

theorem setCells_heap (g : Nat) : ∀ (vs : List Value) (o : Nat) (w : World) (k : Nat), k ≠ g → (w.setCells g o vs).heap[k]? = w.heap[k]?
  | [], _, _, _, _ => rfl
  | v :: r, o, w, k, hk => by
    rw [World.setCells, setCells_heap g r (o + 1) _ k hk]
    exact Below.heap_setCell _ _ _ _ (fun e => hk (by simpa using e))

theorem setCells_size (g : Nat) : ∀ (vs : List Value) (o : Nat) (w : World), (w.setCells g o vs).heap.size = w.heap.size
  | [], _, _ => rfl
  | v :: r, o, w => by rw [World.setCells, setCells_size g r (o + 1) _]; simp [World.setCell]

theorem below_setCells {C : Nat} {w0 w : World} (h : Below C w0 w) (g : Nat) (hg : C ≤ g) : ∀ (vs : List Value) (o : Nat), Below C w0 (w.setCells g o vs)
  | [], _ => h
  | v :: r, o => by
    rw [World.setCells]
    exact below_setCells (h.setCell hg v) g hg r (o + 1)

theorem Blk.apart {w : World} {g : Nat} {t : TypeId} {l : List Value} (h : Blk w g t l) (g' o : Nat) (vs : List Value) (hne : g ≠ g') : Blk (w.setCells g' o vs) g t l :=
  h.carry (setCells_heap g' vs o w g hne)

theorem splice_all {α : Type} (l vs : List α) (h : vs.length = l.length) : splice l 0 vs = vs := by unfold splice; simp [h]

theorem Blk.store {w : World} {g : Nat} {t : TypeId} {l : List Value} (h : Blk w g t l) (vs : List Value) (hl : vs.length = l.length) : Blk (w.setCells g 0 vs) g t vs := by
  have := Blk.setCells vs 0 w l h (by omega)
  rwa [splice_all l vs hl] at this

theorem Tryd.size64 : (Tryd.prog.info? 64).map (·.size) = some 64 := by kernel_rfl
theorem Tryd.size27 : (Tryd.prog.info? 27).map (·.size) = some 32 := by kernel_rfl
theorem Tryd.size46 : (Tryd.prog.info? 46).map (·.size) = some 8 := by kernel_rfl
theorem Tryd.size47 : (Tryd.prog.info? 47).map (·.size) = some 64 := by kernel_rfl
theorem Tryd.size49 : (Tryd.prog.info? 49).map (·.size) = some 74 := by kernel_rfl
theorem Tryd.size58 : (Tryd.prog.info? 58).map (·.size) = some 64 := by kernel_rfl
theorem Tryd.size60 : (Tryd.prog.info? 60).map (·.size) = some 8 := by kernel_rfl
theorem Tryd.size32 : (Tryd.prog.info? 32).map (·.size) = some 2 := by kernel_rfl

/-- The first i places as f says, the others as g does. -/
def half (n i : Nat) (f g : Nat → Value) : List Value := (List.range n).map fun j => if j < i then f j else g j

theorem half_length (n i : Nat) (f g : Nat → Value) : (half n i f g).length = n := by simp [half]
theorem half_lt {n i j : Nat} {f g : Nat → Value} (hj : j < n) (hi : j < i) : (half n i f g)[j]? = some (f j) := by simp [half, hj, hi]
theorem half_ge {n i j : Nat} {f g : Nat → Value} (hj : j < n) (hi : i ≤ j) : (half n i f g)[j]? = some (g j) := by simp [half, hj, Nat.not_lt.2 hi]
theorem half_set {n i : Nat} {f g : Nat → Value} (hi : i < n) : (half n i f g).set i (f i) = half n (i + 1) f g := by
  apply List.ext_getElem?
  intro j
  by_cases hj : j < n
  · by_cases e : i = j
    · subst e
      rw [List.getElem?_set_self (by rw [half_length]; exact hi), half_lt hj (by omega)]
    · rw [List.getElem?_set_ne e]
      by_cases h : j < i
      · rw [half_lt hj h, half_lt hj (by omega)]
      · rw [half_ge hj (by omega), half_ge hj (by omega)]
  · rw [List.getElem?_eq_none (by rw [List.length_set, half_length]; omega), List.getElem?_eq_none (by rw [half_length]; omega)]
theorem half_zero (n : Nat) (f g : Nat → Value) : half n 0 f g = (List.range n).map g := by simp [half]
theorem half_all (n : Nat) (f g : Nat → Value) : half n n f g = (List.range n).map f := by
  unfold half
  apply List.map_congr_left
  intro j hj
  rw [if_pos (by simpa using hj)]

def u32s (l : List Nat) : List Value := l.map fun n : Nat => .int .u32 (n : Int)
def u64s (l : List Nat) : List Value := l.map fun n : Nat => .int .u64 (n : Int)
theorem u32s_length (l : List Nat) : (u32s l).length = l.length := by simp [u32s]
theorem u64s_length (l : List Nat) : (u64s l).length = l.length := by simp [u64s]
theorem u32s_get {l : List Nat} {j : Nat} (hj : j < l.length) : (u32s l)[j]? = some (.int .u32 (l.getD j 0 : Int)) := by simp [u32s, hj]
theorem u64s_get {l : List Nat} {j : Nat} (hj : j < l.length) : (u64s l)[j]? = some (.int .u64 (l.getD j 0 : Int)) := by simp [u64s, hj]
theorem range_getD (l : List Nat) (n : Nat) (h : l.length = n) : (List.range n).map (fun j => l.getD j 0) = l := by
  subst h
  apply List.ext_getElem
  · simp
  · intro i h1 h2
    simp at h1
    simp [h1]
theorem u32s_range (l : List Nat) (n : Nat) (h : l.length = n) : (List.range n).map (fun j => Value.int .u32 (l.getD j 0 : Int)) = u32s l := by
  unfold u32s
  conv => rhs; rw [← range_getD l n h]
  rw [List.map_map]; rfl
theorem u64s_range (l : List Nat) (n : Nat) (h : l.length = n) : (List.range n).map (fun j => Value.int .u64 (l.getD j 0 : Int)) = u64s l := by
  unfold u64s
  conv => rhs; rw [← range_getD l n h]
  rw [List.map_map]; rfl
theorem one_u32s (l : List Nat) : ∀ v ∈ u32s l, v.oneCell' = true := by intro v hv; obtain ⟨u, _, rfl⟩ := List.mem_map.1 hv; rfl
theorem one_u64s (l : List Nat) : ∀ v ∈ u64s l, v.oneCell' = true := by intro v hv; obtain ⟨u, _, rfl⟩ := List.mem_map.1 hv; rfl
theorem one_bytes (l : List UInt8) : ∀ v ∈ l.map bval, v.oneCell' = true := by intro v hv; obtain ⟨u, _, rfl⟩ := List.mem_map.1 hv; rfl

theorem exts_length (k : Nat) (l : List Nat) : (exts k l).length = l.length + k := by
  induction k with
  | zero => rfl
  | succ k ih => simp [exts, ih, Nat.add_assoc]
theorem exts_get {k m : Nat} {l : List Nat} (hkm : k ≤ m) {j : Nat} (hj : j < l.length + k) : (exts m l).getD j 0 = (exts k l).getD j 0 := by
  induction m with
  | zero => obtain rfl : k = 0 := by omega
            rfl
  | succ m ih =>
    by_cases e : k = m + 1
    · subst e; rfl
    · rw [← ih (by omega)]
      have := exts_length m l
      simp [exts, List.getElem?_append_left (show j < (exts m l).length by omega)]
/-- The words of a block, one by one. -/
theorem exts_step' {l : List Nat} (hl : l.length = 16) (m : Nat) {i : Nat} (hi : 16 ≤ i) (hi2 : i < 16 + m) :
    (exts m l).getD i 0 = ((exts m l).getD (i - 16) 0 + lo0 ((exts m l).getD (i - 15) 0) + (exts m l).getD (i - 7) 0 + lo1 ((exts m l).getD (i - 2) 0)) % 4294967296 := by
  have hn := exts_length (i - 16) l
  have e : i - 16 + 1 = i - 15 := by omega
  have h1 : (exts (i - 16 + 1) l).getD i 0 = ext (exts (i - 16) l) := by
    simp only [exts]
    rw [List.getD_eq_getElem?_getD, List.getElem?_append_right (by omega), show i - (exts (i - 16) l).length = 0 by omega, List.getElem?_cons_zero, Option.getD_some]
  have h2 : ext (exts (i - 16) l) = ((exts m l).getD (i - 16) 0 + lo0 ((exts m l).getD (i - 15) 0) + (exts m l).getD (i - 7) 0 + lo1 ((exts m l).getD (i - 2) 0)) % 4294967296 := by
    rw [exts_get (k := i - 16) (m := m) (by omega) (show i - 16 < l.length + (i - 16) by omega), exts_get (k := i - 16) (m := m) (by omega) (show i - 15 < l.length + (i - 16) by omega), exts_get (k := i - 16) (m := m) (by omega) (show i - 7 < l.length + (i - 16) by omega), exts_get (k := i - 16) (m := m) (by omega) (show i - 2 < l.length + (i - 16) by omega)]
    unfold ext
    rw [hn, hl, show 16 + (i - 16) = i by omega]
  rw [← h2, ← h1, exts_get (k := i - 16 + 1) (by omega) (by omega)]
theorem exts_low {l : List Nat} (m : Nat) {j : Nat} (hj : j < l.length) : (exts m l).getD j 0 = l.getD j 0 := exts_get (k := 0) (by omega) (by omega)
theorem exts_lt {l : List Nat} (hl : l.length = 16) (m : Nat) (h : ∀ j, l.getD j 0 < 4294967296) (j : Nat) : (exts m l).getD j 0 < 4294967296 := by
  have hn := exts_length m l
  by_cases h1 : j < 16
  · rw [exts_low m (by omega)]; exact h j
  · by_cases h2 : j < 16 + m
    · rw [exts_step' hl m (by omega) h2]; omega
    · rw [List.getD_eq_getElem?_getD, List.getElem?_eq_none (by omega)]; decide
theorem words_length (b : List UInt8) : (words b).length = 16 := by simp [words]
theorem words_get (b : List UInt8) {i : Nat} (hi : i < 16) : (words b).getD i 0 = n8 ((b.drop (4 * i)).take 4) := by simp [words, hi]
theorem words_lt (b : List UInt8) (j : Nat) : (words b).getD j 0 < 4294967296 := by
  by_cases h : j < 16
  · rw [words_get b h]
    have h1 := n8_lt ((b.drop (4 * j)).take 4)
    have h2 : 256 ^ ((b.drop (4 * j)).take 4).length ≤ 256 ^ 4 := Nat.pow_le_pow_right (by decide) (by simp; omega)
    omega
  · rw [List.getD_eq_getElem?_getD, List.getElem?_eq_none (by rw [words_length]; omega)]; decide
end Go.Proofs.YtpibpjbeedcefaaDoor
