/- The state of a sum in memory, and the table of round words: small laws. -/
import Derived.Test.YtpibpjbeedcefaaDoorSpread
namespace Go.Proofs.YtpibpjbeedcefaaDoor
open Go.RowKit

/-- The table of round words is there. -/
def Keys (w : World) : Prop := ∀ i, i < 64 → w.cell? ⟨0, i, none⟩ = some (.int .u32 (keyTab.getD i 0 : Int))
theorem Keys.lt {w : World} (h : Keys w) : 0 < w.heap.size := World.block_lt_of_cell? w _ (h 0 (by decide))
theorem Keys.carry {w w' : World} (h : Keys w) (hb : w'.heap[0]? = w.heap[0]?) : Keys w' := fun i hi => (World.cell?_of_block hb).trans (h i hi)
theorem Keys.below {B : Nat} {w w' : World} (h : Keys w) (hb : Below B w w') (hB : 0 < B) : Keys w' := h.carry (hb.block 0 hB)
theorem Keys.alloc {w : World} (h : Keys w) (o : Obj) : Keys (w.alloc o) := h.carry (Below.heap_alloc w o 0 h.lt)

/-- The block g is a state: the words, the block's bytes, how many are there, how many in all. -/
def stCells (v : V8) (blk : List UInt8) (held len : Nat) : List Value := u32s v.list ++ (blk.map bval ++ [.int .i64 (held : Int), .int .u64 (len : Int)])
structure St (w : World) (g : Nat) (v : V8) (blk : List UInt8) (held len : Nat) : Prop where
  row : Blk w g 49 (stCells v blk held len)
  ok : v.ok
  l64 : blk.length = 64

theorem V8.list_length (v : V8) : v.list.length = 8 := rfl
theorem stCells_length {v : V8} {blk : List UInt8} {held len : Nat} (h : blk.length = 64) : (stCells v blk held len).length = 74 := by simp [stCells, u32s_length, V8.list_length, h]

theorem St.word {w : World} {g : Nat} {v : V8} {blk : List UInt8} {held len : Nat} (h : St w g v blk held len) {j : Nat} (hj : j < 8) : w.cell? ⟨g, j, none⟩ = some (.int .u32 (v.list.getD j 0 : Int)) :=
  h.row.cell (by
    unfold stCells
    rw [List.getElem?_append_left (by rw [u32s_length, V8.list_length]; exact hj), u32s_get (by rw [V8.list_length]; exact hj)])
theorem St.byte {w : World} {g : Nat} {v : V8} {blk : List UInt8} {held len : Nat} (h : St w g v blk held len) {j : Nat} (hj : j < 64) : w.cell? ⟨g, 8 + j, none⟩ = some (bval (blk.getD j 0)) :=
  h.row.cell (by
    have hl := h.l64
    unfold stCells
    rw [List.getElem?_append_right (by rw [u32s_length, V8.list_length]; omega), u32s_length, V8.list_length, show 8 + j - 8 = j by omega, List.getElem?_append_left (by simp; omega), List.getElem?_map, List.getElem?_eq_getElem (by omega)]
    rw [List.getD_eq_getElem?_getD, List.getElem?_eq_getElem (show j < blk.length by omega)]; rfl)
theorem St.heldAt {w : World} {g : Nat} {v : V8} {blk : List UInt8} {held len : Nat} (h : St w g v blk held len) : w.cell? ⟨g, 72, none⟩ = some (.int .i64 (held : Int)) :=
  h.row.cell (by
    have hl := h.l64
    unfold stCells
    rw [List.getElem?_append_right (by rw [u32s_length, V8.list_length]; omega), u32s_length, V8.list_length, List.getElem?_append_right (by simp; omega), List.length_map, hl]; rfl)
theorem St.lenAt {w : World} {g : Nat} {v : V8} {blk : List UInt8} {held len : Nat} (h : St w g v blk held len) : w.cell? ⟨g, 73, none⟩ = some (.int .u64 (len : Int)) :=
  h.row.cell (by
    have hl := h.l64
    unfold stCells
    rw [List.getElem?_append_right (by rw [u32s_length, V8.list_length]; omega), u32s_length, V8.list_length, List.getElem?_append_right (by simp; omega), List.length_map, hl]; rfl)
theorem St.bytes {w : World} {g : Nat} {v : V8} {blk : List UInt8} {held len : Nat} (h : St w g v blk held len) : w.rangeAt g 8 (blk.map bval) :=
  h.row.range 8 _ fun j u hu => by
    have hj : j < (blk.map bval).length := (List.getElem?_eq_some_iff.1 hu).1
    unfold stCells
    rw [List.getElem?_append_right (by rw [u32s_length, V8.list_length]; omega), u32s_length, V8.list_length, show 8 + j - 8 = j by omega, List.getElem?_append_left hj, hu]
theorem St.carry {w w' : World} {g : Nat} {v : V8} {blk : List UInt8} {held len : Nat} (h : St w g v blk held len) (hb : w'.heap[g]? = w.heap[g]?) : St w' g v blk held len := ⟨h.row.carry hb, h.ok, h.l64⟩
theorem St.lt {w : World} {g : Nat} {v : V8} {blk : List UInt8} {held len : Nat} (h : St w g v blk held len) : g < w.heap.size := h.row.lt
theorem St.below {B : Nat} {w w' : World} {g : Nat} {v : V8} {blk : List UInt8} {held len : Nat} (h : St w g v blk held len) (hb : Below B w w') (hg : g < B) : St w' g v blk held len := h.carry (hb.block g hg)
theorem St.setHeld {w : World} {g : Nat} {v : V8} {blk : List UInt8} {held len : Nat} (h : St w g v blk held len) {z : Int} {n : Nat} (hz : z = (n : Int)) : St (w.setCell ⟨g, 72, none⟩ (.int .i64 z)) g v blk n len :=
  ⟨h.row.setTo hz (by
    have hl := h.l64
    unfold stCells
    rw [List.set_append_right _ _ (by rw [u32s_length, V8.list_length]; omega), u32s_length, V8.list_length, List.set_append_right _ _ (by simp; omega), List.length_map, hl]; rfl), h.ok, h.l64⟩
theorem St.setLen {w : World} {g : Nat} {v : V8} {blk : List UInt8} {held len : Nat} (h : St w g v blk held len) {z : Int} {n : Nat} (hz : z = (n : Int)) : St (w.setCell ⟨g, 73, none⟩ (.int .u64 z)) g v blk held n :=
  ⟨h.row.setTo hz (by
    have hl := h.l64
    unfold stCells
    rw [List.set_append_right _ _ (by rw [u32s_length, V8.list_length]; omega), u32s_length, V8.list_length, List.set_append_right _ _ (by simp; omega), List.length_map, hl]; rfl), h.ok, h.l64⟩
theorem St.setByte {w : World} {g : Nat} {v : V8} {blk : List UInt8} {held len : Nat} (h : St w g v blk held len) {j : Nat} (hj : j < 64) {z : Int} {u : UInt8} (hz : z = (u.toNat : Int)) : St (w.setCell ⟨g, 8 + j, none⟩ (.int .u8 z)) g v (blk.set j u) held len :=
  ⟨h.row.setTo hz (by
    have hl := h.l64
    unfold stCells
    rw [List.set_append_right _ _ (by rw [u32s_length, V8.list_length]; omega), u32s_length, V8.list_length, show 8 + j - 8 = j by omega, List.set_append_left _ _ (by simp; omega), List.map_set]; rfl), h.ok, by rw [List.length_set]; exact h.l64⟩

theorem grownTo {B g : Nat} {w w' : World} (h : w.grownBy w' (some g)) (hB : B ≤ g) (hs : B ≤ w.heap.size) : Below B w w' :=
  ⟨h.os, h.tape, h.output, h.size, fun i hi => h.block i (by omega) (by simp; omega)⟩
theorem grownOf {g : Nat} {w w' : World} (h : Below w.heap.size w w') : w.grownBy w' (some g) :=
  ⟨h.os, h.tape, h.output, h.size, fun i hi _ => h.block i hi⟩
end Go.Proofs.YtpibpjbeedcefaaDoor
