/- The walks of the statements' own Twin, Kept and Spoil. No condition but that what is given can be read and is no longer than 2^40. -/
import Derived.Test.YtkbpmpcbajnmlaaDoorText
import Derived.Laws.CopyOwn
namespace Go.Proofs.YtkbpmpcbajnmlaaDoor
open Go.RowKit

theorem str_of {w : World} {ao : Option Addr} {n cap : Nat} {bs : List UInt8} (h : Rd w ao n cap bs) : (convert 22 9 (.slice ao n cap)).run Tryd.prog w = .ok (.string ⟨bs.toArray⟩) w :=
  h.str (P := Tryd.prog) w (src := 22) (dst := 9) Tryd.underlying22 Tryd.underlying5 Tryd.underlying9

theorem var_nil (x : Nat) (w : World) (hx : x < 18446744073709551616) :
    Calls Tryd.prog 83 #[.slice none 0 0, .int .u64 (x : Int)] w fun e w' => ∃ g cap', e = .returned (.slice (some ⟨g, 0, none⟩) (Lib.uvarint x).length cap') ∧ Own 5 w.heap.size w' g (Lib.uvarint x).length cap' (Lib.uvarint x) ∧ Below w.heap.size w w' := by
  have h := var_any none 0 0 [] x w (App.nil 5 0 _).1 (by decide) hx
  simpa only [Nat.zero_add, List.nil_append] using h

/-- Block g is a row of bytes, known whole. -/
def RowIs (w : World) (g : Nat) (l : List Value) : Prop := w.heap[g]? = some (.cells l.toArray 5 (0, 0))

theorem RowIs.cell {w : World} {g : Nat} {l : List Value} (h : RowIs w g l) {j : Nat} {v : Value} (hj : l[j]? = some v) : w.cell? ⟨g, j, none⟩ = some v := by
  rw [cell_of_row w g j l.toArray 5 (0, 0) h]; simpa using hj

theorem RowIs.frozen {w : World} {g : Nat} {l : List Value} (h : RowIs w g l) (j : Nat) : w.frozen? ⟨g, j, none⟩ = false := by
  unfold RowIs at h
  simp [World.frozen?, h]

theorem RowIs.lt {w : World} {g : Nat} {l : List Value} (h : RowIs w g l) : g < w.heap.size := (Array.getElem?_eq_some_iff.1 h).1

theorem RowIs.set {w : World} {g : Nat} {l : List Value} (h : RowIs w g l) (j : Nat) (v : Value) : RowIs (w.setCell ⟨g, j, none⟩ v) g (l.set j v) := by
  unfold RowIs at h ⊢
  simp [World.setCell, Array.getElem?_modify, h]

theorem RowIs.carry {w w' : World} {g : Nat} {l : List Value} (h : RowIs w g l) (hb : w'.heap[g]? = w.heap[g]?) : RowIs w' g l := by unfold RowIs; rw [hb]; exact h

theorem RowIs.own {w : World} {g n cap : Nat} {l : List Value} {bs : List UInt8} (h : RowIs w g l) (B : Nat) (hB : B ≤ g) (hl : l.length = cap) (hn : bs.length = n) (hle : n ≤ cap) (hm : cap ≤ maxLen) (ht : l.take n = bs.map bval) : Own 5 B w g n cap bs :=
  ⟨hn, hle, hm, hB, _, h, by simpa using hl, by simpa using ht⟩

theorem grown_refl (w : World) (row : Option Nat) : w.grownBy w row := ⟨rfl, rfl, rfl, Nat.le_refl _, fun _ _ _ => rfl⟩

theorem grown_trans {a b c : World} {row : Option Nat} (h : a.grownBy b row) (k : b.grownBy c row) : a.grownBy c row :=
  ⟨k.os.trans h.os, k.tape.trans h.tape, k.output.trans h.output, Nat.le_trans h.size k.size, fun i hi hne => (k.block i (Nat.lt_of_lt_of_le hi h.size) hne).trans (h.block i hi hne)⟩

theorem grown_setCell (w : World) (g j : Nat) (v : Value) : w.grownBy (w.setCell ⟨g, j, none⟩ v) (some g) :=
  ⟨rfl, rfl, rfl, by simp [World.setCell], fun k _ hne => Below.heap_setCell _ _ _ _ (fun e => hne (by rw [e]))⟩

/-- A twin's row: the bytes, and three spare places. -/
def twinRow (bs : List UInt8) : List Value := bs.map bval ++ [.int .u8 229, .int .u8 229, .int .u8 229]

theorem twin_start (n : Nat) (bs : List UInt8) (h : bs.length = n) : splice (zrow (n + 3)).toList 0 (bs.map bval) = bs.map bval ++ (List.replicate 0 (Value.int .u8 229) ++ List.replicate (3 - 0) (Value.int .u8 0)) := by
  rw [zrow_list]
  simp [splice, h]

theorem twin_step (k : Nat) (hk : k < 3) (bs : List UInt8) : (bs.map bval ++ (List.replicate k (Value.int .u8 229) ++ List.replicate (3 - k) (Value.int .u8 0))).set (bs.length + k) (.int .u8 229) = bs.map bval ++ (List.replicate (k + 1) (Value.int .u8 229) ++ List.replicate (3 - (k + 1)) (Value.int .u8 0)) := by
  have hs : k = 0 ∨ k = 1 ∨ k = 2 := by omega
  rw [List.set_append_right _ _ (by simp)]
  rcases hs with rfl | rfl | rfl <;> simp [List.replicate]

set_option maxRecDepth 100000 in
set_option maxHeartbeats 400000 in
theorem twin_any (ao : Option Addr) (n cap : Nat) (bs : List UInt8) (w : World) (h : Rd w ao n cap bs) (hn : n ≤ 1099511627776) :
    Calls Tryd.prog 7 #[.slice ao n cap] w fun e w' => e = .returned (.slice (some ⟨w.heap.size, 0, none⟩) n (n + 3)) ∧ RowIs w' w.heap.size (twinRow bs) ∧ Below w.heap.size w w' := by
  obtain ⟨i5, hi, hz0, hz1, hz2⟩ := info_parts Tryd.info5
  have hle := h.le
  have hmax := h.max
  unfold maxLen at hmax
  have HL : Hid (bs.length = n) := h.len
  have hmk : ∀ w : World, (Instr.makeSlice 22 (.int .i64 ((n : Int) + 3)) (.int .i64 ((n : Int) + 3))).run Tryd.prog w = .ok (.slice (some ⟨w.heap.size, 0, none⟩) (n + 3) (n + 3)) (w.alloc (.cells (zrow (n + 3)) 5)) := fun w => by
    rw [run_make_bytes (P := Tryd.prog) w 22 5 i5 Tryd.underlying22 hi hz0 hz1 hz2 .i64 .i64 ((n : Int) + 3) ((n : Int) + 3) (by omega) (by omega) (by omega)]
    rfl
  have hsz5 : (Tryd.prog.info? 5).map (·.size) = some 1 := by rw [hi]; simp [hz1]
  have h1 := h.alloc (.cells (zrow (n + 3)) 5)
  have HS : Hid _ := twin_start n bs h.len
  have hg : (w.alloc (.cells (zrow (n + 3)) 5)).heap[w.heap.size]? = some (.cells (zrow (n + 3)).toList.toArray 5 (0, 0)) := by simpa using heap_alloc_new w (.cells (zrow (n + 3)) 5)
  have HG : Hid _ := hg
  clear hg
  have C1 : Hid ((bs.map bval).length = Nat.min n (n + 3)) := by unfold Hid; rw [List.length_map, HL.out]; exact (Nat.min_eq_left (by omega)).symm
  have C2 : Hid (0 < (bs.map bval).length → some (⟨w.heap.size, 0, none⟩ : Addr) = some ⟨w.heap.size, 0, none⟩ ∧ ∃ ad, ao = some ad ∧ ∀ j v, (bs.map bval)[j]? = some v → (w.alloc (.cells (zrow (n + 3)) 5)).cell? (ad.add j) = some v) := by
    intro h0
    refine ⟨rfl, ?_⟩
    cases ao with
    | none => have := h.nil rfl; rw [List.length_map, HL.out] at h0; omega
    | some a =>
      refine ⟨a, rfl, fun j v hv => ?_⟩
      rw [List.getElem?_map] at hv
      cases hj : bs[j]? with
      | none => rw [hj] at hv; cases hv
      | some u =>
        rw [hj] at hv
        simp only [Option.map_some, Option.some.injEq] at hv
        subst hv
        exact h1.cells a rfl j u hj
  have C3 : Hid (0 + (bs.map bval).length ≤ (zrow (n + 3)).toList.length) := by unfold Hid; rw [zrow_list]; simp [HL.out]
  have C4 : Hid (∀ v ∈ bs.map bval, v.oneCell' = true) := by
    intro v hv
    obtain ⟨u, _, rfl⟩ := List.mem_map.1 hv
    rfl
  have C5 : Hid (Below w.heap.size w (w.alloc (.cells (zrow (n + 3)) 5))) := (Below.refl _ _).alloc (Nat.le_refl _) _
  clear h1
  go_enter Tryd.func7, Tryd.ntmps7
  go_wp2_with (refine wpList_copy_splice (by rfl) (.tmp 9) (.tmp 10) 22 22 (by rfl) 5 Tryd.underlying22 hsz5 (some ⟨w.heap.size, 0, none⟩) ao (n + 3) (n + 3) n cap (by rfl) (by rfl) w.heap.size 0 (zrow (n + 3)).toList 5 HG.out (bs.map bval) C1.out C2.out C3.out C4.out w.heap.size w C5.out (Nat.le_refl _) ?_; intro w2 HG2 hB2)
  have hrow : RowIs w2 w.heap.size _ := HG2.out
  rw [HS.out] at hrow
  clear HG2 C1 C2 C3 C4 C5 HG HS hmk hsz5
  go_loopw [4] (fun i wr => ∃ k : Nat, k ≤ 3 ∧ i = .int .i64 ((n : Int) + (k : Int)) ∧ RowIs wr w.heap.size (bs.map bval ++ (List.replicate k (Value.int .u8 229) ++ List.replicate (3 - k) (Value.int .u8 0))) ∧ Below w.heap.size w wr)
    (fun i _ => n + 3 - (intOf i).toNat)
  case atStart => exact ⟨0, by omega, by simp, hrow, hB2⟩
  case round =>
    clear hrow hB2
    obtain ⟨k, hk, rfl, hrow, hb⟩ := hrel
    by_cases hlt : k < 3
    · have hc : wr.cell? ⟨w.heap.size, n + k, none⟩ = some (.int .u8 0) := hrow.cell (by
        rw [List.getElem?_append_right (by simp [HL.out])]
        have hs : k = 0 ∨ k = 1 ∨ k = 2 := by omega
        rcases hs with rfl | rfl | rfl <;> simp [HL.out, List.replicate])
      have hf := hrow.frozen (n + k)
      have hst := twin_step k hlt bs
      have hr2 := hrow.set (n + k) (.int .u8 229)
      rw [HL.out] at hst
      rw [hst] at hr2
      clear hst hrow
      go_wp2
      go_roundw
      case rel => exact ⟨k + 1, by omega, by go_num, hr2, hb.setCell (Nat.le_refl _) _⟩
      case measure => simp [intOf]; omega
    · obtain rfl : k = 3 := by omega
      go_wp2
      go_ret
      exact ⟨rfl, hrow, hb⟩

set_option maxRecDepth 100000 in
set_option maxHeartbeats 400000 in
theorem kept_any (g n : Nat) (bo : Option Addr) (cap : Nat) (bs : List UInt8) (w : World) (hrow : RowIs w g (twinRow bs)) (h : Rd w bo n cap bs) (hn : n ≤ 1099511627776) :
    Calls Tryd.prog 14 #[.slice (some ⟨g, 0, none⟩) n (n + 3), .slice bo n cap] w fun e w' => e = .returned (.bool true) ∧ w = w' := by
  have HL : Hid (bs.length = n) := h.len
  have ho : Own 5 0 w g n (n + 3) bs := hrow.own 0 (Nat.zero_le _) (by simp [twinRow, HL.out]) h.len (by omega) (by unfold maxLen; omega) (by simp [twinRow, HL.out])
  have s1 := str_of ho.rd
  have s2 := str_of h
  have hmax := h.max
  unfold maxLen at hmax
  have hle := h.le
  clear ho
  go_enter Tryd.func14, Tryd.ntmps14
  go_wp2_with fail
  go_loop [6] (fun i => ∃ k : Nat, k ≤ 3 ∧ i = .int .i64 ((n : Int) + (k : Int))) (fun i => n + 3 - (intOf i).toNat)
  case atStart => exact ⟨0, by omega, by simp⟩
  case round =>
    obtain ⟨k, hk, rfl⟩ := hrel
    by_cases hlt : k < 3
    · have hc : w.cell? ⟨g, n + k, none⟩ = some (.int .u8 229) := hrow.cell (by
        unfold twinRow
        rw [List.getElem?_append_right (by simp [HL.out])]
        have hs : k = 0 ∨ k = 1 ∨ k = 2 := by omega
        rcases hs with rfl | rfl | rfl <;> simp [HL.out])
      go_wp2
      go_round
      case rel => exact ⟨k + 1, by omega, by go_num⟩
      case measure => simp [intOf]; omega
    · obtain rfl : k = 3 := by omega
      go_wp2
      go_ret
      exact ⟨rfl, rfl⟩

set_option maxRecDepth 100000 in
set_option maxHeartbeats 400000 in
theorem spoil_any (g n cap : Nat) (l : List Value) (w : World) (hrow : RowIs w g l) (hl : l.length = cap) (hmax : cap ≤ maxLen) :
    Calls Tryd.prog 15 #[.slice (some ⟨g, 0, none⟩) n cap] w fun e w' => e = .returned (.tuple #[]) ∧ w.grownBy w' (some g) := by
  unfold maxLen at hmax
  have HL : Hid (l.length = cap) := hl
  clear hl
  go_enter Tryd.func15, Tryd.ntmps15
  go_wp2_with fail
  go_loopw [3] (fun i wr => ∃ (k : Nat) (l' : List Value), k ≤ cap ∧ i = .int .i64 (k : Int) ∧ RowIs wr g l' ∧ Hid (l'.length = cap) ∧ w.grownBy wr (some g)) (fun i _ => cap - (intOf i).toNat)
  case atStart => exact ⟨0, l, by omega, rfl, hrow, HL, grown_refl _ _⟩
  case round =>
    obtain ⟨k, l', hk, rfl, hrow', HL', hg⟩ := hrel
    by_cases hlt : k < cap
    · have hc : wr.cell? ⟨g, k, none⟩ = some (l'[k]'(by rw [HL'.out]; exact hlt)) := hrow'.cell (List.getElem?_eq_getElem _)
      have hf := hrow'.frozen k
      have hr2 := hrow'.set k (.int .u8 90)
      have HL2 : Hid ((l'.set k (.int .u8 90)).length = cap) := by unfold Hid; rw [List.length_set]; exact HL'.out
      clear hrow'
      go_wp2
      go_roundw
      case rel => exact ⟨k + 1, _, by omega, by go_num, hr2, HL2, grown_trans hg (grown_setCell wr g k _)⟩
      case measure => simp [intOf]; omega
    · go_wp2
      go_end0
      exact ⟨rfl, hg⟩

set_option maxHeartbeats 400000 in
theorem spoil_nil (w : World) : Calls Tryd.prog 15 #[.slice none 0 0] w fun e w' => e = .returned (.tuple #[]) ∧ w = w' := by
  go_enter Tryd.func15, Tryd.ntmps15
  go_wp2_with fail
  go_loop [3] (fun i => i = .int .i64 0) (fun _ => 0)
  case atStart => rfl
  case round =>
    subst hrel
    go_wp2
    go_end0
    exact ⟨rfl, rfl⟩

end Go.Proofs.YtkbpmpcbajnmlaaDoor
