/- The walks of the statements' own Twin and Kept, and of the document's own Eight and TakeEight. No condition but that what is given can be read and is no longer than 2^40. -/
import Derived.Test.YtpibpjbeedcefaaDoorKit
import Derived.Laws.CopyOwn
import Derived.WalkSpells
import Derived.WalkLawsBesides
import Derived.Lib.EndianBits
import Derived.Lib.VarintBits
import Derived.Lib.Split
import Derived.Deep.RegionWith
import Derived.BigQuiet
import Derived.Deep.QuietTactic
namespace Go.Proofs.YtpibpjbeedcefaaDoor
open Go.RowKit

theorem Tryd.info5 : (Tryd.prog.info? 5).map (fun i => (i.zero, i.size, i.bytes)) = some (some (.int .u8 0), 1, 1) := by kernel_rfl

theorem Rd.at {w : World} {ao : Option Addr} {n cap : Nat} {bs : List UInt8} (h : Rd w ao n cap bs) {k : Nat} (hk : k < n) :
    ∃ b off, ao = some ⟨b, off, none⟩ ∧ ∃ hk' : k < bs.length, w.cell? ⟨b, off + k, none⟩ = some (.int .u8 (bs[k].toNat : Int)) := by
  have hl := h.len
  cases ao with
  | none => have := h.nil rfl; have := h.le; omega
  | some a =>
    have h0 := h.cells a rfl 0 (bs[0]'(by omega)) (List.getElem?_eq_getElem _)
    have h1 := h.cells a rfl k (bs[k]'(by omega)) (List.getElem?_eq_getElem _)
    have h2 := World.cell?_spot h0
    obtain ⟨b, off, spot⟩ := a
    have h3 : spot = none := by simpa [Addr.add] using h2
    subst h3
    rw [Addr.add_lit] at h1
    exact ⟨b, off, rfl, by omega, h1⟩



/-- 'string(b)' at the program's own types. -/
theorem str_of {w : World} {ao : Option Addr} {n cap : Nat} {bs : List UInt8} (h : Rd w ao n cap bs) : (convert 23 9 (.slice ao n cap)).run Tryd.prog w = .ok (.string ⟨bs.toArray⟩) w :=
  h.str (P := Tryd.prog) w (src := 23) (dst := 9) Tryd.underlying23 Tryd.underlying5 Tryd.underlying9

theorem ba_size (l : List UInt8) : (⟨l.toArray⟩ : ByteArray).size = l.length := by show (List.toArray _).size = _; simp



theorem rd_built (e : TypeId) (w : World) (bs : List UInt8) (hb : bs.length ≤ maxLen) : Rd (w.alloc (.cells (bs.map bval).toArray e)) (some ⟨w.heap.size, 0, none⟩) bs.length bs.length bs :=
  ⟨rfl, Nat.le_refl _, hb, (fun h => by cases h), fun a ha j u hu => by
    obtain rfl : ⟨w.heap.size, 0, none⟩ = a := by simpa using ha
    rw [Addr.add_lit, Nat.zero_add, cell_of_row _ w.heap.size j _ e (0, 0) (heap_alloc_new w _)]
    simp [hu, bval]⟩



/-- Block g is a row of bytes, known whole. -/
def RowIs (w : World) (g : Nat) (l : List Value) : Prop := w.heap[g]? = some (.cells l.toArray 5 (0, 0))

theorem RowIs.cell {w : World} {g : Nat} {l : List Value} (h : RowIs w g l) {j : Nat} {v : Value} (hj : l[j]? = some v) : w.cell? ⟨g, j, none⟩ = some v := by
  rw [cell_of_row w g j l.toArray 5 (0, 0) h]; simpa using hj
theorem RowIs.frozen {w : World} {g : Nat} {l : List Value} (h : RowIs w g l) (j : Nat) : w.frozen? ⟨g, j, none⟩ = false := by
  unfold RowIs at h
  simp [World.frozen?, h]
theorem RowIs.lt {w : World} {g : Nat} {l : List Value} (h : RowIs w g l) : g < w.heap.size := (Array.getElem?_eq_some_iff.1 h).1
theorem RowIs.set {w : World} {g : Nat} {l : List Value} (h : RowIs w g l) (j : Nat) (v : Value) : RowIs (w.setCell ⟨g, j, none⟩ v) g (l.set j v) := by
  unfold RowIs at h ⊢
  simp [World.setCell, Array.getElem?_modify, h]
theorem RowIs.carry {w w' : World} {g : Nat} {l : List Value} (h : RowIs w g l) (hb : w'.heap[g]? = w.heap[g]?) : RowIs w' g l := by unfold RowIs; rw [hb]; exact h
theorem RowIs.own {w : World} {g n cap : Nat} {l : List Value} {bs : List UInt8} (h : RowIs w g l) (B : Nat) (hB : B ≤ g) (hl : l.length = cap) (hn : bs.length = n) (hle : n ≤ cap) (hm : cap ≤ maxLen) (ht : l.take n = bs.map bval) : Own 5 B w g n cap bs :=
  ⟨hn, hle, hm, hB, _, h, by simpa using hl, by simpa using ht⟩

theorem grown_refl (w : World) (row : Option Nat) : w.grownBy w row := ⟨rfl, rfl, rfl, Nat.le_refl _, fun _ _ _ => rfl⟩
theorem grown_trans {a b c : World} {row : Option Nat} (h : a.grownBy b row) (k : b.grownBy c row) : a.grownBy c row :=
  ⟨k.os.trans h.os, k.tape.trans h.tape, k.output.trans h.output, Nat.le_trans h.size k.size, fun i hi hne => (k.block i (Nat.lt_of_lt_of_le hi h.size) hne).trans (h.block i hi hne)⟩
theorem grown_setCell (w : World) (g j : Nat) (v : Value) : w.grownBy (w.setCell ⟨g, j, none⟩ v) (some g) :=
  ⟨rfl, rfl, rfl, by simp [World.setCell], fun k _ hne => Below.heap_setCell _ _ _ _ (fun e => hne (by rw [e]))⟩

/-- A twin's row: the bytes, and three spare places. -/
def twinRow (bs : List UInt8) : List Value := bs.map bval ++ [.int .u8 229, .int .u8 229, .int .u8 229]

theorem twin_start (n : Nat) (bs : List UInt8) (h : bs.length = n) : splice (zrow (n + 3)).toList 0 (bs.map bval) = bs.map bval ++ (List.replicate 0 (Value.int .u8 229) ++ List.replicate (3 - 0) (Value.int .u8 0)) := by
  rw [zrow_list]
  simp [splice, h]

theorem twin_step (k : Nat) (hk : k < 3) (bs : List UInt8) : (bs.map bval ++ (List.replicate k (Value.int .u8 229) ++ List.replicate (3 - k) (Value.int .u8 0))).set (bs.length + k) (.int .u8 229) = bs.map bval ++ (List.replicate (k + 1) (Value.int .u8 229) ++ List.replicate (3 - (k + 1)) (Value.int .u8 0)) := by
  have hs : k = 0 ∨ k = 1 ∨ k = 2 := by omega
  rw [List.set_append_right _ _ (by simp)]
  rcases hs with rfl | rfl | rfl <;> simp [List.replicate]

set_option maxRecDepth 100000 in
set_option maxHeartbeats 400000 in
theorem twin_any (ao : Option Addr) (n cap : Nat) (bs : List UInt8) (w : World) (h : Rd w ao n cap bs) (hn : n ≤ 1099511627776) :
    Calls Tryd.prog 19 #[.slice ao n cap] w fun e w' => e = .returned (.slice (some ⟨w.heap.size, 0, none⟩) n (n + 3)) ∧ RowIs w' w.heap.size (twinRow bs) ∧ Below w.heap.size w w' := by
  obtain ⟨i5, hi, hz0, hz1, hz2⟩ := info_parts Tryd.info5
  have hle := h.le
  have hmax := h.max
  unfold maxLen at hmax
  have HL : Hid (bs.length = n) := h.len
  have hmk : ∀ w : World, (Instr.makeSlice 23 (.int .i64 ((n : Int) + 3)) (.int .i64 ((n : Int) + 3))).run Tryd.prog w = .ok (.slice (some ⟨w.heap.size, 0, none⟩) (n + 3) (n + 3)) (w.alloc (.cells (zrow (n + 3)) 5)) := fun w => by
    rw [run_make_bytes (P := Tryd.prog) w 23 5 i5 Tryd.underlying23 hi hz0 hz1 hz2 .i64 .i64 ((n : Int) + 3) ((n : Int) + 3) (by omega) (by omega) (by omega)]
    rfl
  have hsz5 : (Tryd.prog.info? 5).map (·.size) = some 1 := by rw [hi]; simp [hz1]
  have h1 := h.alloc (.cells (zrow (n + 3)) 5)
  have HS : Hid _ := twin_start n bs h.len
  have hg : (w.alloc (.cells (zrow (n + 3)) 5)).heap[w.heap.size]? = some (.cells (zrow (n + 3)).toList.toArray 5 (0, 0)) := by simpa using heap_alloc_new w (.cells (zrow (n + 3)) 5)
  have HG : Hid _ := hg
  clear hg
  have C1 : Hid ((bs.map bval).length = Nat.min n (n + 3)) := by unfold Hid; rw [List.length_map, HL.out]; exact (Nat.min_eq_left (by omega)).symm
  have C2 : Hid (0 < (bs.map bval).length → some (⟨w.heap.size, 0, none⟩ : Addr) = some ⟨w.heap.size, 0, none⟩ ∧ ∃ ad, ao = some ad ∧ ∀ j v, (bs.map bval)[j]? = some v → (w.alloc (.cells (zrow (n + 3)) 5)).cell? (ad.add j) = some v) := by
    intro h0
    refine ⟨rfl, ?_⟩
    cases ao with
    | none => have := h.nil rfl; rw [List.length_map, HL.out] at h0; omega
    | some a =>
      refine ⟨a, rfl, fun j v hv => ?_⟩
      rw [List.getElem?_map] at hv
      cases hj : bs[j]? with
      | none => rw [hj] at hv; cases hv
      | some u =>
        rw [hj] at hv
        simp only [Option.map_some, Option.some.injEq] at hv
        subst hv
        exact h1.cells a rfl j u hj
  have C3 : Hid (0 + (bs.map bval).length ≤ (zrow (n + 3)).toList.length) := by unfold Hid; rw [zrow_list]; simp [HL.out]
  have C4 : Hid (∀ v ∈ bs.map bval, v.oneCell' = true) := by
    intro v hv
    obtain ⟨u, _, rfl⟩ := List.mem_map.1 hv
    rfl
  have C5 : Hid (Below w.heap.size w (w.alloc (.cells (zrow (n + 3)) 5))) := (Below.refl _ _).alloc (Nat.le_refl _) _
  clear h1
  go_enter Tryd.func19, Tryd.ntmps19
  go_wp2_with (refine wpList_copy_splice (by rfl) (.tmp 9) (.tmp 10) 23 23 (by rfl) 5 Tryd.underlying23 hsz5 (some ⟨w.heap.size, 0, none⟩) ao (n + 3) (n + 3) n cap (by rfl) (by rfl) w.heap.size 0 (zrow (n + 3)).toList 5 HG.out (bs.map bval) C1.out C2.out C3.out C4.out w.heap.size w C5.out (Nat.le_refl _) ?_; intro w2 HG2 hB2)
  have hrow : RowIs w2 w.heap.size _ := HG2.out
  rw [HS.out] at hrow
  clear HG2 C1 C2 C3 C4 C5 HG HS hmk hsz5
  go_loopw [4] (fun i wr => ∃ k : Nat, k ≤ 3 ∧ i = .int .i64 ((n : Int) + (k : Int)) ∧ RowIs wr w.heap.size (bs.map bval ++ (List.replicate k (Value.int .u8 229) ++ List.replicate (3 - k) (Value.int .u8 0))) ∧ Below w.heap.size w wr)
    (fun i _ => n + 3 - (intOf i).toNat)
  case atStart => exact ⟨0, by omega, by simp, hrow, hB2⟩
  case round =>
    clear hrow hB2
    obtain ⟨k, hk, rfl, hrow, hb⟩ := hrel
    by_cases hlt : k < 3
    · have hc : wr.cell? ⟨w.heap.size, n + k, none⟩ = some (.int .u8 0) := hrow.cell (by
        rw [List.getElem?_append_right (by simp [HL.out])]
        have hs : k = 0 ∨ k = 1 ∨ k = 2 := by omega
        rcases hs with rfl | rfl | rfl <;> simp [HL.out, List.replicate])
      have hf := hrow.frozen (n + k)
      have hst := twin_step k hlt bs
      have hr2 := hrow.set (n + k) (.int .u8 229)
      rw [HL.out] at hst
      rw [hst] at hr2
      clear hst hrow
      go_wp2
      go_roundw
      case rel => exact ⟨k + 1, by omega, by go_num, hr2, hb.setCell (Nat.le_refl _) _⟩
      case measure => simp [intOf]; omega
    · obtain rfl : k = 3 := by omega
      go_wp2
      go_ret
      exact ⟨rfl, hrow, hb⟩

set_option maxRecDepth 100000 in
set_option maxHeartbeats 400000 in
theorem kept_any (g n : Nat) (bo : Option Addr) (cap : Nat) (bs : List UInt8) (w : World) (hrow : RowIs w g (twinRow bs)) (h : Rd w bo n cap bs) (hn : n ≤ 1099511627776) :
    Calls Tryd.prog 24 #[.slice (some ⟨g, 0, none⟩) n (n + 3), .slice bo n cap] w fun e w' => e = .returned (.bool true) ∧ w = w' := by
  have HL : Hid (bs.length = n) := h.len
  have ho : Own 5 0 w g n (n + 3) bs := hrow.own 0 (Nat.zero_le _) (by simp [twinRow, HL.out]) h.len (by omega) (by unfold maxLen; omega) (by simp [twinRow, HL.out])
  have s1 := str_of ho.rd
  have s2 := str_of h
  have hmax := h.max
  unfold maxLen at hmax
  have hle := h.le
  clear ho
  go_enter Tryd.func24, Tryd.ntmps24
  go_wp2_with fail
  go_loop [6] (fun i => ∃ k : Nat, k ≤ 3 ∧ i = .int .i64 ((n : Int) + (k : Int))) (fun i => n + 3 - (intOf i).toNat)
  case atStart => exact ⟨0, by omega, by simp⟩
  case round =>
    obtain ⟨k, hk, rfl⟩ := hrel
    by_cases hlt : k < 3
    · have hc : w.cell? ⟨g, n + k, none⟩ = some (.int .u8 229) := hrow.cell (by
        unfold twinRow
        rw [List.getElem?_append_right (by simp [HL.out])]
        have hs : k = 0 ∨ k = 1 ∨ k = 2 := by omega
        rcases hs with rfl | rfl | rfl <;> simp [HL.out])
      go_wp2
      go_round
      case rel => exact ⟨k + 1, by omega, by go_num⟩
      case measure => simp [intOf]; omega
    · obtain rfl : k = 3 := by omega
      go_wp2
      go_ret
      exact ⟨rfl, rfl⟩



/-- A number's eight bytes, the highest first. -/
def e8 (x : Nat) : List UInt8 := (List.range 8).map fun i => (x / 2 ^ (8 * (7 - i))).toUInt8

theorem e8_length (x : Nat) : (e8 x).length = 8 := by simp [e8]

theorem e8_step (x k : Nat) (hk : k < 8) : (e8 x).take (k + 1) = (e8 x).take k ++ [(x / 2 ^ (8 * (7 - k))).toUInt8] := by
  rw [List.take_succ_eq_append_getElem (by rw [e8_length]; exact hk)]
  congr 1
  simp [e8]

/-- The number that bytes are, the highest first. -/
def n8 (bs : List UInt8) : Nat := bs.foldl (fun v b => v * 256 + b.toNat) 0

theorem n8_snoc (bs : List UInt8) (b : UInt8) : n8 (bs ++ [b]) = n8 bs * 256 + b.toNat := by simp [n8]

theorem n8_lt (bs : List UInt8) : n8 bs < 256 ^ bs.length := by
  suffices ∀ (l : List UInt8) (a m : Nat), a < 256 ^ m → l.foldl (fun v b => v * 256 + b.toNat) a < 256 ^ (m + l.length) by
    have := this bs 0 0 (by decide)
    simpa [n8] using this
  intro l
  induction l with
  | nil => intro a m h; simpa using h
  | cons b l ih =>
    intro a m h
    have hb : b.toNat < 256 := b.toNat_lt
    have := ih (a * 256 + b.toNat) (m + 1) (by rw [Nat.pow_succ]; omega)
    simp only [List.foldl_cons, List.length_cons]
    rw [show m + (l.length + 1) = m + 1 + l.length by omega]
    exact this

theorem or_low (a c : Nat) (ha : a < 2 ^ 56) (hc : c < 256) : bits .or .u64 (IntKind.u64.wrap ((a : Int) * 256)) (c : Int) = ((a * 256 + c : Nat) : Int) := by
  have h1 : IntKind.u64.wrap ((a : Int) * 256) = (a : Int) * 256 := wraps_u64 _ (by omega) (by omega)
  rw [h1, bits_join .u64 64 (by decide) wraps_u64 8 ((a : Int) * 256) (c : Int) (by omega) (by omega) (by omega) (by omega) (by omega) (by omega)]
  omega

/-- What TakeEight tells. -/
def te (bs : List UInt8) : Nat × Nat := if bs.length < 8 then (0, 2) else (n8 (bs.take 8), 0)



theorem own_empty (B : Nat) (w : World) (hB : B ≤ w.heap.size) : Own 5 B (w.alloc (.cells #[] 5)) w.heap.size 0 0 [] :=
  ⟨rfl, Nat.le_refl _, Nat.zero_le _, hB, _, heap_alloc_new w _, rfl, rfl⟩

/-- The eight places of the answer, when k of them are laid, from the last on. -/
def rowk (x k : Nat) : List Value := (List.range 8).map fun j => if 8 - k ≤ j then bval ((x / 2 ^ (8 * (7 - j))).toUInt8) else .int .u8 0

theorem rowk_length (x k : Nat) : (rowk x k).length = 8 := by simp [rowk]
theorem rowk_zero (x : Nat) : rowk x 0 = (zrow 8).toList := by
  rw [zrow_list]
  simp [rowk, List.range, List.range.loop, List.replicate]
theorem rowk_all (x : Nat) : rowk x 8 = (e8 x).map bval := by
  simp [rowk, e8, List.range, List.range.loop]
theorem rowk_step (x k : Nat) (hk : k < 8) : (rowk x k).set (7 - k) (bval ((x / 2 ^ (8 * k)).toUInt8)) = rowk x (k + 1) := by
  have hs : k = 0 ∨ k = 1 ∨ k = 2 ∨ k = 3 ∨ k = 4 ∨ k = 5 ∨ k = 6 ∨ k = 7 := by omega
  rcases hs with rfl | rfl | rfl | rfl | rfl | rfl | rfl | rfl <;> simp [rowk, List.range, List.range.loop]

set_option maxRecDepth 100000 in
set_option maxHeartbeats 400000 in
theorem reight_any (ao : Option Addr) (n cap : Nat) (bs : List UInt8) (x : Nat) (w : World) (h : Rd w ao n cap bs) (hn : n ≤ 1099511627776) (hx : x < 18446744073709551616) :
    Calls Tryd.prog 18 #[.slice ao n cap, .int .u64 (x : Int)] w fun e w' => ∃ g cap', e = .returned (.slice (some ⟨g, 0, none⟩) (n + 8) cap') ∧ Own 5 w.heap.size w' g (n + 8) cap' (bs ++ e8 x) ∧ Below w.heap.size w w' := by
  obtain ⟨i5, hi, hz0, hz1, hz2⟩ := info_parts Tryd.info5
  have hmk : ∀ w : World, (Instr.makeSlice 23 (.int .i64 8) (.int .i64 8)).run Tryd.prog w = .ok (.slice (some ⟨w.heap.size, 0, none⟩) 8 8) (w.alloc (.cells (zrow 8) 5)) := fun w => by
    rw [run_make_bytes (P := Tryd.prog) w 23 5 i5 Tryd.underlying23 hi hz0 hz1 hz2 .i64 .i64 8 8 (by omega) (by omega) (by omega)]
    rfl
  have hr0 : RowIs (w.alloc (.cells (zrow 8) 5)) w.heap.size (rowk x 0) := by
    rw [rowk_zero]
    unfold RowIs
    simpa using heap_alloc_new w (.cells (zrow 8) 5)
  have b0 : Below w.heap.size w (w.alloc (.cells (zrow 8) 5)) := (Below.refl _ _).alloc (Nat.le_refl _) _
  go_enter Tryd.func18, Tryd.ntmps18
  go_wp2_with fail
  go_loopw [1, 6] (fun v i wr => ∃ k y : Nat, k ≤ 8 ∧ i = .int .i64 (7 - (k : Int)) ∧ v = .int .u64 (y : Int) ∧ Hid (y = x / 2 ^ (8 * k)) ∧ y ≤ x ∧ RowIs wr w.heap.size (rowk x k) ∧ Below w.heap.size w wr)
    (fun _ i _ => (intOf i + 1).toNat)
  case atStart => exact ⟨0, x, by omega, rfl, rfl, by unfold Hid; simp, Nat.le_refl _, hr0, b0⟩
  case round =>
    clear hr0 b0 hmk
    obtain ⟨k, y, hk, rfl, rfl, HY, hyx, hrow, hb⟩ := hrel
    have hsz := hb.size
    by_cases hlt : k < 8
    · have hc : ∃ v0, wr.cell? ⟨w.heap.size, 7 - k, none⟩ = some v0 := ⟨_, hrow.cell (List.getElem?_eq_getElem (by rw [rowk_length]; omega))⟩
      obtain ⟨v0, hc⟩ := hc
      have hf := hrow.frozen (7 - k)
      have hst := rowk_step x k hlt
      have hr2 := hrow.set (7 - k) (.int .u8 ((y : Int) % 256))
      have e1 : bval ((x / 2 ^ (8 * k)).toUInt8) = .int .u8 ((y : Int) % 256) := by
        rw [← HY.out]
        simp [bval]
      rw [e1] at hst
      rw [hst] at hr2
      have HY2 : Hid (y / 256 = x / 2 ^ (8 * (k + 1))) := by
        unfold Hid
        rw [HY.out, Nat.div_div_eq_div_mul, Nat.mul_add, Nat.pow_add]
      clear hst e1 hrow
      go_wp2
      go_roundw
      case rel => exact ⟨k + 1, y / 256, by omega, by go_num, by go_num, HY2, by omega, hr2, hb.setCell (Nat.le_refl _) _⟩
      case measure => simp [intOf]; omega
    · obtain rfl : k = 8 := by omega
      rw [rowk_all] at hrow
      have ox : Own 5 w.heap.size wr w.heap.size 8 8 (e8 x) := hrow.own w.heap.size (Nat.le_refl _) (by simp [e8_length]) (e8_length x) (Nat.le_refl _) (by decide) (by rw [List.take_of_length_le (by simp [e8_length])])
      have o0 := own_empty w.heap.size wr hsz
      have h1 := (h.below hb (Nat.le_refl _)).alloc (.cells #[] 5)
      have ox1 := ox.alloc (.cells #[] 5)
      have l1 := ox.lt
      clear ox hrow
      have b0 := hb.alloc hsz (.cells #[] 5)
      go_wp2_with (first
        | (at_builtin; refine wpList_append_bytes (P := Tryd.prog) _ (by rfl) (.tmp 20) (.tmp 21) 23 23 (by rfl) 5 i5 Tryd.underlying23 hi hz0 hz1 hz2 w.heap.size (by simp; omega) (by rfl) o0.app bs (by rfl) (h1.src _ Tryd.underlying23) (.inr ⟨_, rfl, o0⟩) (by omega) ?_; intro g1 cap1 w1 ho1 hb1 hg1 hw1; simp only [Nat.zero_add, List.nil_append] at ho1; have ox2 := ox1.carry (hg1.block w.heap.size (by simp; omega) (by simp [Value.ownBlock]; omega)); have z1 := hb1.size; simp at z1)
        | (at_builtin; refine wpList_append_bytes (P := Tryd.prog) _ (by rfl) (.tmp 22) (.tmp 23) 23 23 (by rfl) 5 i5 Tryd.underlying23 hi hz0 hz1 hz2 w.heap.size (by omega) (by rfl) ho1.app (e8 x) (by rfl) (ox2.rd.src _ Tryd.underlying23) (.inr ⟨_, rfl, ho1⟩) (by omega) ?_; intro g2 cap2 w2 ho2 hb2 hg2 hw2))
      go_ret
      exact ⟨g2, cap2, rfl, ho2, (b0.trans hb1).trans hb2⟩



set_option maxRecDepth 100000 in
set_option maxHeartbeats 400000 in
theorem rtakeEight_any (ao : Option Addr) (n cap : Nat) (bs : List UInt8) (w : World) (h : Rd w ao n cap bs) :
    Calls Tryd.prog 23 #[.slice ao n cap] w fun e w' => e = .returned (.tuple #[.int .u64 ((te bs).1 : Int), .int .i64 ((te bs).2 : Int)]) ∧ w = w' := by
  have hmax := h.max
  have hle := h.le
  have hlen := h.len
  unfold maxLen at hmax
  have HL : Hid (bs.length = n) := hlen
  clear hlen
  by_cases h8 : n < 8
  · have HT : Hid (te bs = (0, 2)) := by unfold Hid te; rw [if_pos (by rw [HL.out]; exact h8)]
    go_enter Tryd.func23, Tryd.ntmps23
    go_wp2
    go_ret2
    exact ⟨by rw [HT.out]; rfl, rfl⟩
  · have HT : Hid (te bs = (n8 (bs.take 8), 0)) := by unfold Hid te; rw [if_neg (by rw [HL.out]; exact h8)]
    obtain ⟨b, off, rfl, hkl, hc0⟩ := h.at (show 0 < n by omega)
    clear hc0 hkl
    go_enter Tryd.func23, Tryd.ntmps23
    go_wp2_with fail
    go_loop [4, 5] (fun v i => ∃ (k : Nat), k ≤ 8 ∧ i = .int .i64 (k : Int) ∧ v = .int .u64 (n8 (bs.take k) : Int))
      (fun _ i => 8 - (intOf i).toNat)
    case atStart => exact ⟨0, by omega, rfl, rfl⟩
    case round =>
      obtain ⟨k, hk, rfl, rfl⟩ := hrel
      by_cases hlt : k < 8
      · obtain ⟨b', off', hbo, hkl, hc⟩ := h.at (show k < n by omega)
        obtain ⟨rfl, rfl⟩ : b = b' ∧ off = off' := by simpa using hbo
        have hst : n8 (bs.take (k + 1)) = n8 (bs.take k) * 256 + bs[k].toNat := by rw [List.take_succ_eq_append_getElem hkl, n8_snoc]
        have hac := n8_lt (bs.take k)
        have hkk : (bs.take k).length = k := by simp; omega
        rw [hkk] at hac
        have hp : 256 ^ k ≤ 256 ^ 7 := Nat.pow_le_pow_right (by decide) (by omega)
        have hc256 : bs[k].toNat < 256 := bs[k].toNat_lt
        generalize bs[k].toNat = c at hc hst hc256
        generalize n8 (bs.take k) = acc at hac hst
        have hac2 : acc < 72057594037927936 := by omega
        have HS : Hid _ := hst
        clear hst hac hkk hp hkl hbo
        go_wp2
        go_round
        case rel => exact ⟨k + 1, by omega, by go_num, by rw [HS.out]; go_num⟩
        case measure => simp [intOf]; omega
      · obtain rfl : k = 8 := by omega
        go_wp2
        go_ret2
        exact ⟨by rw [HT.out]; rfl, rfl⟩

end Go.Proofs.YtpibpjbeedcefaaDoor
