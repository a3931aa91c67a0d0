/- The walks of level's valuesOf, Eval, Never. No condition but that what was given is a level that may be, and numbers, in memory. -/
import Derived.Test.YtogfmpjgmabomaaDoorOf2
namespace Go.Proofs.YtogfmpjgmabomaaDoor
open Go.RowKit

/-- The slice value is the numbers zs; they lie in blocks below B. -/
structure Ints (w : World) (B : Nat) (ao : Option Addr) (n cap : Nat) (zs : List Int) : Prop where
  len : zs.length = n
  le : n ≤ cap
  max : cap ≤ 9223372036854775807
  get : ∀ j z, zs[j]? = some z → ∃ b off, ao = some ⟨b, off, none⟩ ∧ b < B ∧ w.cell? ⟨b, off + j, none⟩ = some (.int .i64 z)

theorem Ints.below {w w' : World} {B C : Nat} {ao : Option Addr} {n cap : Nat} {zs : List Int} (h : Ints w B ao n cap zs) (hb : Below C w w') (hB : B ≤ C) : Ints w' B ao n cap zs :=
  ⟨h.len, h.le, h.max, fun j z hz => by
    obtain ⟨b, off, h1, h2, h3⟩ := h.get j z hz
    exact ⟨b, off, h1, h2, (hb.cell (p := ⟨b, off + j, none⟩) (Nat.lt_of_lt_of_le h2 hB)).trans h3⟩⟩
theorem Ints.none (w : World) (B : Nat) : Ints w B none 0 0 [] := ⟨rfl, Nat.le_refl _, by decide, fun j z hz => by simp at hz⟩

/-- What a parameter is, as at says. -/
def vv (zs : List Int) (i : Nat) : Nat := (min (max (zs.getD i 0) 0) 1099511627776).toNat
theorem vv_le (zs : List Int) (i : Nat) : vv zs i ≤ 1099511627776 := by unfold vv; omega
theorem vv_past (zs : List Int) {i : Nat} (h : zs.length ≤ i) : vv zs i = 0 := by
  unfold vv; rw [List.getD_eq_getElem?_getD, List.getElem?_eq_none h]; rfl

def vf (zs : List Int) (j i : Nat) : Nat := if i < j then vv zs i else 0
def vrow (zs : List Int) (j : Nat) : List Value := [.int .i64 ((vf zs j 0 : Nat) : Int), .int .i64 ((vf zs j 1 : Nat) : Int), .int .i64 ((vf zs j 2 : Nat) : Int), .int .i64 ((vf zs j 3 : Nat) : Int)]
theorem vrow_set (zs : List Int) {j : Nat} (hj : j < 4) {z : Int} (h : z = ((vv zs j : Nat) : Int)) : (vrow zs j).set j (.int .i64 z) = vrow zs (j + 1) := by
  subst h
  match j, hj with
  | 0, _ => simp [vrow, vf]
  | 1, _ => simp [vrow, vf]
  | 2, _ => simp [vrow, vf]
  | 3, _ => simp [vrow, vf]
theorem vrow_all (zs : List Int) {j : Nat} (h : zs.length ≤ j ∨ 4 ≤ j) : vrow zs j = [.int .i64 ((vv zs 0 : Nat) : Int), .int .i64 ((vv zs 1 : Nat) : Int), .int .i64 ((vv zs 2 : Nat) : Int), .int .i64 ((vv zs 3 : Nat) : Int)] := by
  have e : ∀ i, i < 4 → vf zs j i = vv zs i := by
    intro i hi
    unfold vf
    by_cases h1 : i < j
    · rw [if_pos h1]
    · rw [if_neg h1]
      rcases h with h | h
      · rw [vv_past zs (by omega)]
      · omega
  unfold vrow
  rw [e 0 (by omega), e 1 (by omega), e 2 (by omega), e 3 (by omega)]

set_option maxRecDepth 100000 in
set_option maxHeartbeats 400000 in
theorem valuesOf_any (ao : Option Addr) (n cap : Nat) (zs : List Int) (w : World) (B : Nat) (hB : B ≤ w.heap.size) (hI : Ints w B ao n cap zs) :
    Calls Tryd.prog 37 #[.slice ao n cap] w fun e w' => e = .returned (.agg #[.int .i64 ((vv zs 0 : Nat) : Int), .int .i64 ((vv zs 1 : Nat) : Int), .int .i64 ((vv zs 2 : Nat) : Int), .int .i64 ((vv zs 3 : Nat) : Int)]) ∧ Below w.heap.size w w' := by
  have hle := hI.le
  have hmx := hI.max
  have hlen := hI.len
  subst hlen
  obtain ⟨m, hm, hcase⟩ : ∃ m : Nat, Hid (m = min zs.length 4) ∧ ((zs.length ≤ 4 ∧ m = zs.length) ∨ (4 < zs.length ∧ m = 4)) := ⟨_, rfl, by omega⟩
  rcases hcase with ⟨hc, rfl⟩ | ⟨hc, rfl⟩
  all_goals
    go_enter Tryd.func37, Tryd.ntmps37
    go_wp2_with fail
    go_loopw [7] (fun i wr => ∃ (j : Nat), i = .int .i64 (j : Int) ∧ j ≤ zs.length ∧ j ≤ 4 ∧ Blk wr w.heap.size 53 (vrow zs j) ∧ Below w.heap.size w wr) (fun i _ => 4 - (intOf i).toNat)
    case atStart => exact ⟨0, rfl, by omega, by omega, Blk.new _ _ _, (Below.refl _ _).alloc (Nat.le_refl _) _⟩
    case round =>
      obtain ⟨j, rfl, hj, hj4, hb, hbel⟩ := hrel
      by_cases hlt : j < min zs.length 4
      · have hlt' : j < zs.length := by omega
        have hlt4 : j < 4 := by omega
        obtain ⟨z, hz⟩ : ∃ z, zs[j]? = some z := ⟨_, List.getElem?_eq_getElem hlt'⟩
        obtain ⟨b, off, rfl, hbB, hcell⟩ := (hI.below hbel hB).get j z hz
        have HZ : Hid (zs[j]? = some z) := hz
        have HV : Hid (((vv zs j : Nat) : Int) = min (max z 0) 1099511627776) := by
          show _ = _
          unfold vv
          rw [List.getD_eq_getElem?_getD, hz]
          simp only [Option.getD_some]
          omega
        clear hz hlt
        have f0 := hb.frozen j
        obtain ⟨y, hy⟩ : ∃ y, (vrow zs j)[j]? = some y := ⟨_, List.getElem?_eq_getElem (by simp [vrow]; omega)⟩
        have c0 := hb.cell hy
        clear hy
        have hcs : (z < 0 ∧ ((vv zs j : Nat) : Int) = 0) ∨ (0 ≤ z ∧ z ≤ 1099511627776 ∧ ((vv zs j : Nat) : Int) = z) ∨ (1099511627776 < z ∧ 0 ≤ z ∧ ((vv zs j : Nat) : Int) = 1099511627776) := by have := HV.out; omega
        clear HV
        rcases hcs with ⟨z1, hv⟩ | ⟨z1, z2, hv⟩ | ⟨z1, z2, hv⟩
        all_goals
          have HV : Hid (_ = _) := hv
          clear hv
          go_wp2_with fail
          go_roundw
          case rel => exact ⟨j + 1, by go_num, by omega, by omega, by rw [← vrow_set zs hlt4 HV.out.symm]; exact hb.set j _, hbel.setCell (Nat.le_refl _) _⟩
          case measure => simp [intOf]; omega
      · have hj' : zs.length ≤ j ∨ 4 ≤ j := by omega
        have HR := vrow_all zs hj'
        rw [HR] at hb
        clear HR hj'
        first | have hge : zs.length ≤ j := by omega | have hge : 4 ≤ j := by omega
        clear hlt
        have c0 := hb.cell (j := 0) rfl
        have c1 := hb.cell (j := 1) rfl
        have c2 := hb.cell (j := 2) rfl
        have c3 := hb.cell (j := 3) rfl
        have f0 := hb.frozen 0
        have f1 := hb.frozen 1
        have f2 := hb.frozen 2
        have f3 := hb.frozen 3
        go_wp2_with fail
        exact bodyPost_ret (v := .agg #[.int .i64 ((vv zs 0 : Nat) : Int), .int .i64 ((vv zs 1 : Nat) : Int), .int .i64 ((vv zs 2 : Nat) : Int), .int .i64 ((vv zs 3 : Nat) : Int)]) (by simp [results, Tryd.results37, go_sem, c0, c1, c2, c3]) rfl ⟨rfl, (((hbel.setCell (Nat.le_refl _) _).setCell (Nat.le_refl _) _).setCell (Nat.le_refl _) _).setCell (Nat.le_refl _) _⟩
end Go.Proofs.YtogfmpjgmabomaaDoor
