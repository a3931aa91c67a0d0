/- How deep a level is; the walks of the document's Parts and Deep. No condition but that what was given is a level in memory. -/
import Derived.Test.YtemgmphddmlmlaaNums
namespace Go.Proofs.Ytemgmphddmlmlaa
open Go.RowKit

mutual

/-- How deep it is. -/
def Lv.deep : Lv → Nat
  | .mk _ _ args => Lv.deeps args + 1

def Lv.deeps : List Lv → Nat
  | [] => 0
  | L :: r => max L.deep (Lv.deeps r)

end

theorem Lv.deep_mk (k n : Int) (args : List Lv) : (Lv.mk k n args).deep = Lv.deeps args + 1 := by simp only [Lv.deep]

theorem Lv.deep_pos (L : Lv) : 1 ≤ L.deep := by cases L; rw [Lv.deep_mk]; omega

theorem Lv.deeps_append (a b : List Lv) : Lv.deeps (a ++ b) = max (Lv.deeps a) (Lv.deeps b) := by
  induction a with
  | nil => simp only [List.nil_append, Lv.deeps]; omega
  | cons x r ih => simp only [List.cons_append, Lv.deeps, ih]; omega

theorem Lv.deeps_take {args : List Lv} {i : Nat} {L : Lv} (h : args[i]? = some L) : Lv.deeps (args.take (i + 1)) = max (Lv.deeps (args.take i)) L.deep := by
  have hi := (List.getElem?_eq_some_iff.1 h).1
  have e : args.take (i + 1) = args.take i ++ [L] := by
    rw [List.take_succ_eq_append_getElem hi, (List.getElem?_eq_some_iff.1 h).2]
  rw [e, Lv.deeps_append]; simp only [Lv.deeps]; omega

theorem Lv.deep_mem {args : List Lv} {L : Lv} (h : L ∈ args) : L.deep ≤ Lv.deeps args := by
  induction args with
  | nil => cases h
  | cons x r ih =>
    simp only [Lv.deeps]
    rcases List.mem_cons.1 h with rfl | h
    · omega
    · have := ih h; omega

set_option maxRecDepth 100000 in
set_option maxHeartbeats 400000 in
theorem parts_node (k n : Int) (args : List Lv) (ih : ∀ L ∈ args, ∀ (most : Nat) (w : World) (B : Nat) (v : Value), most ≤ 1000 → B ≤ w.heap.size → In w (· < B) L v →
      Calls Try.prog 19 #[v, .int .i64 (most : Int)] w fun e w' => e = .returned (.int .i64 ((min L.size (most + 1) : Nat) : Int)) ∧ Below w.heap.size w w')
    (most : Nat) (w : World) (B : Nat) (a : Option Addr) (cap : Nat) (hm : most ≤ 1000) (hB : B ≤ w.heap.size) (hN : Node w (· < B) k n args a cap) :
    Calls Try.prog 19 #[.agg #[.int .i64 k, .int .i64 n, .slice a args.length cap], .int .i64 (most : Int)] w fun e w' => e = .returned (.int .i64 ((min (Lv.sizes args + 1) (most + 1) : Nat) : Int)) ∧ Below w.heap.size w w' := by
  have hle := hN.le
  have hmx := hN.max
  go_enter Try.func19, Try.ntmps19
  go_wp2
  go_loopw [5, 6] (fun x i wr => ∃ (c j : Nat), x = .int .i64 (c : Int) ∧ i = .int .i64 (j : Int) ∧ j ≤ args.length ∧ c = min (Lv.sizes (args.take j) + 1) (most + 1) ∧ Blk wr w.heap.size 55 [.int .i64 k, .int .i64 n, .slice a args.length cap] ∧ Below w.heap.size w wr) (fun _ i _ => args.length - (intOf i).toNat)
  case atStart => exact ⟨1, 0, rfl, rfl, by omega, by simp [Lv.sizes], Blk.new _ _ _, (Below.refl _ _).alloc (Nat.le_refl _) _⟩
  case round =>
    obtain ⟨c, j, rfl, rfl, hj, hc, hb, hbel⟩ := hrel
    have c2 := hb.cell (j := 2) rfl
    have HC : Hid (c = min (Lv.sizes (args.take j) + 1) (most + 1)) := hc
    have hc1 : c ≤ most + 1 := by omega
    have hc0 : 1 ≤ c := by omega
    clear hc
    by_cases hlt : j < args.length
    · by_cases hcm : c ≤ most
      · obtain ⟨L, hL⟩ : ∃ L, args[j]? = some L := ⟨_, List.getElem?_eq_getElem hlt⟩
        obtain ⟨b, off, k', n', args', a', cap', rfl, hS, rfl, e0, e1, e2, hN'⟩ := (hN.below hbel hB).get hL
        have HL : Hid (args[j]? = some (.mk k' n' args')) := hL
        clear hL
        have hsz : w.heap.size ≤ wr.heap.size := hbel.size
        go_wp2_with (go_at_call 19; rw [show ((most : Int) - (c : Int)) = ((most - c : Nat) : Int) by omega]; refine (ih _ (List.mem_of_getElem? HL.out) (most - c) wr B _ (by omega) (by omega) hN'.is).mono ?_; rintro e w' ⟨rfl, hb2⟩)
        go_roundw
        case rel =>
          have h1 := Lv.sizes_take HL.out
          have h2 := HC.out
          exact ⟨c + min (Lv.mk k' n' args').size (most - c + 1), j + 1, by go_num, by go_num, by omega, by omega, hb.below hb2 (hb.lt), hbel.trans (hb2.mono hsz)⟩
        case measure => simp [intOf]; omega
      · clear hN
        go_wp2_with fail
        go_ret
        have h3 := Lv.sizes_take_le args j
        have h2 := HC.out
        exact ⟨ret_int (by omega), hbel⟩
    · clear hN
      go_wp2_with fail
      go_ret
      have h2 := HC.out
      rw [List.take_of_length_le (by omega)] at h2
      exact ⟨ret_int (by omega), hbel⟩

theorem parts_any (L : Lv) : ∀ (most : Nat) (w : World) (B : Nat) (v : Value), most ≤ 1000 → B ≤ w.heap.size → In w (· < B) L v →
    Calls Try.prog 19 #[v, .int .i64 (most : Int)] w fun e w' => e = .returned (.int .i64 ((min L.size (most + 1) : Nat) : Int)) ∧ Below w.heap.size w w' := by
  refine Lv.ind (P := fun L => ∀ (most : Nat) (w : World) (B : Nat) (v : Value), most ≤ 1000 → B ≤ w.heap.size → In w (· < B) L v →
    Calls Try.prog 19 #[v, .int .i64 (most : Int)] w fun e w' => e = .returned (.int .i64 ((min L.size (most + 1) : Nat) : Int)) ∧ Below w.heap.size w w') ?_ L
  intro k n args ih most w B v hm hB hin
  obtain ⟨a, cap, rfl, hN⟩ := hin.node
  rw [Lv.size_mk]
  exact parts_node k n args ih most w B a cap hm hB hN

set_option maxRecDepth 100000 in
set_option maxHeartbeats 400000 in
theorem deep_node (k n : Int) (args : List Lv) (ih : ∀ L ∈ args, ∀ (most : Nat) (w : World) (B : Nat) (v : Value), most ≤ 1000 → B ≤ w.heap.size → In w (· < B) L v →
      Calls Try.prog 20 #[v, .int .i64 (most : Int)] w fun e w' => e = .returned (.int .i64 ((min L.deep (most + 1) : Nat) : Int)) ∧ Below w.heap.size w w')
    (most : Nat) (w : World) (B : Nat) (a : Option Addr) (cap : Nat) (hm : most ≤ 1000) (hB : B ≤ w.heap.size) (hN : Node w (· < B) k n args a cap) :
    Calls Try.prog 20 #[.agg #[.int .i64 k, .int .i64 n, .slice a args.length cap], .int .i64 (most : Int)] w fun e w' => e = .returned (.int .i64 ((min (Lv.deeps args + 1) (most + 1) : Nat) : Int)) ∧ Below w.heap.size w w' := by
  have hle := hN.le
  have hmx := hN.max
  by_cases h0 : most = 0
  · subst h0
    go_enter Try.func20, Try.ntmps20
    go_wp2
    go_ret
    exact ⟨ret_int (by omega), below_alloc _ _⟩
  have hd0 : decide ((most : Int) ≤ 0) = false := by simp; omega
  go_enter Try.func20, Try.ntmps20
  go_wp2
  go_loopw [5, 6] (fun x i wr => ∃ (c j : Nat), x = .int .i64 (c : Int) ∧ i = .int .i64 (j : Int) ∧ j ≤ args.length ∧ c = min (Lv.deeps (args.take j)) most ∧ Blk wr w.heap.size 55 [.int .i64 k, .int .i64 n, .slice a args.length cap] ∧ Below w.heap.size w wr) (fun _ i _ => args.length - (intOf i).toNat)
  case atStart => exact ⟨0, 0, rfl, rfl, by omega, by simp [Lv.deeps], Blk.new _ _ _, (Below.refl _ _).alloc (Nat.le_refl _) _⟩
  case round =>
    obtain ⟨c, j, rfl, rfl, hj, hc, hb, hbel⟩ := hrel
    have c2 := hb.cell (j := 2) rfl
    have HC : Hid (c = min (Lv.deeps (args.take j)) most) := hc
    have hc1 : c ≤ most := by omega
    clear hc
    by_cases hlt : j < args.length
    · obtain ⟨L, hL⟩ : ∃ L, args[j]? = some L := ⟨_, List.getElem?_eq_getElem hlt⟩
      obtain ⟨b, off, k', n', args', a', cap', rfl, hS, rfl, e0, e1, e2, hN'⟩ := (hN.below hbel hB).get hL
      have HL : Hid (args[j]? = some (.mk k' n' args')) := hL
      clear hL
      have hsz : w.heap.size ≤ wr.heap.size := hbel.size
      have hcall := ih _ (List.mem_of_getElem? HL.out) (most - 1) wr B _ (by omega) (by omega) hN'.is
      rw [show (((most - 1 : Nat)) : Int) = (most : Int) - 1 by omega] at hcall
      obtain ⟨r, hr⟩ : ∃ r : Nat, min (Lv.mk k' n' args').deep (most - 1 + 1) = r := ⟨_, rfl⟩
      rw [hr] at hcall
      have HR : Hid _ := hr
      clear hr
      go_wp2_with (go_at_call 20; refine hcall.mono ?_; rintro e w' ⟨rfl, hb2⟩)
      have h1 := Lv.deeps_take HL.out
      have h2 := HC.out
      have h3 := HR.out
      exact ⟨⟨max c r, j + 1, by congr 1; split <;> omega, by go_num, by omega, by omega, hb.below hb2 hb.lt, hbel.trans (hb2.mono hsz)⟩, by simp [intOf]; omega⟩
    · clear hN
      go_wp2_with fail
      go_ret
      have h2 := HC.out
      rw [List.take_of_length_le (by omega)] at h2
      exact ⟨ret_int (by omega), hbel⟩

theorem deep_any (L : Lv) : ∀ (most : Nat) (w : World) (B : Nat) (v : Value), most ≤ 1000 → B ≤ w.heap.size → In w (· < B) L v →
    Calls Try.prog 20 #[v, .int .i64 (most : Int)] w fun e w' => e = .returned (.int .i64 ((min L.deep (most + 1) : Nat) : Int)) ∧ Below w.heap.size w w' := by
  refine Lv.ind (P := fun L => ∀ (most : Nat) (w : World) (B : Nat) (v : Value), most ≤ 1000 → B ≤ w.heap.size → In w (· < B) L v →
    Calls Try.prog 20 #[v, .int .i64 (most : Int)] w fun e w' => e = .returned (.int .i64 ((min L.deep (most + 1) : Nat) : Int)) ∧ Below w.heap.size w w') ?_ L
  intro k n args ih most w B v hm hB hin
  obtain ⟨a, cap, rfl, hN⟩ := hin.node
  rw [Lv.deep_mk]
  exact deep_node k n args ih most w B a cap hm hB hN

end Go.Proofs.Ytemgmphddmlmlaa
