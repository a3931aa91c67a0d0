/- The walks of level's work.equal, Equal. No condition but that what was given are levels in memory, the first of at most 65,536 parts. -/
import Derived.Test.YtogfmpjgmabomaaDoorTake
namespace Go.Proofs.YtogfmpjgmabomaaDoor
open Go.RowKit

mutual
/-- Are all fields alike? -/
def Lv.eqB : Lv → Lv → Bool
  | .mk k n args, .mk k' n' args' => (k == k') && (n == n') && Lv.eqs args args'
def Lv.eqs : List Lv → List Lv → Bool
  | [], [] => true
  | x :: r, y :: s => x.eqB y && Lv.eqs r s
  | [], _ :: _ => false
  | _ :: _, [] => false
end
theorem Lv.eqB_mk (k n k' n' : Int) (args args' : List Lv) : (Lv.mk k n args).eqB (.mk k' n' args') = ((k == k') && (n == n') && Lv.eqs args args') := by rw [Lv.eqB]
theorem Lv.eqs_len {a b : List Lv} (h : a.length ≠ b.length) : Lv.eqs a b = false := by
  induction a generalizing b with
  | nil => cases b with
    | nil => simp at h
    | cons y s => rw [Lv.eqs]
  | cons x r ih => cases b with
    | nil => rw [Lv.eqs]
    | cons y s => rw [Lv.eqs, ih (by simpa using h), Bool.and_false]
theorem Lv.eqs_bad {a b : List Lv} {i : Nat} {x y : Lv} (hx : a[i]? = some x) (hy : b[i]? = some y) (h : x.eqB y = false) : Lv.eqs a b = false := by
  induction a generalizing b i with
  | nil => simp at hx
  | cons u r ih => cases b with
    | nil => rw [Lv.eqs]
    | cons v s =>
      rw [Lv.eqs]
      cases i with
      | zero => simp at hx hy; subst hx hy; rw [h, Bool.false_and]
      | succ i => rw [ih (by simpa using hx) (by simpa using hy), Bool.and_false]
theorem Lv.eqs_succ {a b : List Lv} {i : Nat} {x y : Lv} (hx : a[i]? = some x) (hy : b[i]? = some y) (h : x.eqB y = true) (ht : Lv.eqs (a.take i) (b.take i) = true) : Lv.eqs (a.take (i + 1)) (b.take (i + 1)) = true := by
  induction a generalizing b i with
  | nil => simp at hx
  | cons u r ih => cases b with
    | nil => simp at hy
    | cons v s =>
      cases i with
      | zero => simp at hx hy; subst hx hy; simp [Lv.eqs, h]
      | succ i =>
        simp only [List.take_succ_cons, Lv.eqs, Bool.and_eq_true] at ht ⊢
        exact ⟨ht.1, ih (by simpa using hx) (by simpa using hy) ht.2⟩

/-- What equal answers, and leaves. -/
def EP (w : World) (g : Nat) (l : Int) (r : Bool) (size : Int) (e : Ending) (w' : World) : Prop := e = .returned (.bool r) ∧ Keep w w' (· = g) ∧ ∃ l', Blk w' g 66 [.int .i64 l'] ∧ (r = true → l' = l - size)

/-- equal at one level. -/
def EqAt (g : Nat) (x : Lv) : Prop := ∀ (y : Lv) (l : Int) (w : World) (B : Nat) (va vb : Value), (x.size : Int) ≤ l → l ≤ 65536 → B ≤ g → In w (· < B) x va → In w (· < B) y vb → Blk w g 66 [.int .i64 l] →
    Calls Tryd.prog 44 #[.pointer (some ⟨g, 0, none⟩), va, vb] w (EP w g l (x.eqB y) x.size)

set_option maxRecDepth 100000 in
set_option maxHeartbeats 1000000 in
theorem eqf_any (g : Nat) (args args' : List Lv) (ih : ∀ x ∈ args, EqAt g x) (k n k' n' : Int) (a a' : Option Addr) (cap cap' : Nat) (l : Int) (w : World) (B : Nat)
    (hsl : (Lv.sizes args : Int) ≤ l) (hl : l ≤ 65536) (hB : B ≤ g) (hN : Node w (· < B) k n args a cap) (hN' : Node w (· < B) k' n' args' a' cap') (hg : Blk w g 66 [.int .i64 l]) :
    Calls Tryd.prog 57 #[.slice a args.length cap, .slice a' args'.length cap', .func (Fn.func 44) #[.pointer (some ⟨g, 0, none⟩)] #[]] w (EP w g l (Lv.eqs args args') (Lv.sizes args)) := by
  have hle := hN.le
  have hmx := hN.max
  have hle' := hN'.le
  have hmx' := hN'.max
  have hgl := hg.lt
  by_cases hlen : args.length = args'.length
  · have hne : ((args.length : Int) != (args'.length : Int)) = false := by simp; omega
    have HLen : Hid (args.length = args'.length) := hlen
    clear hlen
    go_enter Tryd.func57, Tryd.ntmps57
    go_wp2_with fail
    clear hne
    go_loopw [17] (fun i wr => ∃ (j : Nat) (l' : Int), i = .int .i64 (j : Int) ∧ j ≤ args.length ∧ Lv.eqs (args.take j) (args'.take j) = true ∧ l' = l - Lv.sizes (args.take j) ∧ Blk wr g 66 [.int .i64 l'] ∧ Keep w wr (· = g)) (fun i _ => args.length - (intOf i).toNat)
    case atStart => exact ⟨0, l, rfl, by omega, by simp [Lv.eqs], by simp [Lv.sizes], hg, Keep.refl _ _⟩
    case round =>
      obtain ⟨j, l', rfl, hj, hok, hle0, hR, hK⟩ := hrel
      have HE : Hid (Lv.eqs (args.take j) (args'.take j) = true ∧ l' = l - Lv.sizes (args.take j)) := ⟨hok, hle0⟩
      have hst := Lv.sizes_take_le args
      have hll : l' ≤ 65536 := by have := hst j; omega
      clear hok hle0
      have hsz : w.heap.size ≤ wr.heap.size := hK.size
      by_cases hlt : j < args.length
      · have hlt' : j < args'.length := by have := HLen.out; omega
        obtain ⟨x, hx⟩ : ∃ L, args[j]? = some L := ⟨_, List.getElem?_eq_getElem hlt⟩
        obtain ⟨y, hy⟩ : ∃ L, args'[j]? = some L := ⟨_, List.getElem?_eq_getElem hlt'⟩
        obtain ⟨b, off, k1, n1, args1, a1, cap1, rfl, hS, rfl, e0, e1, e2, M1⟩ := (hN.keep hK (by omega) (by omega)).get hx
        obtain ⟨b', off', k2, n2, args2, a2, cap2, rfl, hS', rfl, d0, d1, d2, M2⟩ := (hN'.keep hK (by omega) (by omega)).get hy
        have HX : Hid (args[j]? = some (.mk k1 n1 args1) ∧ args'[j]? = some (.mk k2 n2 args2)) := ⟨hx, hy⟩
        clear hx hy
        have hsx : ((Lv.mk k1 n1 args1).size : Int) ≤ l' := by have := hst (j + 1); have := Lv.sizes_take HX.out.1; have := HE.out.2; omega
        obtain ⟨w5, hw5, hb5, P5, Q5, hs5⟩ := two_new wr [.int .i64 k1, .int .i64 n1, .slice a1 args1.length cap1] [.int .i64 k2, .int .i64 n2, .slice a2 args2.length cap2] 24 24
        have p0 := P5.cell (j := 0) rfl
        have p1 := P5.cell (j := 1) rfl
        have p2 := P5.cell (j := 2) rfl
        have q0 := Q5.cell (j := 0) rfl
        have q1 := Q5.cell (j := 1) rfl
        have q2 := Q5.cell (j := 2) rfl
        have hrl := hR.lt
        have D0 : (wr.alloc (.cells #[.int .i64 k1, .int .i64 n1, .slice a1 args1.length cap1] 24)).cell? ⟨b', off' + j * 3, none⟩ = some (.int .i64 k2) := by
          rw [World.cell?_alloc_lt _ _ _ (World.block_lt_of_cell? wr _ d0)]; exact d0
        have D1 : (wr.alloc (.cells #[.int .i64 k1, .int .i64 n1, .slice a1 args1.length cap1] 24)).cell? ⟨b', off' + j * 3 + 1, none⟩ = some (.int .i64 n2) := by
          rw [World.cell?_alloc_lt _ _ _ (World.block_lt_of_cell? wr _ d1)]; exact d1
        have D2 : (wr.alloc (.cells #[.int .i64 k1, .int .i64 n1, .slice a1 args1.length cap1] 24)).cell? ⟨b', off' + j * 3 + 2, none⟩ = some (.slice a2 args2.length cap2) := by
          rw [World.cell?_alloc_lt _ _ _ (World.block_lt_of_cell? wr _ d2)]; exact d2
        have hK5 : ∀ w6, Keep w5 w6 (· = g) → Keep w w6 (· = g) := fun w6 h => (hK.low hb5 (by omega)).trans h (fun _ _ h => h)
        cases hr : (Lv.mk k1 n1 args1).eqB (.mk k2 n2 args2) with
        | true =>
          go_wp2_with (go_at_call 44; go_must (refine (ih _ (List.mem_of_getElem? HX.out.1) _ l' _ B _ _ (by omega) (by omega) hB (M1.below hb5 (by omega)).is (M2.below hb5 (by omega)).is (hR.below hb5 (by omega))).mono ?_); rintro e w6 ⟨rfl, hk6, l6, hR6, hl6⟩)
          go_roundw
          case rel => exact ⟨j + 1, l6, by go_num, by omega, Lv.eqs_succ HX.out.1 HX.out.2 hr HE.out.1, by have := hl6 hr; have := Lv.sizes_take HX.out.1; have := HE.out.2; omega, hR6, hK5 _ hk6⟩
          case measure => simp [intOf]; omega
        | false =>
          have HR : Hid (Lv.eqs args args' = false) := Lv.eqs_bad HX.out.1 HX.out.2 hr
          go_wp2_with (go_at_call 44; go_must (refine (ih _ (List.mem_of_getElem? HX.out.1) _ l' _ B _ _ (by omega) (by omega) hB (M1.below hb5 (by omega)).is (M2.below hb5 (by omega)).is (hR.below hb5 (by omega))).mono ?_); rintro e w6 ⟨rfl, hk6, l6, hR6, hl6⟩)
          go_ret
          exact ⟨ret_bool HR.out.symm, hK5 _ hk6, l6, hR6, fun h => by rw [HR.out] at h; cases h⟩
      · go_wp2_with fail
        go_ret
        obtain ⟨o1, o2⟩ := HE.out
        rw [List.take_of_length_le (by omega), List.take_of_length_le (by have := HLen.out; omega)] at o1
        rw [List.take_of_length_le (by omega)] at o2
        exact ⟨ret_bool o1.symm, hK, l', hR, fun _ => o2⟩
  · have HR : Hid (Lv.eqs args args' = false) := Lv.eqs_len hlen
    have hne : ((args.length : Int) != (args'.length : Int)) = true := by simp; omega
    go_enter Tryd.func57, Tryd.ntmps57
    go_wp2_with fail
    go_ret
    exact ⟨ret_bool HR.out.symm, Keep.refl _ _, l, hg, fun h => by rw [HR.out] at h; cases h⟩
end Go.Proofs.YtogfmpjgmabomaaDoor
