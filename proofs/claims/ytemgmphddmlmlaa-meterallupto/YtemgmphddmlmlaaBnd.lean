/- The walks of bounds' each, spend and lend, and of areWithin. No condition but that the levels lie in memory. -/
import Derived.Test.YtemgmphddmlmlaaRLvs
import Derived.Test.YtemgmphddmlmlaaApp
namespace Go.Proofs.Ytemgmphddmlmlaa
open Go.RowKit

/-- A level at a place. -/
structure LvAt (w : World) (B b off : Nat) (k n : Int) (args : List Lv) (a : Option Addr) (cap : Nat) : Prop where
  lt : b < B
  c0 : w.cell? ⟨b, off, none⟩ = some (.int .i64 k)
  c1 : w.cell? ⟨b, off + 1, none⟩ = some (.int .i64 n)
  c2 : w.cell? ⟨b, off + 2, none⟩ = some (.slice a args.length cap)
  node : Node w (· < B) k n args a cap

def costs (cost : Lv → Nat) : List Lv → Nat
  | [] => 0
  | L :: r => cost L + costs cost r

/-- Whether there is room for all of a list. -/
def roomB (cost : Lv → Nat) (d : Nat) : Nat → List Lv → Bool
  | _, [] => true
  | p, L :: r => decide (L.size ≤ p ∧ L.deep ≤ d) && roomB cost d (p - cost L) r

theorem costs_append (cost : Lv → Nat) (x y : List Lv) : costs cost (x ++ y) = costs cost x + costs cost y := by
  induction x with
  | nil => simp [costs]
  | cons a r ih => simp only [List.cons_append, costs, ih]; omega

theorem roomB_append (cost : Lv → Nat) (d p : Nat) (x y : List Lv) : roomB cost d p (x ++ y) = (roomB cost d p x && roomB cost d (p - costs cost x) y) := by
  induction x generalizing p with
  | nil => simp [roomB, costs]
  | cons a r ih => simp only [List.cons_append, roomB, costs, ih, Bool.and_assoc, Nat.sub_sub]

theorem take_snoc {α : Type} {l : List α} {i : Nat} {x : α} (h : l[i]? = some x) : l.take (i + 1) = l.take i ++ [x] := by
  have hi := (List.getElem?_eq_some_iff.1 h).1
  rw [List.take_succ_eq_append_getElem hi, (List.getElem?_eq_some_iff.1 h).2]

theorem split_at {α : Type} {l : List α} {i : Nat} {x : α} (h : l[i]? = some x) : l = l.take i ++ x :: l.drop (i + 1) := by
  have hi := (List.getElem?_eq_some_iff.1 h).1
  rw [← (List.getElem?_eq_some_iff.1 h).2, List.getElem_cons_drop, List.take_append_drop]

/-- What is told of room: what is left, or a no. -/
def Told (ok : Bool) (p d : Nat) (w : World) (e : Ending) (w' : World) : Prop := Below w.heap.size w w' ∧ ∃ x y : Int, e = .returned (.tuple #[.agg #[.int .i64 x, .int .i64 y], .bool ok]) ∧ (ok = true → x = (p : Int) ∧ y = (d : Int))

/-- What a function that uses bounds for a level does. -/
def UseAt (F : FuncId) (cost : Lv → Nat) (L : Lv) : Prop := ∀ (p d : Nat) (w : World) (B b off : Nat) (k n : Int) (args : List Lv) (a : Option Addr) (cap : Nat), L = .mk k n args → p ≤ 64 → d ≤ 32 → B ≤ w.heap.size → LvAt w B b off k n args a cap →
  Calls Try.prog F #[.agg #[.int .i64 (p : Int), .int .i64 (d : Int)], .pointer (some ⟨b, off, none⟩)] w (Told (decide (L.size ≤ p ∧ L.deep ≤ d)) (p - cost L) d w)

set_option maxRecDepth 100000 in
set_option maxHeartbeats 400000 in
theorem each_any (F : FuncId) (hrunF : ∀ (args : Array Value) (w : World), (callFunc F args).run Try.prog w = .ok (.enter F args) w) (cost : Lv → Nat) (ls : List Lv) (ih : ∀ L ∈ ls, UseAt F cost L) (p d : Nat) (w : World) (B : Nat) (a : Option Addr) (cap : Nat)
    (hp : p ≤ 64) (hd : d ≤ 32) (hB : B ≤ w.heap.size) (k n : Int) (hN : Node w (· < B) k n ls a cap) :
    Calls Try.prog 35 #[.agg #[.int .i64 (p : Int), .int .i64 (d : Int)], .slice a ls.length cap, .func (.func F) #[] #[]] w (Told (roomB cost d p ls) (p - costs cost ls) d w) := by
  have hle := hN.le
  have hmx := hN.max
  obtain ⟨w1, hw1, hb1, P0, P1, hs1⟩ := two_new w ([.int .i64 (p : Int), .int .i64 (d : Int)] : List Value) ([.int .i64 0, .int .i64 0] : List Value) 75 75
  go_enter Try.func35, Try.ntmps35
  go_wp2_with fail
  clear hw1
  go_loopw [7, 8, 11] (fun x7 x8 i wr => ∃ (j : Nat) (z : Bool), x7 = .bool z ∧ i = .int .i64 (j : Int) ∧ j ≤ ls.length ∧ roomB cost d p (ls.take j) = true ∧ Blk wr w.heap.size 75 [.int .i64 ((p - costs cost (ls.take j) : Nat) : Int), .int .i64 (d : Int)] ∧ Blk wr (w.heap.size + 1) 75 [.int .i64 0, .int .i64 0] ∧ Below w.heap.size w wr ∧ w.heap.size + 2 ≤ wr.heap.size) (fun _ _ i _ => ls.length - (intOf i).toNat)
  case atStart => exact ⟨0, false, rfl, rfl, by omega, rfl, by simpa [costs] using P0, P1, hb1, by omega⟩
  case round =>
    clear P0 P1 hb1 hs1
    obtain ⟨j, z, rfl, rfl, hj, hroom, hb, hr, hbel, hsz⟩ := hrel
    by_cases hlt : j < ls.length
    · obtain ⟨L, hL⟩ : ∃ L, ls[j]? = some L := ⟨_, List.getElem?_eq_getElem hlt⟩
      obtain ⟨b, off, k', n', args', a', cap', rfl, hS, rfl, e0, e1, e2, hN'⟩ := (hN.below hbel hB).get hL
      obtain ⟨q, hq⟩ : ∃ q : Nat, p - costs cost (ls.take j) = q := ⟨_, rfl⟩
      have hqp : q ≤ 64 := by omega
      have kc := ih _ (List.mem_of_getElem? hL) q d wr.drew B b (off + j * 3) k' n' args' a' cap' rfl hqp hd (by show B ≤ wr.heap.size; omega) ⟨hS, e0, e1, e2, hN'.carry (fun _ _ => rfl) (fun _ h => h)⟩
      have HL : Hid (ls[j]? = some (.mk k' n' args')) := hL
      rw [hq] at hb
      have c0 := hb.cell (j := 0) rfl
      have c1 := hb.cell (j := 1) rfl
      have HQ : Hid _ := hq
      have HR : Hid _ := hroom
      clear hL hN' e0 e1 e2 ih hN hq hroom
      cases hok : decide ((Lv.mk k' n' args').size ≤ q ∧ (Lv.mk k' n' args').deep ≤ d)
      · rw [hok] at kc
        have HK : Hid _ := hok
        clear hok
        go_wp2_with fail
        go_region_law (refine step_callv (by rfl) (.tmp 15) (.tmp 16) (.tmp 19) #[75, 72] (by rfl) F hrunF (by rfl) _ _ (by rfl) (by rfl) (kc.mono ?_); rintro e w6 ⟨hb6, x, y, rfl, hxy⟩; have R6 := hb.drew.below hb6 hb.lt; have Q6 := hr.drew.below hb6 hr.lt; have d0 := R6.cell (j := 0) rfl; have d1 := R6.cell (j := 1) rfl; have f0 := R6.frozen 0; have f1 := R6.frozen 1; refine ⟨_, rfl, ?_⟩)
        obtain ⟨R7, K7⟩ := st2 R6 (.int .i64 x) (.int .i64 y)
        have Q7 := Q6.keep K7 (by omega)
        have q0 := Q7.cell (j := 0) rfl
        have q1 := Q7.cell (j := 1) rfl
        have g0 := Q7.frozen 0
        have g1 := Q7.frozen 1
        go_wp2_with fail
        obtain ⟨R8, K8⟩ := st2 Q7 (.int .i64 0) (.int .i64 0)
        have z0 := R8.cell (j := 0) rfl
        have z1 := R8.cell (j := 1) rfl
        have hf : roomB cost d p ls = false := by rw [split_at HL.out, roomB_append, HR.out, HQ.out, roomB, HK.out]; rfl
        have hb6' : Below w.heap.size w w6 := (bel_drew hbel).trans (hb6.mono (by show w.heap.size ≤ wr.heap.size; omega))
        have hz6 : wr.heap.size ≤ w6.heap.size := hb6.size
        have hz7 := K7.size
        refine bodyPost_ret (v := .tuple #[.agg #[.int .i64 0, .int .i64 0], .bool false]) (by simp [results, Try.results35, go_sem, z0, z1]) rfl ?_
        rw [hf]
        exact ⟨(hb6'.trans (K7.below (by omega) (by omega))).trans (K8.below (by omega) (by omega)), 0, 0, rfl, fun h => by cases h⟩
      · rw [hok] at kc
        have HK : Hid _ := hok
        clear hok
        go_wp2_with fail
        go_region_law (refine step_callv (by rfl) (.tmp 15) (.tmp 16) (.tmp 19) #[75, 72] (by rfl) F hrunF (by rfl) _ _ (by rfl) (by rfl) (kc.mono ?_); rintro e w6 ⟨hb6, x, y, rfl, hxy⟩; have R6 := hb.drew.below hb6 hb.lt; have Q6 := hr.drew.below hb6 hr.lt; have d0 := R6.cell (j := 0) rfl; have d1 := R6.cell (j := 1) rfl; have f0 := R6.frozen 0; have f1 := R6.frozen 1; refine ⟨_, rfl, ?_⟩)
        obtain ⟨R7, K7⟩ := st2 R6 (.int .i64 x) (.int .i64 y)
        have Q7 := Q6.keep K7 (by omega)
        have hz6 : wr.heap.size ≤ w6.heap.size := hb6.size
        have hz7 := K7.size
        go_wp2_with fail
        have hb6' : Below w.heap.size w w6 := (bel_drew hbel).trans (hb6.mono (by show w.heap.size ≤ wr.heap.size; omega))
        refine ⟨⟨j + 1, true, rfl, by go_num, by omega, ?_, ?_, by simpa [hxy] using Q7, by simpa [hxy] using hb6'.trans (K7.below (by omega) (by omega)), by simpa [hxy] using (by omega : w.heap.size + 2 ≤ _)⟩, by simp [intOf]; omega⟩
        · rw [take_snoc HL.out, roomB_append, HR.out, HQ.out, roomB, HK.out]; rfl
        · rw [take_snoc HL.out, costs_append, show p - (costs cost (ls.take j) + costs cost [Lv.mk k' n' args']) = q - cost (Lv.mk k' n' args') by have := HQ.out; simp only [costs]; omega]
          simpa [hxy] using R7
    · have HR : Hid _ := hroom
      have hd0 : decide ((j : Int) < (ls.length : Int)) = false := by simp; omega
      clear hroom hN ih
      have c0 := hb.cell (j := 0) rfl
      have c1 := hb.cell (j := 1) rfl
      have q0 := hr.cell (j := 0) rfl
      have q1 := hr.cell (j := 1) rfl
      have g0 := hr.frozen 0
      have g1 := hr.frozen 1
      go_wp2_with fail
      obtain ⟨R8, K8⟩ := st2 hr (.int .i64 ((p - costs cost (ls.take j) : Nat) : Int)) (.int .i64 (d : Int))
      have z0 := R8.cell (j := 0) rfl
      have z1 := R8.cell (j := 1) rfl
      have hr1 := HR.out
      rw [List.take_of_length_le (by omega)] at hr1 K8 z0 z1 ⊢
      refine bodyPost_ret (v := .tuple #[.agg #[.int .i64 ((p - costs cost ls : Nat) : Int), .int .i64 (d : Int)], .bool true]) (by simp [results, Try.results35, go_sem, z0, z1]) rfl ?_
      rw [hr1]
      exact ⟨hbel.trans (K8.below (by omega) (by omega)), _, _, rfl, fun _ => ⟨rfl, rfl⟩⟩

end Go.Proofs.Ytemgmphddmlmlaa
