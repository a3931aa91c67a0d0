/- Facts of the two terms that the laws' begun asks with. Of no program; no condition. -/
import Derived.Test.YtbmijpjmdpdfkaaDoorPut2
import Derived.Test.YtbmijpjmdpdfkaaDoorEq3
namespace Go.Proofs.YtbmijpjmdpdfkaaDoor
open Go.RowKit

/-- App(Var 0, Var 1), its Args in block g. -/
def tB (g : Nat) : Tr := .mk 3 0 { data := #[] } [] none 0 (some ⟨g, 0, none⟩) 2 g 0 [varT 0, varT 1]
/-- Const "c". -/
def vB : Tr := .mk 2 0 { data := #[99] } [] none 0 none 0 0 0 []

theorem tB_size (g : Nat) : (tB g).size = 3 := rfl
theorem tB_depth (g : Nat) : (tB g).depth = 2 := rfl
theorem tB_seq (g b : Nat) : (Pt.mk b 0 (tB g) 1 0).seq = [⟨b, 0, tB g, 1, 0⟩, ⟨g, 0, varT 0, 2, 0⟩, ⟨g, 5, varT 1, 2, 0⟩] := rfl
theorem vB_seq (b : Nat) : (Pt.mk b 0 vB 1 0).seq = [⟨b, 0, vB, 1, 0⟩] := rfl
theorem varT_bare (n : Int) (h0 : -1073741824 ≤ n) (h1 : n ≤ 1073741824) : Bare (varT n) := .mk (of_decide_eq_true rfl) (of_decide_eq_true rfl) (fun h => absurd h (of_decide_eq_false rfl)) h0 h1 rfl rfl rfl (fun L h => by cases h)
theorem tB_bare (g : Nat) : Bare (tB g) := .mk (of_decide_eq_true rfl) (of_decide_eq_true rfl) (fun _ => ⟨of_decide_eq_true rfl, of_decide_eq_true rfl⟩) (of_decide_eq_true rfl) (of_decide_eq_true rfl) rfl rfl rfl (fun L h => by
  rcases List.mem_cons.1 h with rfl | h
  · exact varT_bare 0 (of_decide_eq_true rfl) (of_decide_eq_true rfl)
  · rcases List.mem_cons.1 h with rfl | h
    · exact varT_bare 1 (of_decide_eq_true rfl) (of_decide_eq_true rfl)
    · cases h)
theorem vB_bare : Bare vB := .mk (of_decide_eq_true rfl) (of_decide_eq_true rfl) (fun h => absurd h (of_decide_eq_false rfl)) (of_decide_eq_true rfl) (of_decide_eq_true rfl) rfl rfl rfl (fun L h => by cases h)
theorem tB_plain (g b : Nat) : Plainly (Pt.mk b 0 (tB g) 1 0).seq := by
  rw [tB_seq]
  intro p hp
  simp only [List.mem_cons, List.not_mem_nil, or_false] at hp
  rcases hp with rfl | rfl | rfl <;> exact ⟨rfl, rfl⟩
theorem vB_plain (b : Nat) : Plainly (Pt.mk b 0 vB 1 0).seq := by
  rw [vB_seq]
  intro p hp
  simp only [List.mem_cons, List.not_mem_nil, or_false] at hp
  subst hp
  exact ⟨rfl, rfl⟩
theorem tB_count0 (g b : Nat) : cntF 0 (Pt.mk b 0 (tB g) 1 0).seq = 1 := by rw [tB_seq]; rfl
theorem tB_count1 (g b : Nat) : cntF 1 (Pt.mk b 0 (tB g) 1 0).seq = 1 := by rw [tB_seq]; rfl
theorem em_nil : emB { data := #[] } = true := by kernel_rfl
theorem tB_whole (g : Nat) : (tB g).wholeB = true := by
  show (true && (true && (emB { data := #[] } && true))) = true
  rw [em_nil]; rfl
theorem varT_whole0 : (varT 0).wholeB = true := by
  show (true && (true && (true && (emB { data := #[] } && true)))) = true
  rw [em_nil]; rfl
theorem varT_whole1 : (varT 1).wholeB = true := by
  show (true && (true && (true && (emB { data := #[] } && true)))) = true
  rw [em_nil]; rfl
theorem tB_may (g b : Nat) : mayE b (tB g) 2 0 = 0 := by
  unfold mayE
  rw [tB_seq, tB_size, tB_depth]
  have h : allW [⟨b, 0, tB g, 1, 0⟩, ⟨g, 0, varT 0, 2, 0⟩, ⟨g, 5, varT 1, 2, 0⟩] = true := by
    show ((tB g).wholeB && ((varT 0).wholeB && ((varT 1).wholeB && true))) = true
    rw [tB_whole, varT_whole0, varT_whole1]; rfl
  rw [h, if_neg (by simp), if_neg (by omega), if_neg (by omega)]
  rfl
theorem vB_in (w : World) (S : Nat → Prop) : TIn w S vB :=
  tin_iff.2 ⟨of_decide_eq_true rfl, of_decide_eq_true rfl, of_decide_eq_true rfl, of_decide_eq_true rfl, ⟨by omega, by omega, by omega, by omega, Nat.le_refl _, by show 0 ≤ 9223372036854775807; omega, .inl rfl⟩, Nat.le_refl _, of_decide_eq_true rfl, .inl rfl⟩
theorem tB_in {w : World} {g : Nat} (h : Blk w g 25 [Value.int .i64 0, .int .i64 0, .string { data := #[] }, .slice none 0 0, .slice none 0 0, .int .i64 0, .int .i64 1, .string { data := #[] }, .slice none 0 0, .slice none 0 0]) : TIn w (· < w.heap.size) (tB g) :=
  tin_iff.2 ⟨of_decide_eq_true rfl, of_decide_eq_true rfl, of_decide_eq_true rfl, of_decide_eq_true rfl, ⟨by omega, by omega, by omega, by omega, Nat.le_refl _, by show 0 ≤ 9223372036854775807; omega, .inl rfl⟩, Nat.le_refl _, of_decide_eq_true rfl, .inr ⟨rfl, h.lt, TAll.of_get (fun i L hi => by
    match i with
    | 0 => cases hi; exact ⟨⟨h.cell (j := 0) rfl, h.cell (j := 1) rfl, h.cell (j := 2) rfl, h.cell (j := 3) rfl, h.cell (j := 4) rfl⟩, varT_in 0 (of_decide_eq_true rfl) (of_decide_eq_true rfl) _ _⟩
    | 1 => cases hi; exact ⟨⟨h.cell (j := 5) rfl, h.cell (j := 6) rfl, h.cell (j := 7) rfl, h.cell (j := 8) rfl, h.cell (j := 9) rfl⟩, varT_in 1 (of_decide_eq_true rfl) (of_decide_eq_true rfl) _ _⟩
    | n + 2 => cases hi)⟩⟩

/-- What Put makes of them: a part with two Args, of which the first has the Name "c" and the second the number 0. -/
theorem tB_put {g b bv : Nat} {T' : Tr} (h : Img (PutV bv 0 vB) NoLv ⟨b, 0, tB g, 1, 0⟩ T') : ∃ U0 U1, T'.args = [U0, U1] ∧ U0.s = { data := #[99] } ∧ U1.n = 0 := by
  cases h with
  | var h _ => exact absurd h (of_decide_eq_false rfl)
  | leaf h _ _ _ _ _ => exact absurd h (of_decide_eq_false rfl)
  | branch _ _ _ _ _ _ hl hk =>
    have hl2 : T'.args.length = 2 := hl
    obtain ⟨U0, U1, he⟩ : ∃ U0 U1, T'.args = [U0, U1] := by
      match hm : T'.args, hl2 with
      | [U0, U1], _ => exact ⟨U0, U1, rfl⟩
    rw [he] at hk
    have h0 := hk 0 (varT 0) U0 rfl rfl
    have h1 := hk 1 (varT 1) U1 rfl rfl
    refine ⟨U0, U1, he, ?_, ?_⟩
    · cases h0 with
      | var _ hv =>
        rcases hv with ⟨_, _, hv⟩ | ⟨hn, _⟩
        · cases hv with
          | var h _ => exact absurd h (of_decide_eq_false rfl)
          | leaf _ _ _ hs _ _ => exact hs
          | branch h _ _ _ _ _ _ _ => exact absurd h (of_decide_eq_false rfl)
        · exact absurd ⟨rfl, rfl⟩ hn
      | leaf h _ _ _ _ _ => exact absurd h (of_decide_eq_false rfl)
      | branch h _ _ _ _ _ _ _ => exact absurd h (of_decide_eq_false rfl)
    · cases h1 with
      | var _ hv =>
        rcases hv with ⟨_, hn, _⟩ | ⟨_, hv⟩
        · exact absurd hn (of_decide_eq_false rfl)
        · exact hv.2.1
      | leaf h _ _ _ _ _ => exact absurd h (of_decide_eq_false rfl)
      | branch h _ _ _ _ _ _ _ => exact absurd h (of_decide_eq_false rfl)
end Go.Proofs.YtbmijpjmdpdfkaaDoor

/- The walk of the laws' begun. No condition but that the tables hold what the program's text lays. -/
namespace Go.Proofs.YtbmijpjmdpdfkaaDoor
open Go.RowKit

/-- What Put tells of the two terms. -/
structure PutR (w' : World) (lo : Nat) (cap ab ao : Nat) : Prop where
  ge : lo ≤ ab
  lt : ab < w'.heap.size
  c2 : 2 ≤ cap
  cm : cap ≤ 9223372036854775807
  name : w'.cell? ⟨ab, ao + 2, none⟩ = some (.string { data := #[99] })
  num : w'.cell? ⟨ab, ao + 5 + 1, none⟩ = some (.int .i64 0)

theorem put_tB (g : Nat) (w : World) (hT : Tabs w) (h3 : 3 ≤ w.heap.size) (hg : Blk w g 25 [Value.int .i64 0, .int .i64 0, .string { data := #[] }, .slice none 0 0, .slice none 0 0, .int .i64 0, .int .i64 1, .string { data := #[] }, .slice none 0 0, .slice none 0 0]) :
    Calls Tryd.prog 19 #[.agg #[.int .i64 3, .int .i64 0, .string { data := #[] }, .slice none 0 0, .slice (some ⟨g, 0, none⟩) 2 2], .agg #[.int .i64 2, .int .i64 0, .string { data := #[99] }, .slice none 0 0, .slice none 0 0]] w fun e w' =>
      ∃ k n s la ll lc ab ao cap, e = .returned (.agg #[.int .i64 k, .int .i64 n, .string s, .slice la ll lc, .slice (some ⟨ab, ao, none⟩) 2 cap]) ∧ PutR w' w.heap.size cap ab ao ∧ Below w.heap.size w w' := by
  refine (put_one (tB g) vB w hT h3 (tB_in hg) (tB_bare g) (by rw [tB_size]; omega) (tB_plain g) (vB_in w _) vB_bare rfl vB_plain (fun b => by rw [tB_count0]; omega)).mono ?_
  rintro e w' ⟨T', hi, rfl, ht, hb⟩
  obtain ⟨U0, U1, ha, hs, hn⟩ := tB_put hi
  have hN := tin_iff.1 ht
  have hle := hN.le
  rw [ha] at hle
  have g0 := ht.get (i := 0) (L := U0) (by rw [ha]; rfl)
  have g1 := ht.get (i := 1) (L := U1) (by rw [ha]; rfl)
  have c0 := g0.2.2.1.c2
  have c1 := g1.2.2.1.c1
  rw [hs] at c0
  rw [hn] at c1
  simp only [Nat.zero_mul, Nat.add_zero, Nat.one_mul] at c0 c1
  refine ⟨T'.k, T'.n, T'.s, T'.la, T'.ls.length, T'.lc, T'.b, T'.off, T'.c, ?_, ⟨g0.2.1.1, g0.2.1.2.1, hle, hN.max, c0, c1⟩, hb⟩
  unfold Tr.val
  rw [ha, g0.1]
  rfl

abbrev tBv (g : Nat) : Value := .agg #[.int .i64 3, .int .i64 0, .string { data := #[] }, .slice none 0 0, .slice (some ⟨g, 0, none⟩) 2 2]
abbrev tBl (g : Nat) : List Value := [.int .i64 3, .int .i64 0, .string { data := #[] }, .slice none 0 0, .slice (some ⟨g, 0, none⟩) 2 2]

/-- What begun has made: its first term at g1, what Put told at g2. -/
structure BgS (w4 w' : World) (g g1 g2 cap ab ao : Nat) (k n : Int) (s : ByteArray) (la : Option Addr) (ll lc : Nat) : Prop where
  low : Below w4.heap.size w4 w'
  p : Blk w' g1 25 (tBl g)
  z : Blk w' g2 25 [.int .i64 k, .int .i64 n, .string s, .slice la ll lc, .slice (some ⟨ab, ao, none⟩) 2 cap]
  name : w'.cell? ⟨ab, ao + 2, none⟩ = some (.string { data := #[99] })
  num : w'.cell? ⟨ab, ao + 5 + 1, none⟩ = some (.int .i64 0)

theorem BgS.below {w4 w' w'' : World} {g g1 g2 cap ab ao : Nat} {k n : Int} {s : ByteArray} {la : Option Addr} {ll lc : Nat} (h : BgS w4 w' g g1 g2 cap ab ao k n s la ll lc) (hb : Below w'.heap.size w' w'') : BgS w4 w'' g g1 g2 cap ab ao k n s la ll lc :=
  ⟨h.low.trans (hb.mono h.low.size), h.p.below hb h.p.lt, h.z.below hb h.z.lt, (hb.cell (World.block_lt_of_cell? _ _ h.name)).trans h.name, (hb.cell (World.block_lt_of_cell? _ _ h.num)).trans h.num⟩

theorem bgA {w4 w6 : World} {g g1 cap ab ao lo : Nat} {k n : Int} {s : ByteArray} {la : Option Addr} {ll lc : Nat} (hb6 : Below w4.heap.size w4 w6) (P6 : Blk w6 g1 25 (tBl g)) (R6 : PutR w6 lo cap ab ao) : ∃ w7, w6.alloc (.cells #[.int .i64 k, .int .i64 n, .string s, .slice la ll lc, .slice (some ⟨ab, ao, none⟩) 2 cap] 25) = w7 ∧ BgS w4 w7 g g1 w6.heap.size cap ab ao k n s la ll lc := by
  obtain ⟨w7, hw7, hb7, Z7, _⟩ := one_new w6 ([.int .i64 k, .int .i64 n, .string s, .slice la ll lc, .slice (some ⟨ab, ao, none⟩) 2 cap] : List Value) 25
  exact ⟨w7, hw7, hb6.trans (hb7.mono hb6.size), P6.below hb7 P6.lt, Z7, (hb7.cell (p := ⟨ab, ao + 2, none⟩) R6.lt).trans R6.name, (hb7.cell (p := ⟨ab, ao + 5 + 1, none⟩) R6.lt).trans R6.num⟩
theorem bgB {w4 w6 : World} {g g1 g2 cap ab ao lo : Nat} {k n : Int} {s : ByteArray} {la : Option Addr} {ll lc : Nat} (hb6 : Below w4.heap.size w4 w6) (P6 : Blk w6 g1 25 (tBl g)) (Z6 : Blk w6 g2 25 ([.int .i64 0, .int .i64 0, .string { data := #[] }, .slice none 0 0, .slice none 0 0] : List Value)) (R6 : PutR w6 lo cap ab ao) (h1 : g2 < lo) (h2 : g1 ≠ g2) (h3 : w4.heap.size ≤ g2) :
    ∃ w7, (((((w6.setCell ⟨g2, 0, none⟩ (.int .i64 k)).setCell ⟨g2, 1, none⟩ (.int .i64 n)).setCell ⟨g2, 2, none⟩ (.string s)).setCell ⟨g2, 3, none⟩ (.slice la ll lc)).setCell ⟨g2, 4, none⟩ (.slice (some ⟨ab, ao, none⟩) 2 cap)) = w7 ∧ BgS w4 w7 g g1 g2 cap ab ao k n s la ll lc := by
  obtain ⟨Q, K⟩ := st5 Z6 (.int .i64 k) (.int .i64 n) (.string s) (.slice la ll lc) (.slice (some ⟨ab, ao, none⟩) 2 cap)
  have hne : ab ≠ g2 := by have := R6.ge; omega
  exact ⟨_, rfl, hb6.trans (K.below hb6.size (fun k e => by omega)), P6.keep K h2, Q, (World.cell?_of_block (w := w6) (a := ⟨ab, ao + 2, none⟩) (K.block ab R6.lt hne)).trans R6.name, (World.cell?_of_block (w := w6) (a := ⟨ab, ao + 5 + 1, none⟩) (K.block ab R6.lt hne)).trans R6.num⟩

theorem tB_call11 (g : Nat) (w : World) (B : Nat) (hT : Tabs w) (h3 : 3 ≤ B) (hB : B ≤ w.heap.size) (hin : TIn w (· < B) (tB g)) : Calls Tryd.prog 11 #[tBv g, .int .i64 9] w fun e w' => e = .returned (.int .i64 3) ∧ Below w.heap.size w w' := by
  have := size_any (tB g) 9 w B hT h3 hB hin (by rw [tB_size]; omega)
  rw [tB_size] at this
  exact this
theorem tB_call12 (g : Nat) (w : World) (B : Nat) (hT : Tabs w) (h3 : 3 ≤ B) (hB : B ≤ w.heap.size) (hin : TIn w (· < B) (tB g)) : Calls Tryd.prog 12 #[tBv g, .int .i64 9] w fun e w' => e = .returned (.int .i64 2) ∧ Below w.heap.size w w' := by
  have := depth_any (tB g) 9 w B hT h3 hB hin (by rw [tB_size]; omega)
  rw [tB_depth] at this
  exact this
theorem tB_call9 (g : Nat) (w : World) (B : Nat) (hT : Tabs w) (h3 : 3 ≤ B) (hB : B ≤ w.heap.size) (hin : TIn w (· < B) (tB g)) : Calls Tryd.prog 9 #[tBv g, .int .i64 2, .int .i64 0] w fun e w' => e = .returned (.int .i64 0) ∧ Below w.heap.size w w' := by
  have := tmay_any (tB g) 2 0 w B hT h3 hB hin (by rw [tB_size]; omega)
  rw [tB_may] at this
  exact this
theorem tB_call27 (g : Nat) (w : World) (B : Nat) (hT : Tabs w) (h3 : 3 ≤ B) (hB : B ≤ w.heap.size) (hin : TIn w (· < B) (tB g)) : Calls Tryd.prog 27 #[tBv g, .int .i64 1] w fun e w' => e = .returned (.bool true) ∧ Below w.heap.size w w' := by
  have := uses_any (tB g) 1 w B hT h3 hB hin (by rw [tB_size]; omega)
  rw [tB_count1] at this
  exact this
theorem tB_call32 (g : Nat) (w : World) (B : Nat) (hT : Tabs w) (h3 : 3 ≤ B) (hB : B ≤ w.heap.size) (hin : TIn w (· < B) (tB g)) : Calls Tryd.prog 32 #[tBv g, tBv g] w fun e w' => e = .returned (.bool true) ∧ Below w.heap.size w w' :=
  equal_self (tB g) w B hT h3 hB hin (by rw [tB_size]; omega) (fun b => tB_plain g b)

theorem enter19 (args : Array Value) (w : World) : (callFunc 19 args).run Tryd.prog w = .ok (.enter 19 args) w := enter_of Tryd.func19 (by kernel_rfl) rfl args w
theorem enter31 (args : Array Value) (w : World) : (callFunc 31 args).run Tryd.prog w = .ok (.enter 31 args) w := enter_of Tryd.func31 (by kernel_rfl) rfl args w

set_option maxRecDepth 100000 in
set_option maxHeartbeats 1000000 in
theorem begun_any (w : World) (hT : Tabs w) (h3 : 3 ≤ w.heap.size) : Calls Tryd.prog 7 #[] w fun e w' => e = .returned (.bool true) ∧ Below w.heap.size w w' := by
  go_enter Tryd.func7, Tryd.ntmps7
  go_wp2_with fail
  refine (var_any 0 w).mono ?_
  rintro e w1 ⟨rfl, hb1⟩
  go_wp2_with fail
  refine (var_any 1 w1).mono ?_
  rintro e w2 ⟨rfl, hb2⟩
  go_wp2_with fail
  refine (app_bare 0 1 w2 (by omega) (by omega)).mono ?_
  rintro e w3 ⟨g, rfl, G3, hg3, hb3⟩
  have hbw : Below w.heap.size w w3 := hb1.trans ((hb2.trans (hb3.mono hb2.size)).mono hb1.size)
  obtain ⟨w4, hw4, hb4, P4, hs4⟩ := one_new w3 ([.int .i64 3, .int .i64 0, .string { data := #[] }, .slice none 0 0, .slice (some ⟨g, 0, none⟩) 2 2] : List Value) 25
  have hbw4 := hbw.trans (hb4.mono hbw.size)
  have G4 := G3.below hb4 G3.lt
  have lg := G3.lt
  have HW4 : Hid (w3.alloc (.cells #[.int .i64 3, .int .i64 0, .string { data := #[] }, .slice none 0 0, .slice (some ⟨g, 0, none⟩) 2 2] 25) = w4) := hw4
  clear hw4
  go_wp2_with fail
  rw [HW4.out]
  have hP : ∀ w', Below w4.heap.size w4 w' → _ := fun w' h => put_tB g w' ((hT.on hbw4).on h) (by have := hbw4.size; have := h.size; omega) (G4.below h G4.lt)
  have x0 := P4.cell (j := 0) rfl
  have x1 := P4.cell (j := 1) rfl
  have x2 := P4.cell (j := 2) rfl
  have x3 := P4.cell (j := 3) rfl
  have x4 := P4.cell (j := 4) rfl
  have IT := tB_in G4
  have T4 := hT.on hbw4
  have h34 : 3 ≤ w4.heap.size := by have := hbw4.size; omega
  go_region_law (first
    | (refine step_call (by rfl) 31 enter31 _ _ #[9, 22] (by rfl) _ _ (by rfl) (by rfl) ((const_bare _ _).mono ?_); rintro e w5 ⟨rfl, hb5'⟩; refine ⟨_, rfl, ?_⟩; have hb5 : Below w4.heap.size w4 w5 := (by first | exact Below.trans (Below.refl _ _).drew hb5' | exact Below.trans ((Below.refl _ _).drew.alloc (Nat.le_refl _) _) (hb5'.mono (by simp))); have P5 := P4.below hb5 P4.lt; have y0 := P5.cell (j := 0) rfl; have y1 := P5.cell (j := 1) rfl; have y2 := P5.cell (j := 2) rfl; have y3 := P5.cell (j := 3) rfl; have y4 := P5.cell (j := 4) rfl; have l5 := P5.lt; try (have Z5 : Blk w5 w4.heap.size 25 ([.int .i64 0, .int .i64 0, .string { data := #[] }, .slice none 0 0, .slice none 0 0] : List Value) := (Blk.new w4.drew 25 ([.int .i64 0, .int .i64 0, .string { data := #[] }, .slice none 0 0, .slice none 0 0] : List Value)).below hb5' (by simp)))
    | (refine step_call (by rfl) 19 enter19 (.tmp 6) (.tmp 7) #[25, 25] (by rfl) _ _ (by rfl) (by rfl) ((hP _ (by first | exact hb5 | exact hb5.alloc hb5.size _)).mono ?_); rintro e w6 ⟨k, n, s, la, ll, lc, ab, ao, cap, rfl, R6, hb6'⟩; refine ⟨_, rfl, ?_⟩; have hb6 : Below w4.heap.size w4 w6 := (by first | exact hb5.trans (hb6'.mono hb5.size) | exact (hb5.alloc hb5.size _).trans (hb6'.mono (by simp; have := hb5.size; omega))); have P6 := P4.below hb6 P4.lt; have S7A := bgA (k := k) (n := n) (s := s) (la := la) (ll := ll) (lc := lc) hb6 P6 R6; (try (have Z6 : Blk w6 w4.heap.size 25 ([.int .i64 0, .int .i64 0, .string { data := #[] }, .slice none 0 0, .slice none 0 0] : List Value) := Z5.below hb6' Z5.lt; have z0 := Z6.cell (j := 0) rfl; have q0 := Z6.frozen 0; have z1 := Z6.cell (j := 1) rfl; have q1 := Z6.frozen 1; have z2 := Z6.cell (j := 2) rfl; have q2 := Z6.frozen 2; have z3 := Z6.cell (j := 3) rfl; have q3 := Z6.frozen 3; have z4 := Z6.cell (j := 4) rfl; have q4 := Z6.frozen 4; have S7B := bgB (k := k) (n := n) (s := s) (la := la) (ll := ll) (lc := lc) hb6 P6 Z6 R6 (by have := hb5'.size; simp at this; omega) (by have := P4.lt; omega) (Nat.le_refl _))); (try (have Z6 : Blk w6 w5.heap.size 25 ([.int .i64 0, .int .i64 0, .string { data := #[] }, .slice none 0 0, .slice none 0 0] : List Value) := (Blk.new w5 25 ([.int .i64 0, .int .i64 0, .string { data := #[] }, .slice none 0 0, .slice none 0 0] : List Value)).below hb6' (by simp); have z0 := Z6.cell (j := 0) rfl; have q0 := Z6.frozen 0; have z1 := Z6.cell (j := 1) rfl; have q1 := Z6.frozen 1; have z2 := Z6.cell (j := 2) rfl; have q2 := Z6.frozen 2; have z3 := Z6.cell (j := 3) rfl; have q3 := Z6.frozen 3; have z4 := Z6.cell (j := 4) rfl; have q4 := Z6.frozen 4; have S7B := bgB (k := k) (n := n) (s := s) (la := la) (ll := ll) (lc := lc) hb6 P6 Z6 R6 (by simp) (by omega) (hb5.size)))))
  all_goals
    have hc2 := R6.c2
    have hcm := R6.cm
    first
      | obtain ⟨w7, hw7, S7⟩ := S7B
      | obtain ⟨w7, hw7, S7⟩ := S7A
    rw [hw7]
    clear hw7
    have hbwS := hbw4
    clear hP x0 x1 x2 x3 x4 P6 hb6 hb6' R6 P5 y0 y1 y2 y3 y4 l5 hb5' hb5 hb4 P4 hs4 G4 lg hb3 hg3 G3 hb2 hb1 hbw HW4
    have c70 := S7.p.cell (j := 0) rfl
    have c71 := S7.p.cell (j := 1) rfl
    have c72 := S7.p.cell (j := 2) rfl
    have c73 := S7.p.cell (j := 3) rfl
    have c74 := S7.p.cell (j := 4) rfl
    go_wp2_with fail
    refine (tB_call11 g w7 w4.heap.size (T4.on S7.low) h34 S7.low.size (IT.below S7.low (Nat.le_refl _))).mono ?_
    rintro e w8 ⟨rfl, hb8⟩
    have S8 := S7.below hb8
    clear c70 c71 c72 c73 c74
    have c80 := S8.p.cell (j := 0) rfl
    have c81 := S8.p.cell (j := 1) rfl
    have c82 := S8.p.cell (j := 2) rfl
    have c83 := S8.p.cell (j := 3) rfl
    have c84 := S8.p.cell (j := 4) rfl
    go_wp2_with fail
    refine (tB_call12 g w8 w4.heap.size (T4.on S8.low) h34 S8.low.size (IT.below S8.low (Nat.le_refl _))).mono ?_
    rintro e w9 ⟨rfl, hb9⟩
    have S9 := S8.below hb9
    clear c80 c81 c82 c83 c84
    have c90 := S9.p.cell (j := 0) rfl
    have c91 := S9.p.cell (j := 1) rfl
    have c92 := S9.p.cell (j := 2) rfl
    have c93 := S9.p.cell (j := 3) rfl
    have c94 := S9.p.cell (j := 4) rfl
    go_wp2_with fail
    refine (tB_call9 g w9 w4.heap.size (T4.on S9.low) h34 S9.low.size (IT.below S9.low (Nat.le_refl _))).mono ?_
    rintro e w10 ⟨rfl, hb10⟩
    have S10 := S9.below hb10
    clear c90 c91 c92 c93 c94
    have c100 := S10.p.cell (j := 0) rfl
    have c101 := S10.p.cell (j := 1) rfl
    have c102 := S10.p.cell (j := 2) rfl
    have c103 := S10.p.cell (j := 3) rfl
    have c104 := S10.p.cell (j := 4) rfl
    go_wp2_with fail
    refine (tB_call27 g w10 w4.heap.size (T4.on S10.low) h34 S10.low.size (IT.below S10.low (Nat.le_refl _))).mono ?_
    rintro e w11 ⟨rfl, hb11⟩
    have S11 := S10.below hb11
    clear c100 c101 c102 c103 c104
    have c110 := S11.p.cell (j := 0) rfl
    have c111 := S11.p.cell (j := 1) rfl
    have c112 := S11.p.cell (j := 2) rfl
    have c113 := S11.p.cell (j := 3) rfl
    have c114 := S11.p.cell (j := 4) rfl
    have z4 := S11.z.cell (j := 4) rfl
    have nm := S11.name
    have nu := S11.num
    go_wp2_with fail
    refine (tB_call32 g w11 w4.heap.size (T4.on S11.low) h34 S11.low.size (IT.below S11.low (Nat.le_refl _))).mono ?_
    rintro e w12 ⟨rfl, hb12⟩
    have S12 := S11.below hb12
    clear c110 c111 c112 c113 c114
    go_wp2_with fail
    go_ret
    exact ⟨rfl, hbwS.trans (S12.low.mono hbwS.size)⟩
end Go.Proofs.YtbmijpjmdpdfkaaDoor
