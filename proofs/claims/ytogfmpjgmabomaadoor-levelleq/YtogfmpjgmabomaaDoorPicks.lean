/- The walks of the play's Made, Next. No condition but that the bytes lie in memory. -/
import Derived.Test.YtogfmpjgmabomaaDoorOpen2
namespace Go.Proofs.YtogfmpjgmabomaaDoor
open Go.RowKit

set_option maxRecDepth 100000 in
theorem made_any (a : Option Addr) (n cap : Nat) (w : World) :
    Calls Tryd.prog 15 #[.slice a n cap] w fun e w' => e = .returned (.pointer (some ⟨w.heap.size, 0, none⟩)) ∧ Below w.heap.size w w' ∧ Blk w' w.heap.size 57 [.slice a n cap, .int .i64 0] ∧ w'.heap.size = w.heap.size + 1 := by
  go_enter Tryd.func15, Tryd.ntmps15
  go_wp2_with fail
  go_ret
  exact ⟨rfl, (Below.refl _ _).alloc (Nat.le_refl _) _, Blk.new _ _ _, by simp⟩

/-- What Next tells. -/
def nxt (bs : List Nat) (at_ : Nat) (m : Nat) : Nat := match bs[at_]? with | some x => x % m | none => 0

set_option maxRecDepth 100000 in
set_option maxHeartbeats 400000 in
theorem next_any (g : Nat) (a : Option Addr) (n cap : Nat) (bs : List Nat) (at_ m : Nat) (w : World) (B : Nat) (hg : Blk w g 57 [.slice a n cap, .int .i64 (at_ : Int)]) (hb : Bts w B a n cap bs) (hm0 : 1 ≤ m) (hm : m ≤ 1000) (ha : at_ ≤ n) (hBg : B ≤ g) :
    Calls Tryd.prog 39 #[.pointer (some ⟨g, 0, none⟩), .int .i64 (m : Int)] w fun e w' => e = .returned (.int .i64 ((nxt bs at_ m : Nat) : Int)) ∧ Keep w w' (· = g) ∧ Blk w' g 57 [.slice a n cap, .int .i64 ((if at_ < n then at_ + 1 else at_ : Nat) : Int)] := by
  have g0 := hg.cell (j := 0) rfl
  have g1 := hg.cell (j := 1) rfl
  have f1 := hg.frozen 1
  have hle := hb.le
  have hmx := hb.max
  have hlen := hb.len
  by_cases hlt : at_ < n
  · obtain ⟨x, hx⟩ : ∃ x, bs[at_]? = some x := ⟨_, List.getElem?_eq_getElem (by omega)⟩
    obtain ⟨hx256, b, off, rfl, hbB, hcell⟩ := hb.get at_ x hx
    have hN : nxt bs at_ m = x % m := by unfold nxt; rw [hx]
    rw [hN, if_pos hlt]
    clear hN hx hlen
    have hd : decide ((n : Int) ≤ (at_ : Int)) = false := by simp; omega
    have hgb : g ≠ b := by omega
    obtain ⟨w1, hw1, K1, G1⟩ : ∃ w1, w.setCell ⟨g, 1, none⟩ (.int .i64 ((at_ : Int) + 1)) = w1 ∧ Keep w w1 (· = g) ∧ Blk w1 g 57 [.slice (some ⟨b, off, none⟩) n cap, .int .i64 ((at_ : Int) + 1)] :=
      ⟨_, rfl, (Keep.refl w (· = g)).setCell (g := g) (fun _ => rfl) 1 _, hg.set 1 _⟩
    have c0 := G1.cell (j := 0) rfl
    have c1 := G1.cell (j := 1) rfl
    have c2 := (kcell K1 b (off + at_) (World.block_lt_of_cell? w _ hcell) (by omega)).trans hcell
    go_enter Tryd.func39, Tryd.ntmps39
    go_wp2_with fail
    go_quiet (fail)
    go_wp2_with fail
    go_quiet (fail)
    go_wp2_with fail
    go_ret
    exact ⟨ret_int (by simp), (((Keep.refl w (· = g)).drewN _).setCell (g := g) (fun _ => rfl) 1 _).drewN _, by have := ((hg.drewN nq).set 1 (.int .i64 ((at_ : Int) + 1))); exact this⟩
  · have hx : bs[at_]? = none := List.getElem?_eq_none (by omega)
    have hN : nxt bs at_ m = 0 := by unfold nxt; rw [hx]
    rw [hN, if_neg hlt]
    clear hN hx hlen
    have hd : decide ((n : Int) ≤ (at_ : Int)) = true := by simp; omega
    go_enter Tryd.func39, Tryd.ntmps39
    go_wp2_with fail
    go_quiet (fail)
    go_wp2_with fail
    go_ret
    exact ⟨rfl, (Keep.refl _ _).drewN _, hg.drewN _⟩

theorem nxt_lt (bs : List Nat) (at_ : Nat) {m : Nat} (hm : 1 ≤ m) : nxt bs at_ m < m := by
  unfold nxt
  split
  · exact Nat.mod_lt _ hm
  · omega
theorem nxt_end {bs : List Nat} {at_ m : Nat} (h : bs.length ≤ at_) : nxt bs at_ m = 0 := by unfold nxt; rw [List.getElem?_eq_none h]

/-- A level made of the bytes from a place on. -/
structure LM (w : World) (g : Nat) (a : Option Addr) (n cap : Nat) (at_ : Nat) (p : Nat) (l : Lev) (v : Value) (w' : World) (at' : Nat) : Prop where
  is : In w' (fun b => w.heap.size ≤ b ∧ b < w'.heap.size) l.lv v
  low : l.low p
  from_ : at_ ≤ at'
  upto : at' ≤ n
  picks : Blk w' g 57 [.slice a n cap, .int .i64 (at' : Int)]
  keep : Keep w w' (· = g)

def LevAt (g : Nat) (a : Option Addr) (n cap : Nat) (bs : List Nat) (p : Nat) (at_ : Nat) : Prop := ∀ (w : World) (B : Nat), Blk w g 57 [.slice a n cap, .int .i64 (at_ : Int)] → Bts w B a n cap bs → B ≤ g →
    Calls Tryd.prog 16 #[.pointer (some ⟨g, 0, none⟩), .int .i64 (p : Int)] w fun e w' => ∃ l v at', e = .returned v ∧ LM w g a n cap at_ p l v w' at'

theorem lm_end {w wl : World} {g : Nat} {a : Option Addr} {n cap at_ p : Nat} {l : Lev} {at' : Nat} {x y z v0 v1 v2 : Value} (K : Keep w wl (· = g)) (hg : g < w.heap.size) (R : Blk wl w.heap.size 24 [x, y, z]) (hi : In wl (fun b => w.heap.size + 1 ≤ b ∧ b < wl.heap.size) l.lv (.agg #[v0, v1, v2]))
    (hG : Blk wl g 57 [.slice a n cap, .int .i64 (at' : Int)]) (low : l.low p) (h1 : at_ ≤ at') (h2 : at' ≤ n) :
    LM w g a n cap at_ p l (.agg #[v0, v1, v2]) (((wl.setCell ⟨w.heap.size, 0, none⟩ v0).setCell ⟨w.heap.size, 1, none⟩ v1).setCell ⟨w.heap.size, 2, none⟩ v2) at' := by
  obtain ⟨_, K3⟩ := st3 R v0 v1 v2
  have hz := K.size
  have hz3 := K3.size
  refine ⟨In.carry (fun b hb => K3.block b hb.2 (by omega)) (fun b hb => ⟨by omega, by omega⟩) _ _ hi, low, h1, h2, hG.keep K3 (by omega), K.trans K3 (by omega)⟩

set_option maxRecDepth 100000 in
set_option maxHeartbeats 1000000 in
theorem level_zero (g : Nat) (a : Option Addr) (n cap : Nat) (bs : List Nat) (p : Nat) (at_ : Nat) (ha : at_ ≤ n) (h0 : nxt bs at_ 6 = 0) : LevAt g a n cap bs p at_ := by
  intro w B hg hb hB
  have hgl := hg.lt
  have hbl := hb.len
  obtain ⟨w1, hw1, hb1, R1, hs1⟩ := one_new w [.int .i64 0, .int .i64 0, .slice none 0 0] 24
  have hn := next_any g a n cap bs at_ 6 w1 B (hg.below hb1 hgl) (hb.below hb1 (by omega)) (by omega) (by omega) ha hB
  rw [h0] at hn
  go_enter Tryd.func16, Tryd.ntmps16
  go_wp2_with (first
    | (go_at_call 39; go_must (refine hn.mono ?_); rintro e w2 ⟨rfl, K2, G2⟩; have hz2 := K2.size)
    | (go_at_call 32; go_must (refine (Zero_any w2).mono ?_); rintro e w3 ⟨zv, rfl, iz, b3⟩; obtain ⟨k3, n3, a3, l3, c3, rfl⟩ := iz.shape; have R := (R1.keep K2 (by omega)).below b3 (by omega); have q0 := R.cell (j := 0) rfl; have q1 := R.cell (j := 1) rfl; have q2 := R.cell (j := 2) rfl; have f0 := R.frozen 0; have f1 := R.frozen 1; have f2 := R.frozen 2))
  obtain ⟨Q3, _⟩ := st3 R (.int .i64 k3) (.int .i64 n3) (.slice a3 l3 c3)
  have c0 := Q3.cell (j := 0) rfl
  have c1 := Q3.cell (j := 1) rfl
  have c2 := Q3.cell (j := 2) rfl
  have hlm := lm_end (at_ := at_) (p := p) (((Keep.of_below (S := (· = g)) hb1 (Nat.le_refl _)).trans K2 (fun _ _ h => h)).low b3 (by omega)) hgl R (iz.mono (fun b hb => ⟨by omega, hb.2⟩)) (G2.below b3 (by omega)) trivial (by split <;> omega) (by split <;> omega)
  exact bodyPost_ret (v := .agg #[.int .i64 k3, .int .i64 n3, .slice a3 l3 c3]) (by simp [results, Tryd.results16, go_sem, c0, c1, c2]) rfl ⟨_, _, _, rfl, hlm⟩

set_option maxRecDepth 100000 in
set_option maxHeartbeats 1000000 in
theorem level_succ (g : Nat) (a : Option Addr) (n cap : Nat) (bs : List Nat) (p : Nat) (at_ : Nat) (ha : at_ ≤ n) (h0 : nxt bs at_ 6 = 1) (ih : ∀ at', at_ < at' → at' ≤ n → LevAt g a n cap bs p at') : LevAt g a n cap bs p at_ := by
  intro w B hg hb hB
  have hgl := hg.lt
  have hbl := hb.len
  have hlt : at_ < n := by
    by_cases h : at_ < n
    · exact h
    · rw [nxt_end (by omega)] at h0; omega
  obtain ⟨w1, hw1, hb1, R1, hs1⟩ := one_new w [.int .i64 0, .int .i64 0, .slice none 0 0] 24
  have hn := next_any g a n cap bs at_ 6 w1 B (hg.below hb1 hgl) (hb.below hb1 (by omega)) (by omega) (by omega) ha hB
  rw [h0] at hn
  rw [if_pos hlt] at hn
  go_enter Tryd.func16, Tryd.ntmps16
  go_wp2_with (first
    | (go_at_call_of 39 (Value.int IntKind.i64 6); go_must (refine hn.mono ?_); rintro e w2 ⟨rfl, K2, G2⟩; have hz2 := K2.size; have hbw2 := (hb.below hb1 (by omega)).below (K2.below (B := B) (by omega) (by omega)) (Nat.le_refl _))
    | (go_at_call 16; go_must (refine (ih (at_ + 1) (by omega) (by omega) w2 B G2 hbw2 hB).mono ?_); rintro e w3 ⟨l3, v3, at3, rfl, m3⟩; obtain ⟨k3, n3, a3, j3, c3, rfl⟩ := m3.is.shape; have hz3 := m3.keep.size)
    | (go_at_call 27; go_must (refine (Succ_any l3 w3 w3.heap.size _ (Nat.le_refl _) (fresh_low m3.is)).mono ?_); rintro e w4 ⟨v4, rfl, i4, b4⟩; obtain ⟨k4, n4, a4, j4, c4, rfl⟩ := i4.shape; have R := ((R1.keep K2 (by omega)).keep m3.keep (by omega)).below b4 (by omega); have q0 := R.cell (j := 0) rfl; have q1 := R.cell (j := 1) rfl; have q2 := R.cell (j := 2) rfl; have f0 := R.frozen 0; have f1 := R.frozen 1; have f2 := R.frozen 2))
  obtain ⟨Q3, _⟩ := st3 R (.int .i64 k4) (.int .i64 n4) (.slice a4 j4 c4)
  have c0 := Q3.cell (j := 0) rfl
  have c1 := Q3.cell (j := 1) rfl
  have c2 := Q3.cell (j := 2) rfl
  have hlm := lm_end (at_ := at_) (p := p) ((((Keep.of_below (S := (· = g)) hb1 (Nat.le_refl _)).trans K2 (fun _ _ h => h)).trans m3.keep (fun _ _ h => h)).low b4 (by omega)) hgl R (i4.mono (fun b hb => ⟨by omega, hb.2⟩)) (m3.picks.below b4 (by omega)) m3.low (by have := m3.from_; omega) m3.upto
  exact bodyPost_ret (v := .agg #[.int .i64 k4, .int .i64 n4, .slice a4 j4 c4]) (by simp [results, Tryd.results16, go_sem, c0, c1, c2]) rfl ⟨_, _, _, rfl, hlm⟩

set_option maxRecDepth 100000 in
set_option maxHeartbeats 1000000 in
theorem level_max (g : Nat) (a : Option Addr) (n cap : Nat) (bs : List Nat) (p : Nat) (at_ : Nat) (ha : at_ ≤ n) (h0 : nxt bs at_ 6 = 2) (ih : ∀ at', at_ < at' → at' ≤ n → LevAt g a n cap bs p at') : LevAt g a n cap bs p at_ := by
  intro w B hg hb hB
  have hgl := hg.lt
  have hbl := hb.len
  have hlt : at_ < n := by
    by_cases h : at_ < n
    · exact h
    · rw [nxt_end (by omega)] at h0; omega
  obtain ⟨w1, hw1, hb1, R1, hs1⟩ := one_new w [.int .i64 0, .int .i64 0, .slice none 0 0] 24
  have hn := next_any g a n cap bs at_ 6 w1 B (hg.below hb1 hgl) (hb.below hb1 (by omega)) (by omega) (by omega) ha hB
  rw [h0] at hn
  rw [if_pos hlt] at hn
  go_enter Tryd.func16, Tryd.ntmps16
  go_wp2_with (first
    | (go_at_call_of 39 (Value.int IntKind.i64 6); go_must (refine hn.mono ?_); rintro e w2 ⟨rfl, K2, G2⟩; have hz2 := K2.size; have hbw2 := (hb.below hb1 (by omega)).below (K2.below (B := B) (by omega) (by omega)) (Nat.le_refl _))
    | (go_at_call 16; go_must (refine (ih (at_ + 1) (by omega) (by omega) w2 B G2 hbw2 hB).mono ?_); rintro e w3 ⟨l3, v3, at3, rfl, m3⟩; obtain ⟨k3, n3, a3, j3, c3, rfl⟩ := m3.is.shape; have hz3 := m3.keep.size; obtain ⟨w4, hw4, b4, X4, hs4⟩ := one_new w3 [.int .i64 k3, .int .i64 n3, .slice a3 j3 c3] 24))
  have x0 := X4.cell (j := 0) rfl
  have x1 := X4.cell (j := 1) rfl
  have x2 := X4.cell (j := 2) rfl
  have hbw4 := (hbw2.below (m3.keep.below (B := B) (by omega) (by omega)) (Nat.le_refl _)).below b4 (by omega)
  have G4 := m3.picks.below b4 (by omega)
  have R4 := ((R1.keep K2 (by omega)).keep m3.keep (by omega)).below b4 (by omega)
  have hc5 := ih at3 (by have := m3.from_; omega) m3.upto w4.drew B G4.drew (hbw4.below (B := B) (C := B) ⟨rfl, rfl, rfl, Nat.le_refl _, fun _ _ => rfl⟩ (Nat.le_refl _)) hB
  have hne : w.heap.size ≠ w3.heap.size := by omega
  go_region_held3 (fun w' => w'.cell? ⟨w3.heap.size, 0, none⟩ = some (.int .i64 k3) ∧ w'.cell? ⟨w3.heap.size, 1, none⟩ = some (.int .i64 n3) ∧ w'.cell? ⟨w3.heap.size, 2, none⟩ = some (.slice a3 j3 c3)) (go_keep)
    (first
    | (go_at_call 16; refine hc5.mono ?_; rintro e w5 ⟨l5, v5, at5, rfl, m5⟩; obtain ⟨k5, n5, a5, j5, c5, rfl⟩ := m5.is.shape; have hz5 : w4.heap.size ≤ w5.heap.size := m5.keep.size; have X5 := X4.drew.keep m5.keep (by omega); have y0 := X5.cell (j := 0) rfl; have y1 := X5.cell (j := 1) rfl; have y2 := X5.cell (j := 2) rfl; have i3 : In w5 (· < w5.heap.size) l3.lv (.agg #[.int .i64 k3, .int .i64 n3, .slice a3 j3 c3]) := (In.carry (fun b hb => (m5.keep.block b (show b < w4.heap.size by omega) (by omega)).trans (b4.block b hb.2)) (fun b hb => by omega) _ _ m3.is))
    | (go_at_call 25; refine (Max_any l3 l5 w5 w5.heap.size _ _ (Nat.le_refl _) i3 (fresh_low m5.is)).mono ?_; rintro e w6 ⟨v6, rfl, i6, b6⟩; obtain ⟨k6, n6, a6, j6, c6, rfl⟩ := i6.shape; have R := (R4.drew.keep m5.keep (by omega)).below b6 (by omega); have q0 := R.cell (j := 0) rfl; have q1 := R.cell (j := 1) rfl; have q2 := R.cell (j := 2) rfl; have f0 := R.frozen 0; have f1 := R.frozen 1; have f2 := R.frozen 2; have z0 := (X5.below b6 (by omega)).cell (j := 0) rfl; have z1 := (X5.below b6 (by omega)).cell (j := 1) rfl; have z2 := (X5.below b6 (by omega)).cell (j := 2) rfl))
  go_wp2_with fail
  obtain ⟨Q3, _⟩ := st3 R (.int .i64 k6) (.int .i64 n6) (.slice a6 j6 c6)
  have c0 := Q3.cell (j := 0) rfl
  have c1 := Q3.cell (j := 1) rfl
  have c2 := Q3.cell (j := 2) rfl
  have hlm := lm_end (at_ := at_) (p := p) (((((((Keep.of_below (S := (· = g)) hb1 (Nat.le_refl _)).trans K2 (fun _ _ h => h)).trans m3.keep (fun _ _ h => h)).low b4 (by omega)).drew).trans m5.keep (fun _ _ h => h)).low b6 (by omega)) hgl R (i6.mono (fun b hb => ⟨by omega, hb.2⟩)) (m5.picks.below b6 (by omega)) ⟨m3.low, m5.low⟩ (by have := m3.from_; have := m5.from_; omega) m5.upto
  exact bodyPost_ret (v := .agg #[.int .i64 k6, .int .i64 n6, .slice a6 j6 c6]) (by simp [results, Tryd.results16, go_sem, c0, c1, c2]) rfl ⟨_, _, _, rfl, hlm⟩

set_option maxRecDepth 100000 in
set_option maxHeartbeats 1000000 in
theorem level_imax (g : Nat) (a : Option Addr) (n cap : Nat) (bs : List Nat) (p : Nat) (at_ : Nat) (ha : at_ ≤ n) (h0 : nxt bs at_ 6 = 3) (ih : ∀ at', at_ < at' → at' ≤ n → LevAt g a n cap bs p at') : LevAt g a n cap bs p at_ := by
  intro w B hg hb hB
  have hgl := hg.lt
  have hbl := hb.len
  have hlt : at_ < n := by
    by_cases h : at_ < n
    · exact h
    · rw [nxt_end (by omega)] at h0; omega
  obtain ⟨w1, hw1, hb1, R1, hs1⟩ := one_new w [.int .i64 0, .int .i64 0, .slice none 0 0] 24
  have hn := next_any g a n cap bs at_ 6 w1 B (hg.below hb1 hgl) (hb.below hb1 (by omega)) (by omega) (by omega) ha hB
  rw [h0] at hn
  rw [if_pos hlt] at hn
  go_enter Tryd.func16, Tryd.ntmps16
  go_wp2_with (first
    | (go_at_call_of 39 (Value.int IntKind.i64 6); go_must (refine hn.mono ?_); rintro e w2 ⟨rfl, K2, G2⟩; have hz2 := K2.size; have hbw2 := (hb.below hb1 (by omega)).below (K2.below (B := B) (by omega) (by omega)) (Nat.le_refl _))
    | (go_at_call 16; go_must (refine (ih (at_ + 1) (by omega) (by omega) w2 B G2 hbw2 hB).mono ?_); rintro e w3 ⟨l3, v3, at3, rfl, m3⟩; obtain ⟨k3, n3, a3, j3, c3, rfl⟩ := m3.is.shape; have hz3 := m3.keep.size; obtain ⟨w4, hw4, b4, X4, hs4⟩ := one_new w3 [.int .i64 k3, .int .i64 n3, .slice a3 j3 c3] 24))
  have x0 := X4.cell (j := 0) rfl
  have x1 := X4.cell (j := 1) rfl
  have x2 := X4.cell (j := 2) rfl
  have hbw4 := (hbw2.below (m3.keep.below (B := B) (by omega) (by omega)) (Nat.le_refl _)).below b4 (by omega)
  have G4 := m3.picks.below b4 (by omega)
  have R4 := ((R1.keep K2 (by omega)).keep m3.keep (by omega)).below b4 (by omega)
  have hc5 := ih at3 (by have := m3.from_; omega) m3.upto w4.drew B G4.drew (hbw4.below (B := B) (C := B) ⟨rfl, rfl, rfl, Nat.le_refl _, fun _ _ => rfl⟩ (Nat.le_refl _)) hB
  have hne : w.heap.size ≠ w3.heap.size := by omega
  go_region_held3 (fun w' => w'.cell? ⟨w3.heap.size, 0, none⟩ = some (.int .i64 k3) ∧ w'.cell? ⟨w3.heap.size, 1, none⟩ = some (.int .i64 n3) ∧ w'.cell? ⟨w3.heap.size, 2, none⟩ = some (.slice a3 j3 c3)) (go_keep)
    (first
    | (go_at_call 16; refine hc5.mono ?_; rintro e w5 ⟨l5, v5, at5, rfl, m5⟩; obtain ⟨k5, n5, a5, j5, c5, rfl⟩ := m5.is.shape; have hz5 : w4.heap.size ≤ w5.heap.size := m5.keep.size; have X5 := X4.drew.keep m5.keep (by omega); have y0 := X5.cell (j := 0) rfl; have y1 := X5.cell (j := 1) rfl; have y2 := X5.cell (j := 2) rfl; have i3 : In w5 (· < w5.heap.size) l3.lv (.agg #[.int .i64 k3, .int .i64 n3, .slice a3 j3 c3]) := (In.carry (fun b hb => (m5.keep.block b (show b < w4.heap.size by omega) (by omega)).trans (b4.block b hb.2)) (fun b hb => by omega) _ _ m3.is))
    | (go_at_call 26; refine (Imax_any l3 l5 w5 w5.heap.size _ _ (Nat.le_refl _) i3 (fresh_low m5.is)).mono ?_; rintro e w6 ⟨v6, rfl, i6, b6⟩; obtain ⟨k6, n6, a6, j6, c6, rfl⟩ := i6.shape; have R := (R4.drew.keep m5.keep (by omega)).below b6 (by omega); have q0 := R.cell (j := 0) rfl; have q1 := R.cell (j := 1) rfl; have q2 := R.cell (j := 2) rfl; have f0 := R.frozen 0; have f1 := R.frozen 1; have f2 := R.frozen 2; have z0 := (X5.below b6 (by omega)).cell (j := 0) rfl; have z1 := (X5.below b6 (by omega)).cell (j := 1) rfl; have z2 := (X5.below b6 (by omega)).cell (j := 2) rfl))
  go_wp2_with fail
  obtain ⟨Q3, _⟩ := st3 R (.int .i64 k6) (.int .i64 n6) (.slice a6 j6 c6)
  have c0 := Q3.cell (j := 0) rfl
  have c1 := Q3.cell (j := 1) rfl
  have c2 := Q3.cell (j := 2) rfl
  have hlm := lm_end (at_ := at_) (p := p) (((((((Keep.of_below (S := (· = g)) hb1 (Nat.le_refl _)).trans K2 (fun _ _ h => h)).trans m3.keep (fun _ _ h => h)).low b4 (by omega)).drew).trans m5.keep (fun _ _ h => h)).low b6 (by omega)) hgl R (i6.mono (fun b hb => ⟨by omega, hb.2⟩)) (m5.picks.below b6 (by omega)) ⟨m3.low, m5.low⟩ (by have := m3.from_; have := m5.from_; omega) m5.upto
  exact bodyPost_ret (v := .agg #[.int .i64 k6, .int .i64 n6, .slice a6 j6 c6]) (by simp [results, Tryd.results16, go_sem, c0, c1, c2]) rfl ⟨_, _, _, rfl, hlm⟩

set_option maxRecDepth 100000 in
set_option maxHeartbeats 1000000 in
theorem level_par4 (g : Nat) (a : Option Addr) (n cap : Nat) (bs : List Nat) (p : Nat) (at_ : Nat) (ha : at_ ≤ n) (h0 : nxt bs at_ 6 = 4) (hp : 1 ≤ p) (hp1 : p ≤ 1000) : LevAt g a n cap bs p at_ := by
  intro w B hg hb hB
  have hgl := hg.lt
  have hbl := hb.len
  have hlt : at_ < n := by
    by_cases h : at_ < n
    · exact h
    · rw [nxt_end (by omega)] at h0; omega
  obtain ⟨w1, hw1, hb1, R1, hs1⟩ := one_new w [.int .i64 0, .int .i64 0, .slice none 0 0] 24
  have hn := next_any g a n cap bs at_ 6 w1 B (hg.below hb1 hgl) (hb.below hb1 (by omega)) (by omega) (by omega) ha hB
  rw [h0] at hn
  rw [if_pos hlt] at hn
  go_enter Tryd.func16, Tryd.ntmps16
  go_wp2_with (first
    | (go_at_call 39; refine hn.mono ?_; rintro e w2 ⟨rfl, K2, G2⟩; have hz2 := K2.size; have hbw2 := (hb.below hb1 (by omega)).below (K2.below (B := B) (by omega) (by omega)) (Nat.le_refl _); have hn2 := next_any g a n cap bs (at_ + 1) p w2 B G2 hbw2 hp hp1 (by omega) hB; clear hn)
    | (go_at_call 39; go_must (refine hn2.mono ?_); rintro e w3 ⟨rfl, K3, G3⟩; have hz3 := K3.size; have hlp := nxt_lt bs (at_ + 1) hp)
    | (go_at_call 31; go_must (refine (Param_any (nxt bs (at_ + 1) p) (by omega) w3).mono ?_); rintro e w4 ⟨v4, rfl, i4, b4⟩; obtain ⟨k4, n4, a4, j4, c4, rfl⟩ := i4.shape; have R := ((R1.keep K2 (by omega)).keep K3 (by omega)).below b4 (by omega); have q0 := R.cell (j := 0) rfl; have q1 := R.cell (j := 1) rfl; have q2 := R.cell (j := 2) rfl; have f0 := R.frozen 0; have f1 := R.frozen 1; have f2 := R.frozen 2))
  obtain ⟨Q3, _⟩ := st3 R (.int .i64 k4) (.int .i64 n4) (.slice a4 j4 c4)
  have c0 := Q3.cell (j := 0) rfl
  have c1 := Q3.cell (j := 1) rfl
  have c2 := Q3.cell (j := 2) rfl
  have hlm := lm_end (at_ := at_) (p := p) ((((Keep.of_below (S := (· = g)) hb1 (Nat.le_refl _)).trans K2 (fun _ _ h => h)).trans K3 (fun _ _ h => h)).low b4 (by omega)) hgl R (i4.mono (fun b hb => ⟨by omega, hb.2⟩)) (G3.below b4 (by omega)) hlp (by split <;> omega) (by split <;> omega)
  exact bodyPost_ret (v := .agg #[.int .i64 k4, .int .i64 n4, .slice a4 j4 c4]) (by simp [results, Tryd.results16, go_sem, c0, c1, c2]) rfl ⟨_, _, _, rfl, hlm⟩

set_option maxRecDepth 100000 in
set_option maxHeartbeats 1000000 in
theorem level_par5 (g : Nat) (a : Option Addr) (n cap : Nat) (bs : List Nat) (p : Nat) (at_ : Nat) (ha : at_ ≤ n) (h0 : nxt bs at_ 6 = 5) (hp : 1 ≤ p) (hp1 : p ≤ 1000) : LevAt g a n cap bs p at_ := by
  intro w B hg hb hB
  have hgl := hg.lt
  have hbl := hb.len
  have hlt : at_ < n := by
    by_cases h : at_ < n
    · exact h
    · rw [nxt_end (by omega)] at h0; omega
  obtain ⟨w1, hw1, hb1, R1, hs1⟩ := one_new w [.int .i64 0, .int .i64 0, .slice none 0 0] 24
  have hn := next_any g a n cap bs at_ 6 w1 B (hg.below hb1 hgl) (hb.below hb1 (by omega)) (by omega) (by omega) ha hB
  rw [h0] at hn
  rw [if_pos hlt] at hn
  go_enter Tryd.func16, Tryd.ntmps16
  go_wp2_with (first
    | (go_at_call 39; refine hn.mono ?_; rintro e w2 ⟨rfl, K2, G2⟩; have hz2 := K2.size; have hbw2 := (hb.below hb1 (by omega)).below (K2.below (B := B) (by omega) (by omega)) (Nat.le_refl _); have hn2 := next_any g a n cap bs (at_ + 1) p w2 B G2 hbw2 hp hp1 (by omega) hB; clear hn)
    | (go_at_call 39; go_must (refine hn2.mono ?_); rintro e w3 ⟨rfl, K3, G3⟩; have hz3 := K3.size; have hlp := nxt_lt bs (at_ + 1) hp)
    | (go_at_call 31; go_must (refine (Param_any (nxt bs (at_ + 1) p) (by omega) w3).mono ?_); rintro e w4 ⟨v4, rfl, i4, b4⟩; obtain ⟨k4, n4, a4, j4, c4, rfl⟩ := i4.shape; have R := ((R1.keep K2 (by omega)).keep K3 (by omega)).below b4 (by omega); have q0 := R.cell (j := 0) rfl; have q1 := R.cell (j := 1) rfl; have q2 := R.cell (j := 2) rfl; have f0 := R.frozen 0; have f1 := R.frozen 1; have f2 := R.frozen 2))
  obtain ⟨Q3, _⟩ := st3 R (.int .i64 k4) (.int .i64 n4) (.slice a4 j4 c4)
  have c0 := Q3.cell (j := 0) rfl
  have c1 := Q3.cell (j := 1) rfl
  have c2 := Q3.cell (j := 2) rfl
  have hlm := lm_end (at_ := at_) (p := p) ((((Keep.of_below (S := (· = g)) hb1 (Nat.le_refl _)).trans K2 (fun _ _ h => h)).trans K3 (fun _ _ h => h)).low b4 (by omega)) hgl R (i4.mono (fun b hb => ⟨by omega, hb.2⟩)) (G3.below b4 (by omega)) hlp (by split <;> omega) (by split <;> omega)
  exact bodyPost_ret (v := .agg #[.int .i64 k4, .int .i64 n4, .slice a4 j4 c4]) (by simp [results, Tryd.results16, go_sem, c0, c1, c2]) rfl ⟨_, _, _, rfl, hlm⟩

theorem level_any (g : Nat) (a : Option Addr) (n cap : Nat) (bs : List Nat) (p : Nat) (hp : 1 ≤ p) (hp1 : p ≤ 1000) (m : Nat) : ∀ at_, at_ ≤ n → n - at_ ≤ m → LevAt g a n cap bs p at_ := by
  induction m with
  | zero =>
    intro at_ ha hm w B hg hb hB
    exact level_zero g a n cap bs p at_ ha (nxt_end (by rw [hb.len]; omega)) w B hg hb hB
  | succ m ih =>
    intro at_ ha hm
    have h6 := nxt_lt bs at_ (m := 6) (by decide)
    have ih' : ∀ at', at_ < at' → at' ≤ n → LevAt g a n cap bs p at' := fun at' h1 h2 => ih at' h2 (by omega)
    have hcs : nxt bs at_ 6 = 0 ∨ nxt bs at_ 6 = 1 ∨ nxt bs at_ 6 = 2 ∨ nxt bs at_ 6 = 3 ∨ nxt bs at_ 6 = 4 ∨ nxt bs at_ 6 = 5 := by omega
    rcases hcs with h | h | h | h | h | h
    · exact level_zero g a n cap bs p at_ ha h
    · exact level_succ g a n cap bs p at_ ha h ih'
    · exact level_max g a n cap bs p at_ ha h ih'
    · exact level_imax g a n cap bs p at_ ha h ih'
    · exact level_par4 g a n cap bs p at_ ha h hp hp1
    · exact level_par5 g a n cap bs p at_ ha h hp hp1
end Go.Proofs.YtogfmpjgmabomaaDoor
