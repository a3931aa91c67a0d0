/- The walks of term's root, hasKind and arg. No condition but that the part lies in memory, and that the tables hold what the program's text lays. -/
import Derived.Test.YtekdalbhgdkckaaGreatDoorProg
import Derived.Test.YtekdalbhgdkckaaGreatDoorTm
import Derived.Deep.RegionHeld3
namespace Go.Proofs.YtekdalbhgdkckaaGreatDoor
open Go.RowKit

/-- How many Args a kind of term has. -/
def tcnt (k : Int) : Int := if k = 0 ∨ k = 1 ∨ k = 2 then 0 else if k = 3 ∨ k = 4 ∨ k = 5 then 2 else if k = 6 then 3 else -1

/-- Which of the Args stands below the binder. -/
def bdA (k : Int) : Int := if k = 4 ∨ k = 5 then 1 else if k = 6 then 2 else 0

/-- The tables hold what the program's text lays. -/
structure Tabs (w : World) : Prop where
  targs : ∀ i, i < 7 → w.cell? ⟨0, i, none⟩ = some (.int .i64 (tcnt (i : Int)))
  binds : ∀ i, i < 7 → w.cell? ⟨1, i, none⟩ = some (.int .i64 (bdA (i : Int)))
  counts : ∀ i, i < 5 → w.cell? ⟨3, i, none⟩ = some (.int .i64 (cnt (i : Int)))
  lt : 5 ≤ w.heap.size

theorem Tabs.carry {w w' : World} (h : Tabs w) (hb : ∀ k, k < 5 → w'.heap[k]? = w.heap[k]?) : Tabs w' :=
  ⟨fun i hi => (World.cell?_of_block (hb 0 (by omega))).trans (h.targs i hi), fun i hi => (World.cell?_of_block (hb 1 (by omega))).trans (h.binds i hi), fun i hi => (World.cell?_of_block (hb 3 (by omega))).trans (h.counts i hi), by
    have h4 := hb 4 (by omega)
    rw [Array.getElem?_eq_getElem (show 4 < w.heap.size by have := h.lt; omega)] at h4
    have := (Array.getElem?_eq_some_iff.1 h4).1
    omega⟩

theorem Tabs.below {B : Nat} {w w' : World} (h : Tabs w) (hb : Below B w w') (hB : 5 ≤ B) : Tabs w' := h.carry (fun k hk => hb.block k (by omega))

theorem Tabs.on {w w' : World} (h : Tabs w) (hb : Below w.heap.size w w') : Tabs w' := h.below hb h.lt

theorem Tabs.alloc {w : World} (h : Tabs w) (o : Obj) : Tabs (w.alloc o) := h.on ((Below.refl _ _).alloc (Nat.le_refl _) o)

theorem Tabs.keepS {w w' : World} {S : Nat → Prop} (h : Tabs w) (hk : Keep w w' S) (hS : ∀ k, S k → 5 ≤ k) : Tabs w' :=
  h.carry (fun k hk' => hk.block k (by have := h.lt; omega) (fun s => by have := hS k s; omega))

theorem Tabs.keep {w w' : World} {g : Nat} (h : Tabs w) (hk : Keep w w' (· = g)) (hg : 5 ≤ g) : Tabs w' := h.keepS hk (fun k e => by omega)

theorem kcell {W w1 : World} {g : Nat} (hk : Keep W w1 (· = g)) : ∀ b o, b < W.heap.size → b ≠ g → w1.cell? ⟨b, o, none⟩ = W.cell? ⟨b, o, none⟩ := fun b _ h hn =>
  World.cell?_of_block (w := W) (hk.block b h hn)

theorem bel_drew {B : Nat} {a w : World} (h : Below B a w) : Below B a w.drew := h.trans ⟨rfl, rfl, rfl, Nat.le_refl _, fun _ _ => rfl⟩

theorem below_alloc (w : World) (o : Obj) : Below w.heap.size w (w.alloc o) := (Below.refl _ _).alloc (Nat.le_refl _) o

/-- Two blocks made, one behind the other. -/
theorem two_new (w : World) (l l' : List Value) (t t' : TypeId) : ∃ w1, (w.alloc (.cells l.toArray t)).alloc (.cells l'.toArray t') = w1 ∧ Below w.heap.size w w1 ∧ Blk w1 w.heap.size t l ∧ Blk w1 (w.heap.size + 1) t' l' ∧ w1.heap.size = w.heap.size + 2 := by
  refine ⟨_, rfl, ((Below.refl _ _).alloc (Nat.le_refl _) _).alloc (by simp) _, (Blk.new _ _ _).alloc _, ?_, by simp⟩
  have := Blk.new (w.alloc (.cells l.toArray t)) t' l'
  simpa using this

set_option maxRecDepth 100000 in
theorem root_any (b off : Nat) (w : World) : Calls Tryz.prog 120 #[.pointer (some ⟨b, off, none⟩)] w fun e w' => e = .returned (.agg #[.pointer (some ⟨b, off, none⟩), .int .i64 1, .int .i64 0]) ∧ Below w.heap.size w w' := by
  go_enter Tryz.func120, Tryz.ntmps120
  go_wp2
  exact bodyPost_ret (v := .agg #[.pointer (some ⟨b, off, none⟩), .int .i64 1, .int .i64 0]) (by simp [results, Tryz.results120, go_sem]) rfl ⟨rfl, below_alloc _ _⟩

set_option maxRecDepth 100000 in
theorem hasKind_any (b off : Nat) (d m k : Int) (w : World) (h0 : w.cell? ⟨b, off, none⟩ = some (.int .i64 k)) :
    Calls Tryz.prog 122 #[.agg #[.pointer (some ⟨b, off, none⟩), .int .i64 d, .int .i64 m]] w fun e w' => e = .returned (.bool (decide (0 ≤ k ∧ k < 7))) ∧ Below w.heap.size w w' := by
  have hlt : b < w.heap.size := World.block_lt_of_cell? w _ h0
  have h0' : (w.alloc (.cells #[.pointer (some ⟨b, off, none⟩), .int .i64 d, .int .i64 m] 178)).cell? ⟨b, off, none⟩ = some (.int .i64 k) := by
    rw [World.cell?_of_block (w := w) (Below.heap_alloc w _ b hlt)]; exact h0
  by_cases hk : 0 ≤ k
  · have hd : decide (0 ≤ k) = true := by simpa using hk
    go_enter Tryz.func122, Tryz.ntmps122
    go_wp2_with fail
    go_ret
    exact ⟨ret_bool (by simp [hk]), below_alloc _ _⟩
  · have hd : decide (0 ≤ k) = false := by simpa using hk
    go_enter Tryz.func122, Tryz.ntmps122
    go_wp2_with fail
    go_ret
    exact ⟨ret_bool (by simp), below_alloc _ _⟩

/-- Three cells written over. -/
theorem st3 {w : World} {g : Nat} {t : TypeId} {x y z : Value} (h : Blk w g t [x, y, z]) (a b c : Value) : Blk (((w.setCell ⟨g, 0, none⟩ a).setCell ⟨g, 1, none⟩ b).setCell ⟨g, 2, none⟩ c) g t [a, b, c] ∧ Keep w (((w.setCell ⟨g, 0, none⟩ a).setCell ⟨g, 1, none⟩ b).setCell ⟨g, 2, none⟩ c) (· = g) :=
  ⟨((h.set 0 a).set 1 b).set 2 c, (((Keep.refl w (· = g)).setCell (g := g) (fun _ => rfl) 0 a).setCell (g := g) (fun _ => rfl) 1 b).setCell (g := g) (fun _ => rfl) 2 c⟩

theorem bdA_bnd {k : Int} (h0 : 0 ≤ k) (h7 : k < 7) (i : Nat) (hi : 0 < i) : ((i : Int) == bdA k) = decide (bnd k i = 1) := by
  unfold bdA bnd
  by_cases h4 : k = 4 ∨ k = 5
  · rw [if_pos h4]
    by_cases h1 : i = 1
    · subst h1; simp [h4]
    · have : ¬ ((k = 4 ∨ k = 5) ∧ i = 1 ∨ k = 6 ∧ i = 2) := by omega
      rw [if_neg this]; simp; omega
  · rw [if_neg h4]
    by_cases h6 : k = 6
    · rw [if_pos h6]
      by_cases h2 : i = 2
      · subst h2; simp [h6]
      · have : ¬ ((k = 4 ∨ k = 5) ∧ i = 1 ∨ k = 6 ∧ i = 2) := by omega
        rw [if_neg this]; simp; omega
    · rw [if_neg h6]
      have : ¬ ((k = 4 ∨ k = 5) ∧ i = 1 ∨ k = 6 ∧ i = 2) := by omega
      rw [if_neg this]; simp; omega

theorem bnd_out {k : Int} (h : ¬ (0 ≤ k ∧ k < 7)) (i : Nat) : bnd k i = 0 := by unfold bnd; rw [if_neg (by omega)]

theorem bnd_zero (k : Int) : bnd k 0 = 0 := by unfold bnd; rw [if_neg (by omega)]

set_option maxRecDepth 100000 in
theorem arg_any (p : Pt) (i : Nat) (T : Tr) (w : World) (S : Nat → Prop) (hT : Tabs w) (hc : TCells w p.b p.off p.t) (hin : TIn w S p.t) (hi : p.t.args[i]? = some T) (hd : p.d ≤ 1073741824) (hm : p.m ≤ 1073741824) :
    Calls Tryz.prog 121 #[p.val, .int .i64 (i : Int)] w fun e w' => e = .returned (p.kid i T).val ∧ Below w.heap.size w w' := by
  have hN := tin_iff.1 hin
  have ha := (hin.get hi).1
  have hlt : i < p.t.args.length := (List.getElem?_eq_some_iff.1 hi).1
  have hle := hN.le
  have hmx := hN.max
  have hk0 := hN.k0
  have hk1 := hN.k1
  obtain ⟨b, off, t, d, m⟩ := p
  simp only at *
  have c0 := hc.c0
  have c4 := hc.c4
  have hlb := hc.lt
  rw [ha] at c4
  unfold Pt.val Pt.kid
  simp only
  generalize t.k = k at *
  generalize t.args.length = len at *
  generalize t.c = cap at *
  generalize t.b = tb at *
  generalize t.off = toff at *
  obtain ⟨w1, hw1, hb1, P1, Q1, hs1⟩ := two_new w [.pointer (some ⟨b, off, none⟩), .int .i64 (d : Int), .int .i64 (m : Int)] [.pointer none, .int .i64 0, .int .i64 0] 178 178
  have p0 := P1.cell (j := 0) rfl
  have p1 := P1.cell (j := 1) rfl
  have p2 := P1.cell (j := 2) rfl
  have C0 : w1.cell? ⟨b, off, none⟩ = some (.int .i64 k) := ((bcell hb1).1 b off hlb).trans c0
  have C4 : w1.cell? ⟨b, off + 4, none⟩ = some (.slice (some ⟨tb, toff, none⟩) len cap) := ((bcell hb1).1 b _ hlb).trans c4
  have T1 := hT.on hb1
  clear hc hin hN hi ha hT
  have fin : ∀ (w2 : World) (r : Int), Below w1.heap.size w1 w2 → Below w.heap.size w (((w2.setCell ⟨w.heap.size + 1, 0, none⟩ (.pointer (some ⟨tb, toff + i * 5, none⟩))).setCell ⟨w.heap.size + 1, 1, none⟩ (.int .i64 ((d : Int) + 1))).setCell ⟨w.heap.size + 1, 2, none⟩ (.int .i64 r)) := fun w2 r hb2 =>
    (((hb1.trans (hb2.mono (by omega))).setCell (p := ⟨w.heap.size + 1, 0, none⟩) (by simp) _).setCell (p := ⟨w.heap.size + 1, 1, none⟩) (by simp) _).setCell (p := ⟨w.heap.size + 1, 2, none⟩) (by simp) _
  by_cases hpos : 0 < i
  · have hpd : decide ((0 : Int) < (i : Int)) = true := by simp; omega
    by_cases hkk : 0 ≤ k ∧ k < 7
    · have hkd : decide (0 ≤ k ∧ k < 7) = true := by simpa using hkk
      have hb := bdA_bnd hkk.1 hkk.2 i hpos
      obtain ⟨j, rfl⟩ : ∃ j : Nat, k = j := ⟨k.toNat, by omega⟩
      have B1 := T1.binds j (by omega)
      by_cases hbd : bnd (j : Int) i = 1
      · rw [hbd]
        have hbt : ((i : Int) == bdA (j : Int)) = true := by rw [hb]; simpa using hbd
        clear hb hbd
        go_enter Tryz.func121, Tryz.ntmps121
        go_wp2_with (go_at_call 122; refine (hasKind_any b off d m j w1 C0).mono ?_; rintro e w2 ⟨rfl, hb2⟩; have P2 := P1.below hb2 P1.lt; have Q2 := Q1.below hb2 Q1.lt; have p0' := P2.cell (j := 0) rfl; have p1' := P2.cell (j := 1) rfl; have p2' := P2.cell (j := 2) rfl; have q0 := Q2.cell (j := 0) rfl; have q1 := Q2.cell (j := 1) rfl; have q2 := Q2.cell (j := 2) rfl; have f0 := Q2.frozen 0; have f1 := Q2.frozen 1; have f2 := Q2.frozen 2; have C0' := ((bcell hb2).1 b off (by omega)).trans C0; have C4' := ((bcell hb2).1 b (off + 4) (by omega)).trans C4; have B2 := ((bcell hb2).1 1 j (by omega)).trans B1)
        go_region
        go_wp2_with fail
        obtain ⟨Q3, _⟩ := st3 Q2 (.pointer (some ⟨tb, toff + i * 5, none⟩)) (.int .i64 ((d : Int) + 1)) (.int .i64 ((m : Int) + 1))
        have z0 := Q3.drew.cell (j := 0) rfl
        have z1 := Q3.drew.cell (j := 1) rfl
        have z2 := Q3.drew.cell (j := 2) rfl
        exact bodyPost_ret (v := .agg #[.pointer (some ⟨tb, toff + i * 5, none⟩), .int .i64 ((d : Int) + 1), .int .i64 ((m : Int) + 1)]) (by simp [results, Tryz.results121, go_sem, z0, z1, z2]) rfl ⟨by simp, bel_drew (fin w2 _ hb2)⟩
      · have hb0 : bnd (j : Int) i = 0 := by have := bnd_le (j : Int) i; omega
        have hbt : ((i : Int) == bdA (j : Int)) = false := by rw [hb]; simpa using hbd
        rw [hb0]
        clear hb hbd hb0
        go_enter Tryz.func121, Tryz.ntmps121
        go_wp2_with (go_at_call 122; refine (hasKind_any b off d m j w1 C0).mono ?_; rintro e w2 ⟨rfl, hb2⟩; have P2 := P1.below hb2 P1.lt; have Q2 := Q1.below hb2 Q1.lt; have p0' := P2.cell (j := 0) rfl; have p1' := P2.cell (j := 1) rfl; have p2' := P2.cell (j := 2) rfl; have q0 := Q2.cell (j := 0) rfl; have q1 := Q2.cell (j := 1) rfl; have q2 := Q2.cell (j := 2) rfl; have f0 := Q2.frozen 0; have f1 := Q2.frozen 1; have f2 := Q2.frozen 2; have C0' := ((bcell hb2).1 b off (by omega)).trans C0; have C4' := ((bcell hb2).1 b (off + 4) (by omega)).trans C4; have B2 := ((bcell hb2).1 1 j (by omega)).trans B1)
        go_region
        go_wp2_with fail
        obtain ⟨Q3, _⟩ := st3 Q2 (.pointer (some ⟨tb, toff + i * 5, none⟩)) (.int .i64 ((d : Int) + 1)) (.int .i64 (m : Int))
        have z0 := Q3.drew.cell (j := 0) rfl
        have z1 := Q3.drew.cell (j := 1) rfl
        have z2 := Q3.drew.cell (j := 2) rfl
        exact bodyPost_ret (v := .agg #[.pointer (some ⟨tb, toff + i * 5, none⟩), .int .i64 ((d : Int) + 1), .int .i64 (m : Int)]) (by simp [results, Tryz.results121, go_sem, z0, z1, z2]) rfl ⟨by simp, bel_drew (fin w2 _ hb2)⟩
    · have hkd : decide (0 ≤ k ∧ k < 7) = false := by simpa using hkk
      rw [bnd_out hkk]
      clear hkk
      go_enter Tryz.func121, Tryz.ntmps121
      go_wp2_with (go_at_call 122; refine (hasKind_any b off d m k w1 C0).mono ?_; rintro e w2 ⟨rfl, hb2⟩; have P2 := P1.below hb2 P1.lt; have Q2 := Q1.below hb2 Q1.lt; have p0' := P2.cell (j := 0) rfl; have p1' := P2.cell (j := 1) rfl; have p2' := P2.cell (j := 2) rfl; have q0 := Q2.cell (j := 0) rfl; have q1 := Q2.cell (j := 1) rfl; have q2 := Q2.cell (j := 2) rfl; have f0 := Q2.frozen 0; have f1 := Q2.frozen 1; have f2 := Q2.frozen 2; have C0' := ((bcell hb2).1 b off (by omega)).trans C0; have C4' := ((bcell hb2).1 b (off + 4) (by omega)).trans C4)
      go_region
      go_wp2_with fail
      obtain ⟨Q3, _⟩ := st3 Q2 (.pointer (some ⟨tb, toff + i * 5, none⟩)) (.int .i64 ((d : Int) + 1)) (.int .i64 (m : Int))
      have z0 := Q3.drew.cell (j := 0) rfl
      have z1 := Q3.drew.cell (j := 1) rfl
      have z2 := Q3.drew.cell (j := 2) rfl
      exact bodyPost_ret (v := .agg #[.pointer (some ⟨tb, toff + i * 5, none⟩), .int .i64 ((d : Int) + 1), .int .i64 (m : Int)]) (by simp [results, Tryz.results121, go_sem, z0, z1, z2]) rfl ⟨by simp, bel_drew (fin w2 _ hb2)⟩
  · obtain rfl : i = 0 := by omega
    rw [bnd_zero]
    have q0 := Q1.cell (j := 0) rfl
    have q1 := Q1.cell (j := 1) rfl
    have q2 := Q1.cell (j := 2) rfl
    have f0 := Q1.frozen 0
    have f1 := Q1.frozen 1
    have f2 := Q1.frozen 2
    have hf := fin w1 (m : Int) (Below.refl _ _)
    simp only [Nat.zero_mul, Nat.add_zero] at hf
    go_enter Tryz.func121, Tryz.ntmps121
    go_wp2_with fail
    go_region
    go_wp2_with fail
    obtain ⟨Q3, _⟩ := st3 Q1 (.pointer (some ⟨tb, toff, none⟩)) (.int .i64 ((d : Int) + 1)) (.int .i64 (m : Int))
    have z0 := Q3.drew.cell (j := 0) rfl
    have z1 := Q3.drew.cell (j := 1) rfl
    have z2 := Q3.drew.cell (j := 2) rfl
    exact bodyPost_ret (v := .agg #[.pointer (some ⟨tb, toff, none⟩), .int .i64 ((d : Int) + 1), .int .i64 (m : Int)]) (by simp [results, Tryz.results121, go_sem, z0, z1, z2]) rfl ⟨by simp, bel_drew hf⟩

end Go.Proofs.YtekdalbhgdkckaaGreatDoor
