/- The walks of term's doVar and doLeaf. No condition but that the job's part and place lie in memory, and on what the two functions that were handed in tell. -/
import Derived.Test.YtbmijpjmdpdfkaaDoorMk5
namespace Go.Proofs.YtbmijpjmdpdfkaaDoor
open Go.RowKit

/-- A place for a term: five cells that may be written. -/
def Hole (w : World) (b off : Nat) : Prop := ∃ cs t, w.heap[b]? = some (.cells cs t (0, 0)) ∧ off + 5 ≤ cs.size
theorem Hole.lt {w : World} {b off : Nat} (h : Hole w b off) : b < w.heap.size := by obtain ⟨cs, t, h, _⟩ := h; exact (Array.getElem?_eq_some_iff.1 h).1
theorem Hole.cell {w : World} {b off : Nat} (h : Hole w b off) {i : Nat} (hi : i < 5) : ∃ v, w.cell? ⟨b, off + i, none⟩ = some v := by
  obtain ⟨cs, t, h, hs⟩ := h
  rw [cell_of_row w b (off + i) cs t (0, 0) h]
  exact ⟨_, Array.getElem?_eq_getElem (by omega)⟩
theorem Hole.frozen {w : World} {b off : Nat} (h : Hole w b off) (i : Nat) : w.frozen? ⟨b, i, none⟩ = false := by
  obtain ⟨cs, t, h, _⟩ := h
  simp [World.frozen?, h]
theorem Hole.carry {w w' : World} {b off : Nat} (h : Hole w b off) (hb : w'.heap[b]? = w.heap[b]?) : Hole w' b off := by
  obtain ⟨cs, t, h, hs⟩ := h
  exact ⟨cs, t, hb.trans h, hs⟩
theorem Hole.on {w w' : World} {b off : Nat} (h : Hole w b off) (hb : Below w.heap.size w w') : Hole w' b off := h.carry (hb.block _ h.lt)

/-- The world with a term written to a place. -/
def put5 (w : World) (b off : Nat) (a0 a1 a2 a3 a4 : Value) : World := ((((w.setCell ⟨b, off, none⟩ a0).setCell ⟨b, off + 1, none⟩ a1).setCell ⟨b, off + 2, none⟩ a2).setCell ⟨b, off + 3, none⟩ a3).setCell ⟨b, off + 4, none⟩ a4

set_option maxRecDepth 100000 in
set_option maxHeartbeats 1000000 in
theorem doLeaf_any (R : World → World → Option Addr → Nat → Nat → Prop) (gu : Nat) (fv jobs : Value) (p : Pt) (tb toff : Nat) (w : World) (hu : Blk w gu 71 [fv, .func (.func 44) #[] #[], jobs]) (hc : TCells w p.b p.off p.t) (hh : Hole w tb toff) (n1 : tb ≠ p.b) (n2 : tb ≠ gu)
    (hcop : ∀ w', Below w.heap.size w w' → Calls Tryd.prog 44 #[.slice p.t.la p.t.ls.length p.t.lc] w' fun e w'' => ∃ oa ol oc, e = .returned (.slice oa ol oc) ∧ R w' w'' oa ol oc ∧ Below w'.heap.size w' w'') :
    Calls Tryd.prog 78 #[.pointer (some ⟨gu, 0, none⟩), .agg #[.pointer (some ⟨p.b, p.off, none⟩), .int .i64 (p.d : Int), .int .i64 (p.m : Int), .pointer (some ⟨tb, toff, none⟩)]] w fun e w' => e = .returned (.tuple #[]) ∧
      ∃ w1 w2 oa ol oc, Below w.heap.size w w1 ∧ R w1 w2 oa ol oc ∧ Below w1.heap.size w1 w2 ∧ w' = put5 w2 tb toff (.int .i64 p.t.k) (.int .i64 p.t.n) (.string p.t.s) (.slice oa ol oc) (.slice none 0 0) := by
  obtain ⟨b, off, t, d, m⟩ := p
  simp only at *
  have hlb := hc.lt
  have hlh := hh.lt
  have hlu := hu.lt
  have n3 : tb ≠ w.heap.size := by omega
  have n4 : w.heap.size ≠ tb := by omega
  have n5 : b ≠ tb := fun e => n1 e.symm
  have n6 : gu ≠ tb := fun e => n2 e.symm
  obtain ⟨w1, hw1, hb1, X1, hs1⟩ := one_new w [.pointer (some ⟨b, off, none⟩), .int .i64 (d : Int), .int .i64 (m : Int), .pointer (some ⟨tb, toff, none⟩)] 114
  have C := hc.on hb1
  have c0 := C.c0
  have c1 := C.c1
  have c2 := C.c2
  have c3 := C.c3
  have U1 := hu.below hb1 hlu
  have u0 := U1.cell (j := 0) rfl
  have u1 := U1.cell (j := 1) rfl
  have u2 := U1.cell (j := 2) rfl
  have x0 := X1.cell (j := 0) rfl
  have x1 := X1.cell (j := 1) rfl
  have x2 := X1.cell (j := 2) rfl
  have x3 := X1.cell (j := 3) rfl
  have hcall := hcop w1.drew (Below.trans hb1 (Below.refl _ _).drew)
  generalize t.k = k at *
  generalize t.n = n at *
  generalize t.s = s at *
  generalize t.la = la at *
  generalize t.lc = lc at *
  generalize t.ls.length = ll at *
  go_enter Tryd.func78, Tryd.ntmps78
  go_wp2_with fail
  go_region_held3 (fun w' => w'.cell? ⟨w.heap.size, 0, none⟩ = some (.pointer (some ⟨b, off, none⟩)) ∧ w'.cell? ⟨w.heap.size, 3, none⟩ = some (.pointer (some ⟨tb, toff, none⟩)) ∧ w'.cell? ⟨b, off, none⟩ = some (.int .i64 k) ∧ w'.cell? ⟨b, off + 1, none⟩ = some (.int .i64 n) ∧ w'.cell? ⟨b, off + 2, none⟩ = some (.string s) ∧ w'.cell? ⟨b, off + 3, none⟩ = some (.slice la ll lc) ∧ w'.cell? ⟨gu, 1, none⟩ = some (.func (.func 44) #[] #[])) (go_keep)
    ((go_at_call 44; refine hcall.mono ?_; rintro e w2 ⟨oa, ol, oc, rfl, hR, hb2'⟩; have hb2 : Below w1.heap.size w1 w2 := Below.trans (Below.refl _ _).drew hb2'; have H2 := (hh.on hb1).on hb2; obtain ⟨h0, e0⟩ := H2.cell (i := 0) (by omega); rw [Nat.add_zero] at e0; obtain ⟨h1, e1⟩ := H2.cell (i := 1) (by omega); obtain ⟨h2, e2⟩ := H2.cell (i := 2) (by omega); obtain ⟨h3, e3⟩ := H2.cell (i := 3) (by omega); obtain ⟨h4, e4⟩ := H2.cell (i := 4) (by omega); have g0 := H2.frozen toff; have g1 := H2.frozen (toff + 1); have g2 := H2.frozen (toff + 2); have g3 := H2.frozen (toff + 3); have g4 := H2.frozen (toff + 4); have X2 := X1.below hb2 X1.lt; have y0 := X2.cell (j := 0) rfl; have y3 := X2.cell (j := 3) rfl; have d0 := ((bcell hb2).1 b off (by omega)).trans c0; have d1 := ((bcell hb2).1 b (off + 1) (by omega)).trans c1; have d2 := ((bcell hb2).1 b (off + 2) (by omega)).trans c2; have d3 := ((bcell hb2).1 b (off + 3) (by omega)).trans c3; have U2 := U1.below hb2 U1.lt; have v1 := U2.cell (j := 1) rfl))
  go_wp2_with fail
  go_end0
  exact ⟨rfl, w1.drew, w2, oa, ol, oc, Below.trans hb1 (Below.refl _ _).drew, hR, hb2', rfl⟩

set_option maxRecDepth 100000 in
set_option maxHeartbeats 1000000 in
theorem doVar43_any (R : World → World → Int → Int → ByteArray → Option Addr → Nat → Nat → Option Addr → Nat → Nat → Prop) (recv : Value) (gu : Nat) (lf jobs : Value) (p : Pt) (tb toff : Nat) (w : World) (hu : Blk w gu 71 [.func (.func 43) #[recv] #[], lf, jobs]) (hh : Hole w tb toff) (n2 : tb ≠ gu)
    (hv : ∀ w', Below w.heap.size w w' → Calls Tryd.prog 43 #[recv, p.val] w' fun e w'' => ∃ k n s la ll lc a al ac, e = .returned (.agg #[.int .i64 k, .int .i64 n, .string s, .slice la ll lc, .slice a al ac]) ∧ R w' w'' k n s la ll lc a al ac ∧ Below w'.heap.size w' w'') :
    Calls Tryd.prog 77 #[.pointer (some ⟨gu, 0, none⟩), .agg #[.pointer (some ⟨p.b, p.off, none⟩), .int .i64 (p.d : Int), .int .i64 (p.m : Int), .pointer (some ⟨tb, toff, none⟩)]] w fun e w' => e = .returned (.tuple #[]) ∧
      ∃ w1 w2 k n s la ll lc a al ac, Below w.heap.size w w1 ∧ R w1 w2 k n s la ll lc a al ac ∧ Below w1.heap.size w1 w2 ∧ w' = put5 w2 tb toff (.int .i64 k) (.int .i64 n) (.string s) (.slice la ll lc) (.slice a al ac) := by
  obtain ⟨b, off, t, d, m⟩ := p
  simp only [Pt.val] at *
  have hlh := hh.lt
  have hlu := hu.lt
  have n3 : tb ≠ w.heap.size := by omega
  have n4 : w.heap.size ≠ tb := by omega
  have n6 : gu ≠ tb := fun e => n2 e.symm
  obtain ⟨w1, hw1, hb1, X1, hs1⟩ := one_new w [.pointer (some ⟨b, off, none⟩), .int .i64 (d : Int), .int .i64 (m : Int), .pointer (some ⟨tb, toff, none⟩)] 114
  have U1 := hu.below hb1 hlu
  have u0 := U1.cell (j := 0) rfl
  have u1 := U1.cell (j := 1) rfl
  have u2 := U1.cell (j := 2) rfl
  have x0 := X1.cell (j := 0) rfl
  have x1 := X1.cell (j := 1) rfl
  have x2 := X1.cell (j := 2) rfl
  have x3 := X1.cell (j := 3) rfl
  have hcall := hv w1.drew (Below.trans hb1 (Below.refl _ _).drew)
  go_enter Tryd.func77, Tryd.ntmps77
  go_wp2_with fail
  go_region_held3 (fun w' => w'.cell? ⟨w.heap.size, 0, none⟩ = some (.pointer (some ⟨b, off, none⟩)) ∧ w'.cell? ⟨w.heap.size, 1, none⟩ = some (.int .i64 (d : Int)) ∧ w'.cell? ⟨w.heap.size, 2, none⟩ = some (.int .i64 (m : Int)) ∧ w'.cell? ⟨w.heap.size, 3, none⟩ = some (.pointer (some ⟨tb, toff, none⟩)) ∧ w'.cell? ⟨gu, 0, none⟩ = some (.func (.func 43) #[recv] #[])) (go_keep)
    ((go_at_call 43; refine hcall.mono ?_; rintro e w2 ⟨rk, rn, rs, rla, rll, rlc, ra, ral, rac, rfl, hR, hb2'⟩; have hb2 : Below w1.heap.size w1 w2 := Below.trans (Below.refl _ _).drew hb2'; have H2 := (hh.on hb1).on hb2; obtain ⟨h0, e0⟩ := H2.cell (i := 0) (by omega); rw [Nat.add_zero] at e0; obtain ⟨h1, e1⟩ := H2.cell (i := 1) (by omega); obtain ⟨h2, e2⟩ := H2.cell (i := 2) (by omega); obtain ⟨h3, e3⟩ := H2.cell (i := 3) (by omega); obtain ⟨h4, e4⟩ := H2.cell (i := 4) (by omega); have g0 := H2.frozen toff; have g1 := H2.frozen (toff + 1); have g2 := H2.frozen (toff + 2); have g3 := H2.frozen (toff + 3); have g4 := H2.frozen (toff + 4); have X2 := X1.below hb2 X1.lt; have y0 := X2.cell (j := 0) rfl; have y1 := X2.cell (j := 1) rfl; have y2 := X2.cell (j := 2) rfl; have y3 := X2.cell (j := 3) rfl; have U2 := U1.below hb2 U1.lt; have z0 := U2.cell (j := 0) rfl))
  go_wp2_with fail
  go_end0
  exact ⟨rfl, w1.drew, w2, rk, rn, rs, rla, rll, rlc, ra, ral, rac, Below.trans hb1 (Below.refl _ _).drew, hR, hb2', rfl⟩

set_option maxRecDepth 100000 in
set_option maxHeartbeats 1000000 in
theorem doVar49_any (R : World → World → Int → Int → ByteArray → Option Addr → Nat → Nat → Option Addr → Nat → Nat → Prop) (recv : Value) (gu : Nat) (lf jobs : Value) (p : Pt) (tb toff : Nat) (w : World) (hu : Blk w gu 71 [.func (.func 49) #[recv] #[], lf, jobs]) (hh : Hole w tb toff) (n2 : tb ≠ gu)
    (hv : ∀ w', Below w.heap.size w w' → Calls Tryd.prog 49 #[recv, p.val] w' fun e w'' => ∃ k n s la ll lc a al ac, e = .returned (.agg #[.int .i64 k, .int .i64 n, .string s, .slice la ll lc, .slice a al ac]) ∧ R w' w'' k n s la ll lc a al ac ∧ Below w'.heap.size w' w'') :
    Calls Tryd.prog 77 #[.pointer (some ⟨gu, 0, none⟩), .agg #[.pointer (some ⟨p.b, p.off, none⟩), .int .i64 (p.d : Int), .int .i64 (p.m : Int), .pointer (some ⟨tb, toff, none⟩)]] w fun e w' => e = .returned (.tuple #[]) ∧
      ∃ w1 w2 k n s la ll lc a al ac, Below w.heap.size w w1 ∧ R w1 w2 k n s la ll lc a al ac ∧ Below w1.heap.size w1 w2 ∧ w' = put5 w2 tb toff (.int .i64 k) (.int .i64 n) (.string s) (.slice la ll lc) (.slice a al ac) := by
  obtain ⟨b, off, t, d, m⟩ := p
  simp only [Pt.val] at *
  have hlh := hh.lt
  have hlu := hu.lt
  have n3 : tb ≠ w.heap.size := by omega
  have n4 : w.heap.size ≠ tb := by omega
  have n6 : gu ≠ tb := fun e => n2 e.symm
  obtain ⟨w1, hw1, hb1, X1, hs1⟩ := one_new w [.pointer (some ⟨b, off, none⟩), .int .i64 (d : Int), .int .i64 (m : Int), .pointer (some ⟨tb, toff, none⟩)] 114
  have U1 := hu.below hb1 hlu
  have u0 := U1.cell (j := 0) rfl
  have u1 := U1.cell (j := 1) rfl
  have u2 := U1.cell (j := 2) rfl
  have x0 := X1.cell (j := 0) rfl
  have x1 := X1.cell (j := 1) rfl
  have x2 := X1.cell (j := 2) rfl
  have x3 := X1.cell (j := 3) rfl
  have hcall := hv w1.drew (Below.trans hb1 (Below.refl _ _).drew)
  go_enter Tryd.func77, Tryd.ntmps77
  go_wp2_with fail
  go_region_held3 (fun w' => w'.cell? ⟨w.heap.size, 0, none⟩ = some (.pointer (some ⟨b, off, none⟩)) ∧ w'.cell? ⟨w.heap.size, 1, none⟩ = some (.int .i64 (d : Int)) ∧ w'.cell? ⟨w.heap.size, 2, none⟩ = some (.int .i64 (m : Int)) ∧ w'.cell? ⟨w.heap.size, 3, none⟩ = some (.pointer (some ⟨tb, toff, none⟩)) ∧ w'.cell? ⟨gu, 0, none⟩ = some (.func (.func 49) #[recv] #[])) (go_keep)
    ((go_at_call 49; refine hcall.mono ?_; rintro e w2 ⟨rk, rn, rs, rla, rll, rlc, ra, ral, rac, rfl, hR, hb2'⟩; have hb2 : Below w1.heap.size w1 w2 := Below.trans (Below.refl _ _).drew hb2'; have H2 := (hh.on hb1).on hb2; obtain ⟨h0, e0⟩ := H2.cell (i := 0) (by omega); rw [Nat.add_zero] at e0; obtain ⟨h1, e1⟩ := H2.cell (i := 1) (by omega); obtain ⟨h2, e2⟩ := H2.cell (i := 2) (by omega); obtain ⟨h3, e3⟩ := H2.cell (i := 3) (by omega); obtain ⟨h4, e4⟩ := H2.cell (i := 4) (by omega); have g0 := H2.frozen toff; have g1 := H2.frozen (toff + 1); have g2 := H2.frozen (toff + 2); have g3 := H2.frozen (toff + 3); have g4 := H2.frozen (toff + 4); have X2 := X1.below hb2 X1.lt; have y0 := X2.cell (j := 0) rfl; have y1 := X2.cell (j := 1) rfl; have y2 := X2.cell (j := 2) rfl; have y3 := X2.cell (j := 3) rfl; have U2 := U1.below hb2 U1.lt; have z0 := U2.cell (j := 0) rfl))
  go_wp2_with fail
  go_end0
  exact ⟨rfl, w1.drew, w2, rk, rn, rs, rla, rll, rlc, ra, ral, rac, Below.trans hb1 (Below.refl _ _).drew, hR, hb2', rfl⟩
end Go.Proofs.YtbmijpjmdpdfkaaDoor
