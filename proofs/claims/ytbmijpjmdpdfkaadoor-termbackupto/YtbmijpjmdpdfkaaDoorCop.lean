/- The walks of term's copied of no Levels, and of a lift's variable. No condition but that the part lies in memory and its numbers have no overflow. -/
import Derived.Test.YtbmijpjmdpdfkaaDoorTurn
namespace Go.Proofs.YtbmijpjmdpdfkaaDoor
open Go.RowKit

def sln : Value → Nat
  | .slice _ n _ => n
  | _ => 0

set_option maxRecDepth 100000 in
set_option maxHeartbeats 400000 in
theorem copied_nil (w : World) : Calls Tryd.prog 44 #[.slice none 0 0] w fun e w' => e = .returned (.slice none 0 0) ∧ Below w.heap.size w w' := by
  obtain ⟨w1, hw1, hb1, P1, hs1⟩ := one_new w [.slice none 0 0] 22
  have c0 := P1.cell (j := 0) rfl
  go_enter Tryd.func44, Tryd.ntmps44
  go_wp2_with fail
  go_loopw [4] (fun o wr => ∃ n, n ≤ 1 ∧ o = .slice (some ⟨w.heap.size, 0, none⟩) n 1 ∧ wr = w1) (fun o _ => sln o)
  case atStart => exact ⟨1, by omega, rfl, rfl⟩
  case round =>
    obtain ⟨n, hn, rfl, rfl⟩ := hrel
    rcases (by omega : n = 0 ∨ n = 1) with rfl | rfl
    · go_wp2_with fail
      go_ret
      exact ⟨rfl, hb1⟩
    · go_wp2_with fail
      obtain ⟨wo, hwo⟩ : ∃ wo, wo = wr := ⟨_, rfl⟩
      subst hwo
      go_loopw [4, 27] (fun o i wr => o = .slice (some ⟨w.heap.size, 0, none⟩) 0 1 ∧ i = .int .i64 0 ∧ wr = wo) (fun _ _ _ => 0)
      case atStart => exact ⟨rfl, rfl, rfl⟩
      case round =>
        obtain ⟨rfl, rfl, rfl⟩ := hrel
        go_wp2_with fail
        go_roundw
        case rel => exact ⟨0, by omega, by simp⟩
        case measure => simp [sln]

def lvn (by_ from_ : Int) (p : Pt) : Int := if p.freeB = true ∧ from_ ≤ p.freeN then p.t.n + by_ else p.t.n

set_option maxRecDepth 100000 in
set_option maxHeartbeats 400000 in
theorem lvar_any (by_ from_ : Int) (p : Pt) (w : World) (hc : TCells w p.b p.off p.t) (hm : p.m ≤ 1073741824) (hn1 : p.t.n ≤ 1073741824) (hn0 : -1073741824 ≤ p.t.n) (hb0 : 0 ≤ by_) (hb1 : by_ ≤ 1073741824) :
    Calls Tryd.prog 49 #[.agg #[.int .i64 by_, .int .i64 from_], p.val] w fun e w' => e = .returned (.agg #[.int .i64 0, .int .i64 (lvn by_ from_ p), .string { data := #[] }, .slice none 0 0, .slice none 0 0]) ∧ Below w.heap.size w w' := by
  obtain ⟨r, hr⟩ : ∃ r, r = lvn by_ from_ p := ⟨_, rfl⟩
  rw [← hr]
  unfold lvn at hr
  obtain ⟨w3, hw3, hb3, A0, A1, A2, hs3⟩ := three_new w [.int .i64 by_, .int .i64 from_] [.pointer (some ⟨p.b, p.off, none⟩), .int .i64 (p.d : Int), .int .i64 (p.m : Int)] ([.int .i64 0, .int .i64 0, .string { data := #[] }, .slice none 0 0, .slice none 0 0] : List Value) 78 50 25
  have c1 := (hc.on hb3).c1
  have x0 := A1.cell (j := 0) rfl
  have hcl := hc.lt
  obtain ⟨w4, hw4, hb4, A3, hs4⟩ := one_new w3 ([.int .i64 0, .int .i64 p.t.n, .string { data := #[] }, .slice none 0 0, .slice none 0 0] : List Value) 25
  have hcall := free_any p w4 ((hc.on hb3).on hb4) hm (by omega)
  have B0 := A0.below hb4 A0.lt
  have B1 := A1.below hb4 A1.lt
  have B2 := A2.below hb4 A2.lt
  have y0 := B1.cell (j := 0) rfl
  have y1 := B1.cell (j := 1) rfl
  have y2 := B1.cell (j := 2) rfl
  rw [hs3] at A3 hs4
  have hb34 := hb3.trans (hb4.mono hb3.size)
  obtain ⟨fb, hfb⟩ : ∃ fb, p.freeB = fb := ⟨_, rfl⟩
  obtain ⟨fn, hfn⟩ : ∃ fn, p.freeN = fn := ⟨_, rfl⟩
  rw [hfb, hfn] at hcall hr
  clear hc
  subst hw4
  unfold Pt.val at *
  have e0 : w.heap.size + 1 + 1 < w.heap.size + 3 := by omega
  have e1 : w.heap.size + 3 ≠ w.heap.size := by omega
  have e2 : w.heap.size + 3 ≠ w.heap.size + 1 + 1 := by omega
  have e3 : w.heap.size ≠ w.heap.size + 3 := by omega
  have e4 : w.heap.size + 1 + 1 ≠ w.heap.size + 3 := by omega
  clear hfb hfn
  by_cases h1 : fb = true
  · subst h1
    by_cases h2 : from_ ≤ fn
    · have HV : Hid (r = p.t.n + by_) := hr.trans (if_pos ⟨rfl, h2⟩)
      clear hr
      go_enter Tryd.func49, Tryd.ntmps49
      go_wp2_with (go_at_call 76; refine hcall.mono ?_; rintro e w5 ⟨rfl, hb5⟩; have C0 := B0.below hb5 B0.lt; have C1 := B1.below hb5 B1.lt; have C2 := B2.below hb5 B2.lt; have C3 := A3.below hb5 A3.lt; have z0 := C0.cell (j := 0) rfl; have z1 := C0.cell (j := 1) rfl; have v0 := C3.cell (j := 0) rfl; have v1 := C3.cell (j := 1) rfl; have v2 := C3.cell (j := 2) rfl; have v3 := C3.cell (j := 3) rfl; have v4 := C3.cell (j := 4) rfl; have g1 := C3.frozen 1; have q0 := C2.cell (j := 0) rfl; have q1 := C2.cell (j := 1) rfl; have q2 := C2.cell (j := 2) rfl; have q3 := C2.cell (j := 3) rfl; have q4 := C2.cell (j := 4) rfl; have f0 := C2.frozen 0; have f1 := C2.frozen 1; have f2 := C2.frozen 2; have f3 := C2.frozen 3; have f4 := C2.frozen 4)
      have K5 : Keep w5 (w5.setCell ⟨w.heap.size + 3, 1, none⟩ (.int .i64 (p.t.n + by_))) (fun k => k = w.heap.size + 3) := (Keep.refl w5 (fun k => k = w.heap.size + 3)).setCell (g := w.heap.size + 3) (fun _ => rfl) 1 (.int .i64 (p.t.n + by_))
      have D2 := C2.keep K5 (by omega)
      obtain ⟨Q, K⟩ := st5 D2 (.int .i64 0) (.int .i64 (p.t.n + by_)) (.string { data := #[] }) (.slice none 0 0) (.slice none 0 0)
      have hs6 := K5.size
      have s0 := Q.cell (j := 0) rfl
      have s1 := Q.cell (j := 1) rfl
      have s2 := Q.cell (j := 2) rfl
      have s3 := Q.cell (j := 3) rfl
      have s4 := Q.cell (j := 4) rfl
      have hb35 := hb34.trans (hb5.mono hb34.size)
      have hs5 := hb5.size
      exact bodyPost_ret (v := (Value.agg #[.int .i64 0, .int .i64 (p.t.n + by_), .string { data := #[] }, .slice none 0 0, .slice none 0 0])) (by simp [results, Tryd.results49, go_sem, s0, s1, s2, s3, s4]) rfl ⟨by rw [HV.out], hb35.trans ((K5.below (by omega) (fun k hk => by omega)).trans (K.below (by omega) (fun k hk => by omega)))⟩
    · have HV : Hid (r = p.t.n) := hr.trans (if_neg (fun h => h2 h.2))
      clear hr
      go_enter Tryd.func49, Tryd.ntmps49
      go_wp2_with (go_at_call 76; refine hcall.mono ?_; rintro e w5 ⟨rfl, hb5⟩; have C0 := B0.below hb5 B0.lt; have C1 := B1.below hb5 B1.lt; have C2 := B2.below hb5 B2.lt; have C3 := A3.below hb5 A3.lt; have z0 := C0.cell (j := 0) rfl; have z1 := C0.cell (j := 1) rfl; have v0 := C3.cell (j := 0) rfl; have v1 := C3.cell (j := 1) rfl; have v2 := C3.cell (j := 2) rfl; have v3 := C3.cell (j := 3) rfl; have v4 := C3.cell (j := 4) rfl; have g1 := C3.frozen 1; have q0 := C2.cell (j := 0) rfl; have q1 := C2.cell (j := 1) rfl; have q2 := C2.cell (j := 2) rfl; have q3 := C2.cell (j := 3) rfl; have q4 := C2.cell (j := 4) rfl; have f0 := C2.frozen 0; have f1 := C2.frozen 1; have f2 := C2.frozen 2; have f3 := C2.frozen 3; have f4 := C2.frozen 4)
      obtain ⟨Q, K⟩ := st5 C2 (.int .i64 0) (.int .i64 (p.t.n)) (.string { data := #[] }) (.slice none 0 0) (.slice none 0 0)
      have s0 := Q.cell (j := 0) rfl
      have s1 := Q.cell (j := 1) rfl
      have s2 := Q.cell (j := 2) rfl
      have s3 := Q.cell (j := 3) rfl
      have s4 := Q.cell (j := 4) rfl
      have hb35 := hb34.trans (hb5.mono hb34.size)
      have hs5 := hb5.size
      exact bodyPost_ret (v := (Value.agg #[.int .i64 0, .int .i64 (p.t.n), .string { data := #[] }, .slice none 0 0, .slice none 0 0])) (by simp [results, Tryd.results49, go_sem, s0, s1, s2, s3, s4]) rfl ⟨by rw [HV.out], hb35.trans (K.below (by omega) (fun k hk => by omega))⟩
  · have h1' : fb = false := by simpa using h1
    subst h1'
    have HV : Hid (r = p.t.n) := hr.trans (if_neg (fun h => by cases h.1))
    clear hr
    go_enter Tryd.func49, Tryd.ntmps49
    go_wp2_with (go_at_call 76; refine hcall.mono ?_; rintro e w5 ⟨rfl, hb5⟩; have C0 := B0.below hb5 B0.lt; have C1 := B1.below hb5 B1.lt; have C2 := B2.below hb5 B2.lt; have C3 := A3.below hb5 A3.lt; have z0 := C0.cell (j := 0) rfl; have z1 := C0.cell (j := 1) rfl; have v0 := C3.cell (j := 0) rfl; have v1 := C3.cell (j := 1) rfl; have v2 := C3.cell (j := 2) rfl; have v3 := C3.cell (j := 3) rfl; have v4 := C3.cell (j := 4) rfl; have g1 := C3.frozen 1; have q0 := C2.cell (j := 0) rfl; have q1 := C2.cell (j := 1) rfl; have q2 := C2.cell (j := 2) rfl; have q3 := C2.cell (j := 3) rfl; have q4 := C2.cell (j := 4) rfl; have f0 := C2.frozen 0; have f1 := C2.frozen 1; have f2 := C2.frozen 2; have f3 := C2.frozen 3; have f4 := C2.frozen 4)
    obtain ⟨Q, K⟩ := st5 C2 (.int .i64 0) (.int .i64 (p.t.n)) (.string { data := #[] }) (.slice none 0 0) (.slice none 0 0)
    have s0 := Q.cell (j := 0) rfl
    have s1 := Q.cell (j := 1) rfl
    have s2 := Q.cell (j := 2) rfl
    have s3 := Q.cell (j := 3) rfl
    have s4 := Q.cell (j := 4) rfl
    have hb35 := hb34.trans (hb5.mono hb34.size)
    have hs5 := hb5.size
    exact bodyPost_ret (v := (Value.agg #[.int .i64 0, .int .i64 (p.t.n), .string { data := #[] }, .slice none 0 0, .slice none 0 0])) (by simp [results, Tryd.results49, go_sem, s0, s1, s2, s3, s4]) rfl ⟨by rw [HV.out], hb35.trans (K.below (by omega) (fun k hk => by omega))⟩

/-- What becomes of a Var that is not put: one less where it is free. -/
def pvn (p : Pt) : Int := if p.freeB = true then p.t.n - 1 else p.t.n

set_option maxRecDepth 100000 in
set_option maxHeartbeats 400000 in
theorem pvar_other (gv : Option Addr) (p : Pt) (w : World) (hc : TCells w p.b p.off p.t) (hm : p.m ≤ 1073741824) (hn1 : p.t.n ≤ 1073741824) (hn0 : -1073741824 ≤ p.t.n) (hne : ¬ (p.freeB = true ∧ p.freeN = 0)) :
    Calls Tryd.prog 43 #[.agg #[.pointer gv], p.val] w fun e w' => e = .returned (.agg #[.int .i64 0, .int .i64 (pvn p), .string { data := #[] }, .slice none 0 0, .slice none 0 0]) ∧ Below w.heap.size w w' := by
  obtain ⟨r, hr⟩ : ∃ r, r = pvn p := ⟨_, rfl⟩
  rw [← hr]
  unfold pvn at hr
  obtain ⟨w3, hw3, hb3, A0, A1, A2, hs3⟩ := three_new w [.pointer gv] [.pointer (some ⟨p.b, p.off, none⟩), .int .i64 (p.d : Int), .int .i64 (p.m : Int)] ([.int .i64 0, .int .i64 0, .string { data := #[] }, .slice none 0 0, .slice none 0 0] : List Value) 67 50 25
  have c1 := (hc.on hb3).c1
  have x0 := A1.cell (j := 0) rfl
  have hcl := hc.lt
  obtain ⟨w4, hw4, hb4, A3, hs4⟩ := one_new w3 ([.int .i64 0, .int .i64 p.t.n, .string { data := #[] }, .slice none 0 0, .slice none 0 0] : List Value) 25
  have hcall := free_any p w4 ((hc.on hb3).on hb4) hm (by omega)
  have B0 := A0.below hb4 A0.lt
  have B1 := A1.below hb4 A1.lt
  have B2 := A2.below hb4 A2.lt
  have y0 := B1.cell (j := 0) rfl
  have y1 := B1.cell (j := 1) rfl
  have y2 := B1.cell (j := 2) rfl
  rw [hs3] at A3 hs4
  have hb34 := hb3.trans (hb4.mono hb3.size)
  obtain ⟨fb, hfb⟩ : ∃ fb, p.freeB = fb := ⟨_, rfl⟩
  obtain ⟨fn, hfn⟩ : ∃ fn, p.freeN = fn := ⟨_, rfl⟩
  rw [hfb, hfn] at hcall hne
  rw [hfb] at hr
  clear hc
  subst hw4
  unfold Pt.val at *
  have e0 : w.heap.size + 1 + 1 < w.heap.size + 3 := by omega
  have e1 : w.heap.size + 3 ≠ w.heap.size := by omega
  have e2 : w.heap.size + 3 ≠ w.heap.size + 1 + 1 := by omega
  have e3 : w.heap.size ≠ w.heap.size + 3 := by omega
  have e4 : w.heap.size + 1 + 1 ≠ w.heap.size + 3 := by omega
  clear hfb hfn
  by_cases h1 : fb = true
  · subst h1
    have h2 : fn ≠ 0 := fun h => hne ⟨rfl, h⟩
    clear hne
    have HV : Hid (r = p.t.n - 1) := hr.trans (if_pos rfl)
    clear hr
    go_enter Tryd.func43, Tryd.ntmps43
    go_wp2_with (go_at_call 76; refine hcall.mono ?_; rintro e w5 ⟨rfl, hb5⟩; have C0 := B0.below hb5 B0.lt; have C1 := B1.below hb5 B1.lt; have C2 := B2.below hb5 B2.lt; have C3 := A3.below hb5 A3.lt; have z0 := C0.cell (j := 0) rfl; have v0 := C3.cell (j := 0) rfl; have v1 := C3.cell (j := 1) rfl; have v2 := C3.cell (j := 2) rfl; have v3 := C3.cell (j := 3) rfl; have v4 := C3.cell (j := 4) rfl; have g1 := C3.frozen 1; have q0 := C2.cell (j := 0) rfl; have q1 := C2.cell (j := 1) rfl; have q2 := C2.cell (j := 2) rfl; have q3 := C2.cell (j := 3) rfl; have q4 := C2.cell (j := 4) rfl; have f0 := C2.frozen 0; have f1 := C2.frozen 1; have f2 := C2.frozen 2; have f3 := C2.frozen 3; have f4 := C2.frozen 4)
    have K5 : Keep w5 (w5.setCell ⟨w.heap.size + 3, 1, none⟩ (.int .i64 (p.t.n - 1))) (fun k => k = w.heap.size + 3) := (Keep.refl w5 (fun k => k = w.heap.size + 3)).setCell (g := w.heap.size + 3) (fun _ => rfl) 1 (.int .i64 (p.t.n - 1))
    have D2 := C2.keep K5 (by omega)
    obtain ⟨Q, K⟩ := st5 D2 (.int .i64 0) (.int .i64 (p.t.n - 1)) (.string { data := #[] }) (.slice none 0 0) (.slice none 0 0)
    have hs6 := K5.size
    have s0 := Q.cell (j := 0) rfl
    have s1 := Q.cell (j := 1) rfl
    have s2 := Q.cell (j := 2) rfl
    have s3 := Q.cell (j := 3) rfl
    have s4 := Q.cell (j := 4) rfl
    have hb35 := hb34.trans (hb5.mono hb34.size)
    have hs5 := hb5.size
    exact bodyPost_ret (v := (Value.agg #[.int .i64 0, .int .i64 (p.t.n - 1), .string { data := #[] }, .slice none 0 0, .slice none 0 0])) (by simp [results, Tryd.results43, go_sem, s0, s1, s2, s3, s4]) rfl ⟨by rw [HV.out], hb35.trans ((K5.below (by omega) (fun k hk => by omega)).trans (K.below (by omega) (fun k hk => by omega)))⟩
  · have h1' : fb = false := by simpa using h1
    subst h1'
    clear hne
    have HV : Hid (r = p.t.n) := hr.trans (if_neg (fun h => by cases h))
    clear hr
    go_enter Tryd.func43, Tryd.ntmps43
    go_wp2_with (go_at_call 76; refine hcall.mono ?_; rintro e w5 ⟨rfl, hb5⟩; have C0 := B0.below hb5 B0.lt; have C1 := B1.below hb5 B1.lt; have C2 := B2.below hb5 B2.lt; have C3 := A3.below hb5 A3.lt; have z0 := C0.cell (j := 0) rfl; have v0 := C3.cell (j := 0) rfl; have v1 := C3.cell (j := 1) rfl; have v2 := C3.cell (j := 2) rfl; have v3 := C3.cell (j := 3) rfl; have v4 := C3.cell (j := 4) rfl; have g1 := C3.frozen 1; have q0 := C2.cell (j := 0) rfl; have q1 := C2.cell (j := 1) rfl; have q2 := C2.cell (j := 2) rfl; have q3 := C2.cell (j := 3) rfl; have q4 := C2.cell (j := 4) rfl; have f0 := C2.frozen 0; have f1 := C2.frozen 1; have f2 := C2.frozen 2; have f3 := C2.frozen 3; have f4 := C2.frozen 4)
    obtain ⟨Q, K⟩ := st5 C2 (.int .i64 0) (.int .i64 (p.t.n)) (.string { data := #[] }) (.slice none 0 0) (.slice none 0 0)
    have s0 := Q.cell (j := 0) rfl
    have s1 := Q.cell (j := 1) rfl
    have s2 := Q.cell (j := 2) rfl
    have s3 := Q.cell (j := 3) rfl
    have s4 := Q.cell (j := 4) rfl
    have hb35 := hb34.trans (hb5.mono hb34.size)
    have hs5 := hb5.size
    exact bodyPost_ret (v := (Value.agg #[.int .i64 0, .int .i64 (p.t.n), .string { data := #[] }, .slice none 0 0, .slice none 0 0])) (by simp [results, Tryd.results43, go_sem, s0, s1, s2, s3, s4]) rfl ⟨by rw [HV.out], hb35.trans (K.below (by omega) (fun k hk => by omega))⟩

set_option maxRecDepth 100000 in
set_option maxHeartbeats 400000 in
theorem pvar_zero (R : World → World → Int → Int → ByteArray → Option Addr → Nat → Nat → Option Addr → Nat → Nat → Prop) (gv : Option Addr) (p : Pt) (w : World) (hc : TCells w p.b p.off p.t) (hm : p.m ≤ 1073741824) (hn1 : p.t.n ≤ 1073741824) (h1 : p.freeB = true) (h2 : p.freeN = 0)
    (hl : ∀ w', Below w.heap.size w w' → Calls Tryd.prog 41 #[.pointer gv, .int .i64 (p.m : Int), .int .i64 0] w' fun e w'' => ∃ k n s la ll lc a al ac, e = .returned (.agg #[.int .i64 k, .int .i64 n, .string s, .slice la ll lc, .slice a al ac]) ∧ R w' w'' k n s la ll lc a al ac ∧ Below w'.heap.size w' w'') :
    Calls Tryd.prog 43 #[.agg #[.pointer gv], p.val] w fun e w' => ∃ k n s la ll lc a al ac w1 w2, e = .returned (.agg #[.int .i64 k, .int .i64 n, .string s, .slice la ll lc, .slice a al ac]) ∧ Below w.heap.size w w1 ∧ R w1 w2 k n s la ll lc a al ac ∧ Below w1.heap.size w1 w2 ∧ Keep w2 w' (fun k => w.heap.size ≤ k ∧ k < w1.heap.size) := by
  obtain ⟨w3, hw3, hb3, A0, A1, A2, hs3⟩ := three_new w [.pointer gv] [.pointer (some ⟨p.b, p.off, none⟩), .int .i64 (p.d : Int), .int .i64 (p.m : Int)] ([.int .i64 0, .int .i64 0, .string { data := #[] }, .slice none 0 0, .slice none 0 0] : List Value) 67 50 25
  have c1 := (hc.on hb3).c1
  have x0 := A1.cell (j := 0) rfl
  have hcl := hc.lt
  obtain ⟨w4, hw4, hb4, A3, hs4⟩ := one_new w3 ([.int .i64 0, .int .i64 p.t.n, .string { data := #[] }, .slice none 0 0, .slice none 0 0] : List Value) 25
  have hcall := free_any p w4 ((hc.on hb3).on hb4) hm (by omega)
  have B0 := A0.below hb4 A0.lt
  have B1 := A1.below hb4 A1.lt
  have B2 := A2.below hb4 A2.lt
  have y0 := B1.cell (j := 0) rfl
  have y1 := B1.cell (j := 1) rfl
  have y2 := B1.cell (j := 2) rfl
  rw [hs3] at A3 hs4
  have hb34 := hb3.trans (hb4.mono hb3.size)
  have hfb := h1
  have hfn := h2
-- hfb⟩ : ∃ fb, p.freeB = fb := ⟨_, rfl⟩
-- hfn⟩ : ∃ fn, p.freeN = fn := ⟨_, rfl⟩
  rw [hfb, hfn] at hcall
  clear hc
  subst hw4
  unfold Pt.val at *
  have e0 : w.heap.size + 1 + 1 < w.heap.size + 3 := by omega
  have e1 : w.heap.size + 3 ≠ w.heap.size := by omega
  have e2 : w.heap.size + 3 ≠ w.heap.size + 1 + 1 := by omega
  have e3 : w.heap.size ≠ w.heap.size + 3 := by omega
  have e4 : w.heap.size + 1 + 1 ≠ w.heap.size + 3 := by omega
  clear h1 h2 hfb hfn
  go_enter Tryd.func43, Tryd.ntmps43
  go_wp2_with (first | (go_at_call 76; refine hcall.mono ?_; rintro e w5 ⟨rfl, hb5⟩; have C0 := B0.below hb5 B0.lt; have C1 := B1.below hb5 B1.lt; have C2 := B2.below hb5 B2.lt; have z0 := C0.cell (j := 0) rfl; have z2 := C1.cell (j := 2) rfl; have hb35 := hb34.trans (hb5.mono hb34.size); have hl' := hl w5 hb35) | (go_at_call 41; refine hl'.mono ?_; rintro e w6 ⟨rk, rn, rs, rla, rll, rlc, ra, ral, rac, rfl, hR, hb6⟩; have D2 := C2.below hb6 C2.lt; have q0 := D2.cell (j := 0) rfl; have q1 := D2.cell (j := 1) rfl; have q2 := D2.cell (j := 2) rfl; have q3 := D2.cell (j := 3) rfl; have q4 := D2.cell (j := 4) rfl; have f0 := D2.frozen 0; have f1 := D2.frozen 1; have f2 := D2.frozen 2; have f3 := D2.frozen 3; have f4 := D2.frozen 4))
  obtain ⟨Q, K⟩ := st5 D2 (.int .i64 rk) (.int .i64 rn) (.string rs) (.slice rla rll rlc) (.slice ra ral rac)
  have s0 := Q.cell (j := 0) rfl
  have s1 := Q.cell (j := 1) rfl
  have s2 := Q.cell (j := 2) rfl
  have s3 := Q.cell (j := 3) rfl
  have s4 := Q.cell (j := 4) rfl
  have hs5 := hb5.size
  exact bodyPost_ret (v := (Value.agg #[.int .i64 rk, .int .i64 rn, .string rs, .slice rla rll rlc, .slice ra ral rac])) (by simp [results, Tryd.results43, go_sem, s0, s1, s2, s3, s4]) rfl ⟨rk, rn, rs, rla, rll, rlc, ra, ral, rac, w5, w6, rfl, hb35, hR, hb6, K.mono (fun k hk => by subst hk; exact ⟨by omega, by omega⟩)⟩
end Go.Proofs.YtbmijpjmdpdfkaaDoor
