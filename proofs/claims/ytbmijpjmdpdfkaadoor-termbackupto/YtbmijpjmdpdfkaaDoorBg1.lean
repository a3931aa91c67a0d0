/- Facts of the two terms that the laws' begun asks with. Of no program; no condition. -/
import Derived.Test.YtbmijpjmdpdfkaaDoorPut2
import Derived.Test.YtbmijpjmdpdfkaaDoorEq3
namespace Go.Proofs.YtbmijpjmdpdfkaaDoor
open Go.RowKit

/-- App(Var 0, Var 1), its Args in block g. -/
def tB (g : Nat) : Tr := .mk 3 0 { data := #[] } [] none 0 (some ⟨g, 0, none⟩) 2 g 0 [varT 0, varT 1]
/-- Const "c". -/
def vB : Tr := .mk 2 0 { data := #[99] } [] none 0 none 0 0 0 []

theorem tB_size (g : Nat) : (tB g).size = 3 := rfl
theorem tB_depth (g : Nat) : (tB g).depth = 2 := rfl
theorem tB_seq (g b : Nat) : (Pt.mk b 0 (tB g) 1 0).seq = [⟨b, 0, tB g, 1, 0⟩, ⟨g, 0, varT 0, 2, 0⟩, ⟨g, 5, varT 1, 2, 0⟩] := rfl
theorem vB_seq (b : Nat) : (Pt.mk b 0 vB 1 0).seq = [⟨b, 0, vB, 1, 0⟩] := rfl
theorem varT_bare (n : Int) (h0 : -1073741824 ≤ n) (h1 : n ≤ 1073741824) : Bare (varT n) := .mk (of_decide_eq_true rfl) (of_decide_eq_true rfl) (fun h => absurd h (of_decide_eq_false rfl)) h0 h1 rfl rfl rfl (fun L h => by cases h)
theorem tB_bare (g : Nat) : Bare (tB g) := .mk (of_decide_eq_true rfl) (of_decide_eq_true rfl) (fun _ => ⟨of_decide_eq_true rfl, of_decide_eq_true rfl⟩) (of_decide_eq_true rfl) (of_decide_eq_true rfl) rfl rfl rfl (fun L h => by
  rcases List.mem_cons.1 h with rfl | h
  · exact varT_bare 0 (of_decide_eq_true rfl) (of_decide_eq_true rfl)
  · rcases List.mem_cons.1 h with rfl | h
    · exact varT_bare 1 (of_decide_eq_true rfl) (of_decide_eq_true rfl)
    · cases h)
theorem vB_bare : Bare vB := .mk (of_decide_eq_true rfl) (of_decide_eq_true rfl) (fun h => absurd h (of_decide_eq_false rfl)) (of_decide_eq_true rfl) (of_decide_eq_true rfl) rfl rfl rfl (fun L h => by cases h)
theorem tB_plain (g b : Nat) : Plainly (Pt.mk b 0 (tB g) 1 0).seq := by
  rw [tB_seq]
  intro p hp
  simp only [List.mem_cons, List.not_mem_nil, or_false] at hp
  rcases hp with rfl | rfl | rfl <;> exact ⟨rfl, rfl⟩
theorem vB_plain (b : Nat) : Plainly (Pt.mk b 0 vB 1 0).seq := by
  rw [vB_seq]
  intro p hp
  simp only [List.mem_cons, List.not_mem_nil, or_false] at hp
  subst hp
  exact ⟨rfl, rfl⟩
theorem tB_count0 (g b : Nat) : cntF 0 (Pt.mk b 0 (tB g) 1 0).seq = 1 := by rw [tB_seq]; rfl
theorem tB_count1 (g b : Nat) : cntF 1 (Pt.mk b 0 (tB g) 1 0).seq = 1 := by rw [tB_seq]; rfl
theorem em_nil : emB { data := #[] } = true := by kernel_rfl
theorem tB_whole (g : Nat) : (tB g).wholeB = true := by
  show (true && (true && (emB { data := #[] } && true))) = true
  rw [em_nil]; rfl
theorem varT_whole0 : (varT 0).wholeB = true := by
  show (true && (true && (true && (emB { data := #[] } && true)))) = true
  rw [em_nil]; rfl
theorem varT_whole1 : (varT 1).wholeB = true := by
  show (true && (true && (true && (emB { data := #[] } && true)))) = true
  rw [em_nil]; rfl
theorem tB_may (g b : Nat) : mayE b (tB g) 2 0 = 0 := by
  unfold mayE
  rw [tB_seq, tB_size, tB_depth]
  have h : allW [⟨b, 0, tB g, 1, 0⟩, ⟨g, 0, varT 0, 2, 0⟩, ⟨g, 5, varT 1, 2, 0⟩] = true := by
    show ((tB g).wholeB && ((varT 0).wholeB && ((varT 1).wholeB && true))) = true
    rw [tB_whole, varT_whole0, varT_whole1]; rfl
  rw [h, if_neg (by simp), if_neg (by omega), if_neg (by omega)]
  rfl
theorem vB_in (w : World) (S : Nat → Prop) : TIn w S vB :=
  tin_iff.2 ⟨of_decide_eq_true rfl, of_decide_eq_true rfl, of_decide_eq_true rfl, of_decide_eq_true rfl, ⟨by omega, by omega, by omega, by omega, Nat.le_refl _, by show 0 ≤ 9223372036854775807; omega, .inl rfl⟩, Nat.le_refl _, of_decide_eq_true rfl, .inl rfl⟩
theorem tB_in {w : World} {g : Nat} (h : Blk w g 25 [Value.int .i64 0, .int .i64 0, .string { data := #[] }, .slice none 0 0, .slice none 0 0, .int .i64 0, .int .i64 1, .string { data := #[] }, .slice none 0 0, .slice none 0 0]) : TIn w (· < w.heap.size) (tB g) :=
  tin_iff.2 ⟨of_decide_eq_true rfl, of_decide_eq_true rfl, of_decide_eq_true rfl, of_decide_eq_true rfl, ⟨by omega, by omega, by omega, by omega, Nat.le_refl _, by show 0 ≤ 9223372036854775807; omega, .inl rfl⟩, Nat.le_refl _, of_decide_eq_true rfl, .inr ⟨rfl, h.lt, TAll.of_get (fun i L hi => by
    match i with
    | 0 => cases hi; exact ⟨⟨h.cell (j := 0) rfl, h.cell (j := 1) rfl, h.cell (j := 2) rfl, h.cell (j := 3) rfl, h.cell (j := 4) rfl⟩, varT_in 0 (of_decide_eq_true rfl) (of_decide_eq_true rfl) _ _⟩
    | 1 => cases hi; exact ⟨⟨h.cell (j := 5) rfl, h.cell (j := 6) rfl, h.cell (j := 7) rfl, h.cell (j := 8) rfl, h.cell (j := 9) rfl⟩, varT_in 1 (of_decide_eq_true rfl) (of_decide_eq_true rfl) _ _⟩
    | n + 2 => cases hi)⟩⟩

/-- What Put makes of them: a part with two Args, of which the first has the Name "c" and the second the number 0. -/
theorem tB_put {g b bv : Nat} {T' : Tr} (h : Img (PutV bv 0 vB) NoLv ⟨b, 0, tB g, 1, 0⟩ T') : ∃ U0 U1, T'.args = [U0, U1] ∧ U0.s = { data := #[99] } ∧ U1.n = 0 := by
  cases h with
  | var h _ => exact absurd h (of_decide_eq_false rfl)
  | leaf h _ _ _ _ _ => exact absurd h (of_decide_eq_false rfl)
  | branch _ _ _ _ _ _ hl hk =>
    have hl2 : T'.args.length = 2 := hl
    obtain ⟨U0, U1, he⟩ : ∃ U0 U1, T'.args = [U0, U1] := by
      match hm : T'.args, hl2 with
      | [U0, U1], _ => exact ⟨U0, U1, rfl⟩
    rw [he] at hk
    have h0 := hk 0 (varT 0) U0 rfl rfl
    have h1 := hk 1 (varT 1) U1 rfl rfl
    refine ⟨U0, U1, he, ?_, ?_⟩
    · cases h0 with
      | var _ hv =>
        rcases hv with ⟨_, _, hv⟩ | ⟨hn, _⟩
        · cases hv with
          | var h _ => exact absurd h (of_decide_eq_false rfl)
          | leaf _ _ _ hs _ _ => exact hs
          | branch h _ _ _ _ _ _ _ => exact absurd h (of_decide_eq_false rfl)
        · exact absurd ⟨rfl, rfl⟩ hn
      | leaf h _ _ _ _ _ => exact absurd h (of_decide_eq_false rfl)
      | branch h _ _ _ _ _ _ _ => exact absurd h (of_decide_eq_false rfl)
    · cases h1 with
      | var _ hv =>
        rcases hv with ⟨_, hn, _⟩ | ⟨_, hv⟩
        · exact absurd hn (of_decide_eq_false rfl)
        · exact hv.2.1
      | leaf h _ _ _ _ _ => exact absurd h (of_decide_eq_false rfl)
      | branch h _ _ _ _ _ _ _ => exact absurd h (of_decide_eq_false rfl)
end Go.Proofs.YtbmijpjmdpdfkaaDoor
