/- The walk of the statements' own begun: it answers true, and turns nothing that was there. No condition. -/
import Derived.Test.YtbbfjfmcmckdmaaPuts
namespace Go.Proofs.Ytbbfjfmcmckdmaa
open Go.RowKit

theorem rd_built (e : TypeId) (w : World) (bs : List UInt8) (hb : bs.length ≤ maxLen) : Rd (w.alloc (.cells (bs.map bval).toArray e)) (some ⟨w.heap.size, 0, none⟩) bs.length bs.length bs :=
  ⟨rfl, Nat.le_refl _, hb, (fun h => by cases h), fun a ha j u hu => by
    obtain rfl : ⟨w.heap.size, 0, none⟩ = a := by simpa using ha
    rw [Addr.add_lit, Nat.zero_add, cell_of_row _ w.heap.size j _ e (0, 0) (heap_alloc_new w _)]
    simp [hu, bval]⟩


/-- What Put leaves, told by its answers. -/
structure PutIs (w w' : World) (g : Nat) (q : Option Nat) (fs : List (List UInt8)) (s : RS) (a : Option Addr) (k c : Nat) (vs : List Value) (q' : Option Nat) : Prop where
  num : k = fs.length
  own : AppV 28 w.heap.size w' a k c vs
  fv : FV w' w.heap.size vs fs
  not : NotIn q' vs
  fr : FR w' g q' s
  new : ∀ b, q' = some b → q = some b ∨ w.heap.size ≤ b
  keep : Keep w w' (fun k => k = g ∨ q = some k)

theorem put_at {g : Nat} {q : Option Nat} {s : RS} {bo : Option Addr} {m c : Nat} {bs : List UInt8} {w : World} (h : FR w g q s) (hb : Rd w bo m c bs) (hl : s.1.length + m ≤ 1073741824) {fs : List (List UInt8)} {er : Nat} {s' : RS} (hF : putF s bs = fs) (hE : putE s bs = er) (hS : putS s bs = s') :
    Calls Try.prog 12 #[.pointer (some ⟨g, 0, none⟩), .slice bo m c] w fun e w' => ∃ a k c, e = .returned (.tuple #[.slice a k c, .int .i64 (er : Int)]) ∧ ∃ vs q', PutIs w w' g q fs s' a k c vs q' := by
  subst hF hE hS
  refine (put_any g q s bo m c bs w h hb hl).mono ?_
  rintro e w' ⟨a, k, c, rfl, vs, q', h⟩
  exact ⟨a, k, c, rfl, vs, q', h.num, h.own, h.fv, h.not, h.fr, h.new, h.keep⟩

theorem PutIs.parts {w w' : World} {g : Nat} {q : Option Nat} {fs : List (List UInt8)} {s : RS} {a : Option Addr} {k c : Nat} {vs : List Value} {q' : Option Nat} (h : PutIs w w' g q fs s a k c vs q') : Parts w' w'.heap.size a k c fs :=
  h.own.parts h.fv.pv (Nat.le_refl _)

theorem below_keep {B : Nat} {a b c : World} {S : Nat → Prop} (h : Below B a b) (k : Keep b c S) (hB : B ≤ b.heap.size) (hS : ∀ k, S k → B ≤ k) : Below B a c := h.trans (k.below hB hS)

theorem rd_ab : rd [2, 97, 98, 0] = ([[97, 98], []], [], 2) := by
  have h1 : t1 [2, 97, 98, 0] = ([97, 98], 3, 0) := by decide
  have h2 : t1 [0] = ([], 1, 0) := by decide
  rw [rd_at h1]
  simp only [List.drop]
  rw [rd_at h2]
  simp only [List.drop]
  rw [rd_nil]

theorem put_short {ws bs rs : List UInt8} {fs : List (List UInt8)} (h : rd (ws ++ bs) = (fs, rs, 2)) : putF (ws, 0) bs = fs ∧ putE (ws, 0) bs = 0 ∧ putS (ws, 0) bs = (rs, 0) := by
  unfold putF putE putS
  simp only [h, if_true]
  exact ⟨trivial, trivial, trivial⟩
theorem put_bad {ws bs rs : List UInt8} {fs : List (List UInt8)} {e : Nat} (h : rd (ws ++ bs) = (fs, rs, e)) (he : e ≠ 2) : putF (ws, 0) bs = fs ∧ putE (ws, 0) bs = e ∧ putS (ws, 0) bs = ([], e) := by
  unfold putF putE putS
  simp only [h, if_true, if_neg he]
  exact ⟨trivial, trivial, trivial⟩
theorem rd_2a : rd ([] ++ [2, 97]) = ([], [2, 97], 2) := rd_stop (bs := [2, 97]) (t := []) (n := 0) (by decide) (by decide)
theorem rd_2ab : rd ([2, 97] ++ [98, 0]) = ([[97, 98], []], [], 2) := rd_ab

set_option maxRecDepth 100000 in
set_option maxHeartbeats 1000000 in
theorem begun_big (w : World) : Calls Try.prog 8 #[] w fun e w' => e = .returned (.bool true) ∧ Below w.heap.size w w' ∧ w.heap.size < w'.heap.size := by
  go_enter Try.func8, Try.ntmps8
  go_wp2_with fail
  refine (new_any w).mono ?_
  rintro e w1 ⟨g, rfl, hg, hF1, hb1⟩
  have hs1 := hb1.size
  have hb2 : Below w.heap.size w (w1.alloc (.cells #[.int .u8 2, .int .u8 97] 5)) := hb1.alloc hs1 _
  have hR2 : Rd (w1.alloc (.cells #[.int .u8 2, .int .u8 97] 5)) (some ⟨w1.heap.size, 0, none⟩) 2 2 [2, 97] := rd_built 5 w1 [2, 97] (by decide)
  have hF2 : FR (w1.alloc (.cells #[.int .u8 2, .int .u8 97] 5)) g none ([], 0) := hF1.carry (Below.heap_alloc w1 _ g hF1.lt) (fun b hb => by cases hb)
  have hs2 := hb2.size
  clear hF1
  go_wp2_with fail
  generalize w1.alloc (.cells #[.int .u8 2, .int .u8 97] 5) = w2 at hb2 hR2 hF2 hs2 ⊢
  refine (put_at (fs := []) (er := 0) (s' := ([2, 97], 0)) hF2 hR2 (by simp only [List.length_nil]; omega) (put_short rd_2a).1 (put_short rd_2a).2.1 (put_short rd_2a).2.2).mono ?_
  rintro e w3 ⟨a, k, c, rfl, vs, q, hP⟩
  obtain rfl : k = 0 := hP.num
  have hb3 : Below w.heap.size w w3 := below_keep hb2 hP.keep (by omega) (fun k e => by rcases e with e | e; omega; cases e)
  have hs3 := hb3.size
  have hqn : ∀ b, q = some b → w.heap.size ≤ b := fun b hb => by rcases hP.new b hb with e | e; cases e; omega
  have hF3 := hP.fr
  clear hP hF2 hR2
  have hb4 : Below w.heap.size w (w3.alloc (.cells #[.int .u8 98, .int .u8 0] 5)) := hb3.alloc (by omega) _
  have hR4 : Rd (w3.alloc (.cells #[.int .u8 98, .int .u8 0] 5)) (some ⟨w3.heap.size, 0, none⟩) 2 2 [98, 0] := rd_built 5 w3 [98, 0] (by decide)
  have hF4 : FR (w3.alloc (.cells #[.int .u8 98, .int .u8 0] 5)) g q ([2, 97], 0) := hF3.carry (Below.heap_alloc w3 _ g hF3.lt) (fun b _ hl => Below.heap_alloc w3 _ b hl)
  have hs4 := hb4.size
  clear hF3
  go_wp2_with fail
  generalize w3.alloc (.cells #[.int .u8 98, .int .u8 0] 5) = w4 at hb4 hR4 hF4 hs4 ⊢
  refine (put_at (fs := [[97, 98], []]) (er := 0) (s' := ([], 0)) hF4 hR4 (by simp only [List.length_cons, List.length_nil]; omega) (put_short rd_2ab).1 (put_short rd_2ab).2.1 (put_short rd_2ab).2.2).mono ?_
  rintro e w5 ⟨a2, k2, c2, rfl, vs2, q2, hP⟩
  obtain rfl : k2 = 2 := hP.num
  have hb5 : Below w.heap.size w w5 := below_keep hb4 hP.keep (by omega) (fun k e => by rcases e with e | e; omega; exact hqn k e)
  obtain ⟨fo, fn, fc, hv, hres⟩ := hP.fv.2 0 [97, 98] rfl
  obtain ⟨gl, rfl, hol⟩ : ∃ g, a2 = some ⟨g, 0, none⟩ ∧ OwnV 28 w4.heap.size w5 g 2 c2 vs2 := by
    rcases hP.own with ⟨_, h, _, _⟩ | h
    · omega
    · exact h
  have hcl := hol.cell hv
  have hst := str_of hres.1
  have hF5 := hP.fr
  have hW5 := waits_any g q2 ([], 0) w5 hF5
  have hle := hol.le
  have hmx := hol.max
  unfold maxLen at hmx
  clear hP hF4 hR4 hres hv
  go_wp2_with (go_at_call 16; refine hW5.mono ?_; rintro e w6 ⟨rfl, rfl⟩)
  go_ret
  exact ⟨rfl, hb5, by have := hF5.lt; omega⟩

theorem begun_any (w : World) : Calls Try.prog 8 #[] w fun e w' => e = .returned (.bool true) ∧ Below w.heap.size w w' :=
  (begun_big w).mono fun _ _ h => ⟨h.1, h.2.1⟩
end Go.Proofs.Ytbbfjfmcmckdmaa
