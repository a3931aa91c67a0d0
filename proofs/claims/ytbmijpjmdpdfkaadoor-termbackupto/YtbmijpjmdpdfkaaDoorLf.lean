/- The walk of term's lifted. No condition but that the term lies in memory, is as its Kinds ask, has no Levels, at most 1000 parts and small numbers. -/
import Derived.Test.YtbmijpjmdpdfkaaDoorOf
namespace Go.Proofs.YtbmijpjmdpdfkaaDoor
open Go.RowKit

/-- A term that has no Levels, whose parts are as their Kinds ask and whose numbers are small. -/
inductive Bare : Tr → Prop
  | mk {T : Tr} : 0 ≤ T.k → T.k ≤ 6 → (3 ≤ T.k → 0 < T.args.length ∧ T.args.length ≤ 1000) → -1073741824 ≤ T.n → T.n ≤ 1073741824 → T.ls = [] → T.la = none → T.lc = 0 → (∀ L ∈ T.args, Bare L) → Bare T

def FitB (M : Nat) (p : Pt) : Prop := Bare p.t ∧ p.d + p.t.size ≤ M ∧ p.m + p.t.size ≤ M
def NoLv : List Lv → List Lv → Prop := fun _ b => b = []

theorem fitB_kid {M : Nat} {p : Pt} (h : FitB M p) (i : Nat) (T : Tr) (hi : p.t.args[i]? = some T) : FitB M (p.kid i T) := by
  obtain ⟨hb, h1, h2⟩ := h
  have hm := List.mem_of_getElem? hi
  have hs := Tr.size_mem hm
  have := p.t.size_eq
  have := bnd_le p.t.k i
  cases hb with
  | mk _ _ _ _ _ _ _ _ hk => exact ⟨hk T hm, by simp only [Pt.kid]; omega, by simp only [Pt.kid]; omega⟩

theorem cop_bare {M B : Nat} (p : Pt) (w' : World) (h : FitB M p) (_ : TIn w' (· < B) p.t) : Calls Tryd.prog 44 #[.slice p.t.la p.t.ls.length p.t.lc] w' fun e w'' => ∃ oa ol oc, e = .returned (.slice oa ol oc) ∧ RCop NoLv p.t.ls w' w'' oa ol oc ∧ Below w'.heap.size w' w'' := by
  obtain ⟨hb, _, _⟩ := h
  cases hb with
  | mk _ _ _ _ _ h1 h2 h3 _ =>
    rw [h1, h2, h3]
    refine (copied_nil w').mono ?_
    rintro e w'' ⟨rfl, hb⟩
    exact ⟨none, 0, 0, rfl, ⟨[], rfl, rfl, ⟨by omega, by omega, by omega, by omega, Nat.le_refl _, by show 0 ≤ 9223372036854775807; omega, .inl rfl⟩⟩, hb⟩

theorem fitB_all {M : Nat} (hM : M ≤ 1073741824) (p : Pt) (h : FitB M p) : p.d ≤ 1073741824 ∧ p.m ≤ 1073741824 ∧ (3 ≤ p.t.k → 0 < p.t.args.length ∧ p.t.args.length ≤ 1000) ∧ ∀ i T, p.t.args[i]? = some T → FitB M (p.kid i T) := by
  have h' := h
  obtain ⟨hb, h1, h2⟩ := h
  cases hb with
  | mk _ _ h3 _ _ _ _ _ _ => exact ⟨by omega, by omega, h3, fun i T hi => fitB_kid h' i T hi⟩

def LiftI (by_ from_ : Int) : Pt → Tr → Prop := Img (fun p T' => IsVar (lvn by_ from_ p) T') NoLv

set_option maxRecDepth 100000 in
set_option maxHeartbeats 400000 in
theorem lifted_bare (b off : Nat) (T : Tr) (by_ from_ : Int) (w : World) (hT : Tabs w) (h3 : 3 ≤ w.heap.size) (hc : TCells w b off T) (hin : TIn w (· < w.heap.size) T) (hbare : Bare T) (hsz : T.size ≤ 1000) (hb0 : 0 ≤ by_) (hb1 : by_ ≤ 1073741824) :
    Calls Tryd.prog 41 #[.pointer (some ⟨b, off, none⟩), .int .i64 by_, .int .i64 from_] w fun e w' => ∃ T', LiftI by_ from_ ⟨b, off, T, 1, 0⟩ T' ∧ e = .returned (.agg #[.int .i64 T'.k, .int .i64 T'.n, .string T'.s, .slice T'.la T'.ls.length T'.lc, .slice T'.a T'.args.length T'.c]) ∧ TIn w' (fun k => w.heap.size ≤ k ∧ k < w'.heap.size ∧ ¬ XB w' k) T' ∧ Below w.heap.size w w' := by
  obtain ⟨w2, hw2, hb2, R2, U2, hs2⟩ := two_new w ([.int .i64 0, .int .i64 0, .string { data := #[] }, .slice none 0 0, .slice none 0 0] : List Value) [.func (.func 49) #[.agg #[.int .i64 by_, .int .i64 from_]] #[], .func (.func 44) #[] #[], .slice none 0 0] 25 71
  have hlt := hc.lt
  have T2 := hT.on hb2
  have hcall := of_any (Fit := FitB 1000000) (RV := fun p T' => IsVar (lvn by_ from_ p) T') (RL := NoLv) (w.heap.size + 1) (w.heap.size + 1) 1000000 _ b off T w2 U2 (Nat.le_refl _) (by omega) (hc.on hb2) ((hin.below hb2 (Nat.le_refl _)).mono (fun k hk => by omega)) (by omega) ⟨hbare, by show 1 + T.size ≤ 1000000; omega, by show 0 + T.size ≤ 1000000; omega⟩
    (fun p h => by obtain ⟨h, _, _⟩ := h; cases h with | mk h1 h2 _ _ _ _ _ _ _ => exact ⟨h1, h2⟩) (by omega)
    (do77_lift hb0 hb1 (fun p h => by have h1 := (fitB_all (by omega) p h).2.1; obtain ⟨h, _, _⟩ := h; cases h with | mk _ _ _ h4 h5 _ _ _ _ => exact ⟨h1, h5, h4⟩))
    (do78 (fun p w' h1 h2 => cop_bare p w' h1 h2)) (do79 (by omega) T2 (Nat.le_refl _) (by omega) (fun p h => fitB_all (by omega) p h) (fun p w' h1 h2 => cop_bare p w' h1 h2))
  have hrs : ∀ (w : World) (a : Addr) (f : Nat) (x : Array Value), (store a (Value.func (Fn.func f) x #[])).run Tryd.prog w = _ := fun w a f x => run_store Tryd.prog w a (.func (.func f) x #[]) .plain rfl
  have HW2 : Hid ((w.alloc (.cells #[.int .i64 0, .int .i64 0, .string { data := #[] }, .slice none 0 0, .slice none 0 0] 25)).alloc (.cells #[.func (.func 49) #[.agg #[.int .i64 by_, .int .i64 from_]] #[], .func (.func 44) #[] #[], .slice none 0 0] 71) = w2) := hw2
  clear hw2
  go_enter Tryd.func41, Tryd.ntmps41
  go_wp2_with fail
  rw [HW2.out]
  refine hcall.mono ?_
  rintro e w3 ⟨T', hi, rfl, ht, hb3⟩
  have R3 := R2.below hb3 (Nat.lt_succ_self _)
  have x0 := R3.cell (j := 0) rfl
  have x1 := R3.cell (j := 1) rfl
  have x2 := R3.cell (j := 2) rfl
  have x3 := R3.cell (j := 3) rfl
  have x4 := R3.cell (j := 4) rfl
  have f0 := R3.frozen 0
  have f1 := R3.frozen 1
  have f2 := R3.frozen 2
  have f3 := R3.frozen 3
  have f4 := R3.frozen 4
  clear hcall
  go_wp2_with fail
  obtain ⟨Q, K⟩ := st5 R3 (.int .i64 T'.k) (.int .i64 T'.n) (.string T'.s) (.slice T'.la T'.ls.length T'.lc) (.slice T'.a T'.args.length T'.c)
  have s0 := Q.cell (j := 0) rfl
  have s1 := Q.cell (j := 1) rfl
  have s2 := Q.cell (j := 2) rfl
  have s3 := Q.cell (j := 3) rfl
  have s4 := Q.cell (j := 4) rfl
  have hz3 := hb3.size
  have hkb := K.below (B := w.heap.size) (by omega) (fun k e => Nat.le_of_eq e.symm)
  exact bodyPost_ret (v := (Value.agg #[.int .i64 T'.k, .int .i64 T'.n, .string T'.s, .slice T'.la T'.ls.length T'.lc, .slice T'.a T'.args.length T'.c])) (by simp [results, Tryd.results41, go_sem, s0, s1, s2, s3, s4]) rfl ⟨T', hi, rfl, TIn.carry (fun k hk => K.block k hk.2.1 (fun e => by omega)) (fun k hk => ⟨by omega, Nat.lt_of_lt_of_le hk.2.1 K.size, fun hx => hk.2.2 ((XB.carry (K.block k hk.2.1 (fun e => by omega))).1 hx)⟩) T' ht, hb2.trans ((hb3.mono (Nat.le_succ _)).trans hkb)⟩
end Go.Proofs.YtbmijpjmdpdfkaaDoor
