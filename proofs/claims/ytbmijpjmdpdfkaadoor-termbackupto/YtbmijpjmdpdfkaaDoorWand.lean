/- What a turn's pending jobs owe: in every later world in which they are done, the root is done. Plain facts of worlds, of no program. -/
import Derived.Test.YtbmijpjmdpdfkaaDoorCop
namespace Go.Proofs.YtbmijpjmdpdfkaaDoor
open Go.RowKit

/-- A block of jobs, or the turn's own. -/
def XB (w : World) (k : Nat) : Prop := ∃ cs t fr, w.heap[k]? = some (.cells cs t fr) ∧ (t = 114 ∨ t = 71 ∨ t = 111)

theorem XB.carry {w w' : World} {k : Nat} (hb : w'.heap[k]? = w.heap[k]?) : XB w' k ↔ XB w k := by unfold XB; rw [hb]

/-- W comes behind w: nothing has changed but blocks of jobs, and the places of the jobs J. -/
structure Later (w W : World) (J : List (Pt × Nat × Nat)) : Prop where
  size : w.heap.size ≤ W.heap.size
  xb : ∀ k, k < w.heap.size → ¬ XB w k → ¬ XB W k
  block : ∀ k, k < w.heap.size → ¬ XB w k → (∀ x ∈ J, x.2.1 ≠ k) → W.heap[k]? = w.heap[k]?
  cell : ∀ k c, k < w.heap.size → ¬ XB w k → (∀ x ∈ J, x.2.1 = k → c < x.2.2 ∨ x.2.2 + 5 ≤ c) → W.cell? ⟨k, c, none⟩ = w.cell? ⟨k, c, none⟩

theorem Later.refl (w : World) (J : List (Pt × Nat × Nat)) : Later w w J := ⟨Nat.le_refl _, fun _ _ h => h, fun _ _ _ _ => rfl, fun _ _ _ _ _ => rfl⟩
theorem Later.trans {w w' W : World} {J1 J2 J3 : List (Pt × Nat × Nat)} (h1 : Later w w' J1) (h2 : Later w' W J2) (hJ1 : ∀ x ∈ J1, x ∈ J3) (hJ2 : ∀ x ∈ J2, x ∈ J3 ∨ w.heap.size ≤ x.2.1) : Later w W J3 := by
  refine ⟨Nat.le_trans h1.size h2.size, fun k hk h => h2.xb k (Nat.lt_of_lt_of_le hk h1.size) (h1.xb k hk h), fun k hk hn hJ => ?_, fun k c hk hn hJ => ?_⟩
  · refine (h2.block k (Nat.lt_of_lt_of_le hk h1.size) (h1.xb k hk hn) (fun x hx => ?_)).trans (h1.block k hk hn (fun x hx => hJ x (hJ1 x hx)))
    rcases hJ2 x hx with h | h
    · exact hJ x h
    · omega
  · refine (h2.cell k c (Nat.lt_of_lt_of_le hk h1.size) (h1.xb k hk hn) (fun x hx e => ?_)).trans (h1.cell k c hk hn (fun x hx => hJ x (hJ1 x hx)))
    rcases hJ2 x hx with h | h
    · exact hJ x h e
    · omega

/-- A part's place holds what becomes of it, all of it in blocks from B on. -/
def DoneB (Img : Pt → Tr → Prop) (B : Nat) (W : World) (x : Pt × Nat × Nat) : Prop := ∃ T', Img x.1 T' ∧ TCells W x.2.1 x.2.2 T' ∧ TIn W (fun k => B ≤ k ∧ k < W.heap.size ∧ ¬ XB W k) T'

/-- One job is done, those of K have come for it: what the rest owes stands. -/
theorem wand_step {Img : Pt → Tr → Prop} {B : Nat} {G : World → Prop} {w w' : World} {x : Pt × Nat × Nat} {J K : List (Pt × Nat × Nat)} (wd : ∀ W, Later w W (x :: J) → (∀ y ∈ x :: J, DoneB Img B W y) → G W)
    (L : Later w w' [x]) (hnew : ∀ y ∈ K, w.heap.size ≤ y.2.1) (hd : ∀ W, Later w' W (K ++ J) → (∀ y ∈ K, DoneB Img B W y) → DoneB Img B W x) :
    ∀ W, Later w' W (K ++ J) → (∀ y ∈ K ++ J, DoneB Img B W y) → G W := by
  intro W hL hall
  refine wd W (L.trans hL (fun y hy => ?_) (fun y hy => ?_)) (fun y hy => ?_)
  · simp at hy; simp [hy]
  · rcases List.mem_append.1 hy with h | h
    · exact .inr (hnew y h)
    · exact .inl (List.mem_cons_of_mem _ h)
  · rcases List.mem_cons.1 hy with rfl | h
    · exact hd W hL (fun z hz => hall z (List.mem_append.2 (.inl hz)))
    · exact hall y (List.mem_append.2 (.inr h))

/-- Cells of a place that no pending job has stay. -/
theorem Later.tcells {w W : World} {J : List (Pt × Nat × Nat)} (h : Later w W J) {b o : Nat} {T : Tr} (hc : TCells w b o T) (hX : ¬ XB w b) (hJ : ∀ x ∈ J, x.2.1 = b → o + 5 ≤ x.2.2 ∨ x.2.2 + 5 ≤ o) : TCells W b o T := by
  have hb := hc.lt
  have key : ∀ i, i < 5 → W.cell? ⟨b, o + i, none⟩ = w.cell? ⟨b, o + i, none⟩ := fun i hi => h.cell b (o + i) hb hX (fun x hx e => by have := hJ x hx e; omega)
  exact ⟨(key 0 (by omega)).trans hc.c0, (key 1 (by omega)).trans hc.c1, (key 2 (by omega)).trans hc.c2, (key 3 (by omega)).trans hc.c3, (key 4 (by omega)).trans hc.c4⟩

/-- A term in blocks made since stays, where no pending job's place is in one. -/
theorem Later.tin {w W : World} {J : List (Pt × Nat × Nat)} {B N : Nat} (h : Later w W J) (hB : B ≤ N) {T : Tr} (hc : TIn w (fun k => N ≤ k ∧ k < w.heap.size ∧ ¬ XB w k) T) (hJ : ∀ x ∈ J, x.2.1 < N) : TIn W (fun k => B ≤ k ∧ k < W.heap.size ∧ ¬ XB W k) T :=
  TIn.carry (fun b hb => h.block b hb.2.1 hb.2.2 (fun x hx e => by have := hJ x hx; omega)) (fun b hb => ⟨by omega, Nat.lt_of_lt_of_le hb.2.1 h.size, h.xb b hb.2.1 hb.2.2⟩) T hc
theorem Later.node {w W : World} {J : List (Pt × Nat × Nat)} {B N : Nat} (h : Later w W J) (hB : B ≤ N) {ls : List Lv} {la : Option Addr} {lc nb : Nat} (hc : Node w (fun k => N ≤ k ∧ k < w.heap.size ∧ ¬ XB w k ∧ k ≠ nb) 0 0 ls la lc) (hJ : ∀ x ∈ J, x.2.1 < N ∨ x.2.1 = nb) : Node W (fun k => B ≤ k ∧ k < W.heap.size ∧ ¬ XB W k) 0 0 ls la lc :=
  hc.carry (fun b hb => h.block b hb.2.1 hb.2.2.1 (fun x hx e => by have := hJ x hx; have := hb.1; have := hb.2.2.2; omega)) (fun b hb => ⟨by have := hb.1; omega, Nat.lt_of_lt_of_le hb.2.1 h.size, h.xb b hb.2.1 hb.2.2.1⟩)

theorem leaf_done {Img : Pt → Tr → Prop} {B N : Nat} {w' : World} {p : Pt} {b o : Nat} {J : List (Pt × Nat × Nat)} {T' : Tr} (hi : Img p T') (hc : TCells w' b o T') (ht : TIn w' (fun k => N ≤ k ∧ k < w'.heap.size ∧ ¬ XB w' k) T') (hB : B ≤ N) (hJ : ∀ x ∈ J, x.2.1 < N)
    (hX : ¬ XB w' b) (hdis : ∀ x ∈ J, x.2.1 = b → o + 5 ≤ x.2.2 ∨ x.2.2 + 5 ≤ o) : ∀ W, Later w' W J → DoneB Img B W (p, b, o) :=
  fun _ hL => ⟨T', hi, hL.tcells hc hX hdis, hL.tin hB ht hJ⟩

/-- Of each index one: a list of them. -/
theorem list_of {α : Type} {P : Nat → α → Prop} : ∀ (n : Nat), (∀ i, i < n → ∃ a, P i a) → ∃ l : List α, l.length = n ∧ ∀ i a, l[i]? = some a → P i a
  | 0, _ => ⟨[], rfl, fun i a h => by simp at h⟩
  | n + 1, h => by
    obtain ⟨l, hl, hP⟩ := list_of n (fun i hi => h i (by omega))
    obtain ⟨a, ha⟩ := h n (by omega)
    refine ⟨l ++ [a], by simp [hl], fun i x hx => ?_⟩
    by_cases hi : i < n
    · rw [List.getElem?_append_left (by omega)] at hx; exact hP i x hx
    · rw [List.getElem?_append_right (by omega)] at hx
      have hz : i - l.length = 0 := by
        have := (List.getElem?_eq_some_iff.1 hx).1
        simp at this; omega
      rw [hz] at hx
      simp at hx
      subst hx
      rw [show i = n from by omega]; exact ha

/-- What becomes of a part: of a Var what RV says; all else keeps its Kind, number and Name, its Levels become what RL says, and its args what becomes of them. -/
inductive Img (RV : Pt → Tr → Prop) (RL : List Lv → List Lv → Prop) : Pt → Tr → Prop
  | var {p : Pt} {T' : Tr} : p.t.k = 0 → RV p T' → Img RV RL p T'
  | leaf {p : Pt} {T' : Tr} : (p.t.k = 1 ∨ p.t.k = 2) → T'.k = p.t.k → T'.n = p.t.n → T'.s = p.t.s → RL p.t.ls T'.ls → T'.args = [] → Img RV RL p T'
  | branch {p : Pt} {T' : Tr} : 3 ≤ p.t.k → p.t.k ≤ 6 → T'.k = p.t.k → T'.n = p.t.n → T'.s = p.t.s → RL p.t.ls T'.ls → T'.args.length = p.t.args.length → (∀ i T U, p.t.args[i]? = some T → T'.args[i]? = some U → Img RV RL (p.kid i T) U) → Img RV RL p T'

theorem branch_done {RV : Pt → Tr → Prop} {RL : List Lv → List Lv → Prop} {B N : Nat} {w' : World} {p : Pt} {b o nb oc len : Nat} {oa : Option Addr} {ls' : List Lv} {J K : List (Pt × Nat × Nat)} (hk3 : 3 ≤ p.t.k) (hk6 : p.t.k ≤ 6) (hn0 : -9223372036854775808 ≤ p.t.n) (hn1 : p.t.n ≤ 9223372036854775807) (hrl : RL p.t.ls ls') (hlen : p.t.args.length = len) (hl2 : len ≤ 1000)
    (c0 : w'.cell? ⟨b, o, none⟩ = some (.int .i64 p.t.k)) (c1 : w'.cell? ⟨b, o + 1, none⟩ = some (.int .i64 p.t.n)) (c2 : w'.cell? ⟨b, o + 2, none⟩ = some (.string p.t.s)) (c3 : w'.cell? ⟨b, o + 3, none⟩ = some (.slice oa ls'.length oc)) (c4 : w'.cell? ⟨b, o + 4, none⟩ = some (.slice (some ⟨nb, 0, none⟩) len len))
    (hno : Node w' (fun k => N ≤ k ∧ k < w'.heap.size ∧ ¬ XB w' k ∧ k ≠ nb) 0 0 ls' oa oc) (hBN : B ≤ N) (hnb : N ≤ nb) (hnl : nb < w'.heap.size) (hnX : ¬ XB w' nb) (hb : b < N) (hX : ¬ XB w' b) (hJ : ∀ x ∈ J, x.2.1 < N) (hdis : ∀ x ∈ J, x.2.1 = b → o + 5 ≤ x.2.2 ∨ x.2.2 + 5 ≤ o)
    (hK : ∀ x ∈ K, x.2.1 = nb) (hkids : ∀ i T, p.t.args[i]? = some T → (p.kid i T, nb, i * 5) ∈ K) :
    ∀ W, Later w' W (K ++ J) → (∀ y ∈ K, DoneB (Img RV RL) B W y) → DoneB (Img RV RL) B W (p, b, o) := by
  intro W hL hall
  obtain ⟨l, hll, hl⟩ := list_of (P := fun i U => ∀ T, p.t.args[i]? = some T → Img RV RL (p.kid i T) U ∧ TCells W nb (i * 5) U ∧ TIn W (fun k => B ≤ k ∧ k < W.heap.size ∧ ¬ XB W k) U) len (fun i hi => by
    have hg := List.getElem?_eq_getElem (l := p.t.args) (i := i) (by omega)
    obtain ⟨U, h1, h2, h3⟩ := hall _ (hkids i _ hg)
    exact ⟨U, fun T hT => by rw [hg] at hT; cases hT; exact ⟨h1, h2, h3⟩⟩)
  have hd2 : ∀ x ∈ K ++ J, x.2.1 = b → o + 5 ≤ x.2.2 ∨ x.2.2 + 5 ≤ o := fun x hx e => by
    rcases List.mem_append.1 hx with h | h
    · have := hK x h; omega
    · exact hdis x h e
  have hcell : TCells w' b o (.mk p.t.k p.t.n p.t.s ls' oa oc (some ⟨nb, 0, none⟩) len nb 0 l) := ⟨c0, c1, c2, c3, by simpa [Tr.a, Tr.args, Tr.c, hll] using c4⟩
  have hnode := hL.node (B := B) hBN hno (fun x hx => by
    rcases List.mem_append.1 hx with h | h
    · exact .inr (hK x h)
    · exact .inl (hJ x h))
  refine ⟨.mk p.t.k p.t.n p.t.s ls' oa oc (some ⟨nb, 0, none⟩) len nb 0 l, .branch hk3 hk6 rfl rfl rfl hrl (hll.trans hlen.symm) (fun i T U hT hU => (hl i U hU T hT).1), hL.tcells hcell hX hd2, ?_⟩
  refine tin_iff.2 ⟨?_, ?_, hn0, hn1, hnode, Nat.le_of_eq hll, ?_, .inr ⟨rfl, ?_, ?_⟩⟩
  · show -9223372036854775808 ≤ p.t.k; omega
  · show p.t.k ≤ 9223372036854775807; omega
  · show len ≤ 9223372036854775807; omega
  · exact ⟨by show B ≤ nb; omega, Nat.lt_of_lt_of_le hnl hL.size, hL.xb nb hnl hnX⟩
  · refine TAll.of_get (fun i U hU => ?_)
    have hi : i < l.length := (List.getElem?_eq_some_iff.1 hU).1
    have hg := List.getElem?_eq_getElem (l := p.t.args) (i := i) (by omega)
    have := hl i U hU _ hg
    exact ⟨by show TCells W nb (0 + i * 5) U; rw [Nat.zero_add]; exact this.2.1, this.2.2⟩
end Go.Proofs.YtbmijpjmdpdfkaaDoor
