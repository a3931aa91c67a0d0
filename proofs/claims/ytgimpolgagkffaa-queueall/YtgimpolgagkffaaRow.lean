/- A row of entries in memory; the walks of Len, isBefore, Less and Swap. No condition but that the places are in the row. -/
import Derived.Test.YtgimpolgagkffaaPlain
import Derived.Test.YtgimpolgagkffaaApp
import Derived.Test.YtgimpolgagkffaaOver
namespace Go.Proofs.Ytgimpolgagkffaa
open Go.RowKit

def En.vals (x : En) : List Value := [.int .i64 x.wt, .int .i64 x.num, .int .i64 (x.turn : Int)]
def En.val (x : En) : Value := .agg #[.int .i64 x.wt, .int .i64 x.num, .int .i64 (x.turn : Int)]
def flat (L : List En) : List Value := (L.map En.vals).flatten

theorem flat_length (L : List En) : (flat L).length = L.length * 3 := by
  induction L with
  | nil => rfl
  | cons x r ih => unfold flat at ih ⊢; simp only [List.map_cons, List.flatten_cons, List.length_append, ih, List.length_cons, En.vals, List.length_nil]; omega

theorem flat_append (L M : List En) : flat (L ++ M) = flat L ++ flat M := by simp [flat]

theorem flat_get {L : List En} : ∀ {i j : Nat} {x : En}, L[i]? = some x → j < 3 → (flat L)[i * 3 + j]? = x.vals[j]? := by
  induction L with
  | nil => intro i j x h; simp at h
  | cons y r ih =>
    intro i j x h hj
    have e : flat (y :: r) = y.vals ++ flat r := rfl
    rw [e]
    cases i with
    | zero => simp at h; subst h; rw [Nat.zero_mul, Nat.zero_add, List.getElem?_append_left (by simpa [En.vals] using hj)]
    | succ i =>
      rw [List.getElem?_append_right (by simp [En.vals]; omega), show (i + 1) * 3 + j - y.vals.length = i * 3 + j by simp [En.vals]; omega]
      exact ih (by simpa using h) hj

theorem flat_set {L : List En} : ∀ {i : Nat} (x : En), i < L.length → flat (L.set i x) = (((flat L).set (i * 3) (.int .i64 x.wt)).set (i * 3 + 1) (.int .i64 x.num)).set (i * 3 + 2) (.int .i64 (x.turn : Int)) := by
  induction L with
  | nil => intro i x h; simp at h
  | cons y r ih =>
    intro i x h
    have e : ∀ y r, flat (y :: r) = y.vals ++ flat r := fun _ _ => rfl
    cases i with
    | zero => simp [e, En.vals]
    | succ i =>
      rw [List.set_cons_succ, e, e, ih x (by simpa using h)]
      have e3 : ∀ (m : Nat) (l : List Value) (v : Value), (y.vals ++ l).set (m + 3) v = y.vals ++ l.set m v := fun m l v => by
        rw [List.set_append_right _ _ (by simp [En.vals])]; simp [En.vals]
      rw [show (i + 1) * 3 = i * 3 + 3 by omega, show i * 3 + 3 + 1 = i * 3 + 1 + 3 by omega, show i * 3 + 3 + 2 = i * 3 + 2 + 3 by omega, e3, e3, e3]

/-- Block b holds the entries L, and has room for cap. -/
def Row (w : World) (b cap : Nat) (L : List En) : Prop := w.ownsRow 0 57 3 (.slice (some ⟨b, 0, none⟩) L.length cap) L.length (flat L)

theorem Row.cells {w : World} {b cap : Nat} {L : List En} (h : Row w b cap L) {i : Nat} (hi : i < L.length) :
    w.cell? ⟨b, i * 3, none⟩ = some (.int .i64 (nth L i).wt) ∧ w.cell? ⟨b, i * 3 + 1, none⟩ = some (.int .i64 (nth L i).num) ∧ w.cell? ⟨b, i * 3 + 2, none⟩ = some (.int .i64 ((nth L i).turn : Int)) := by
  have c : ∀ j v, j < 3 → (nth L i).vals[j]? = some v → w.cell? ⟨b, i * 3 + j, none⟩ = some v := fun j v hj hv => by
    obtain ⟨g, e, _, _, _, _, hc⟩ := owns_cell h ((flat_get (nth_get hi) hj).trans hv)
    obtain rfl : b = g := by simpa using e
    exact hc
  exact ⟨c 0 _ (by omega) rfl, c 1 _ (by omega) rfl, c 2 _ (by omega) rfl⟩

theorem Row.lt {w : World} {b cap : Nat} {L : List En} (h : Row w b cap L) : b < w.heap.size := (owns_own h rfl).2
theorem Row.le {w : World} {b cap : Nat} {L : List En} (h : Row w b cap L) : L.length ≤ cap ∧ cap ≤ maxLen := by
  rcases h.2 with ⟨h0, _⟩ | ⟨g', c', cur, he, h1, hcur, h2, h3, h4, h5⟩
  · cases h0
  · simp only [Value.slice.injEq] at he
    obtain ⟨_, _, rfl⟩ := he
    exact ⟨h2, h3⟩
theorem Row.frozen {w : World} {b cap : Nat} {L : List En} (h : Row w b cap L) (j : Nat) : w.frozen? ⟨b, j, none⟩ = false := owns_frozen h j
theorem Row.carry {w w' : World} {b cap : Nat} {L : List En} (h : Row w b cap L) (hb : w'.heap[b]? = w.heap[b]?) : Row w' b cap L := owns_block h (fun g hg => by simp [Value.ownBlock] at hg; subst hg; exact hb)
theorem Row.below {C : Nat} {w w' : World} {b cap : Nat} {L : List En} (h : Row w b cap L) (hb : Below C w w') (hC : b < C) : Row w' b cap L := h.carry (hb.block b hC)

/-- One entry written. -/
theorem Row.set {w : World} {b cap : Nat} {L : List En} (h : Row w b cap L) {i : Nat} (hi : i < L.length) (x : En) :
    Row (((w.setCell ⟨b, i * 3, none⟩ (.int .i64 x.wt)).setCell ⟨b, i * 3 + 1, none⟩ (.int .i64 x.num)).setCell ⟨b, i * 3 + 2, none⟩ (.int .i64 (x.turn : Int))) b cap (L.set i x) := by
  unfold Row
  rw [flat_set x hi, List.length_set]
  exact owns_set (owns_set (owns_set h _ _) _ _) _ _

theorem Row.cut {w : World} {b cap : Nat} {L : List En} (h : Row w b cap L) (m : Nat) (hm : m ≤ L.length) : Row w b cap (L.take m) := by
  unfold Row at h ⊢
  have e : flat L = flat (L.take m) ++ flat (L.drop m) := by rw [← flat_append, List.take_append_drop]
  rw [e] at h
  have hl : (L.take m).length = m := by simp; omega
  rw [hl]
  exact owns_cut h (by rw [flat_length, hl]) hm

set_option maxRecDepth 100000 in
set_option maxHeartbeats 1000000 in
theorem len_any (ao : Option Addr) (n cap : Nat) (w : World) : Calls Try.prog 66 #[.slice ao n cap] w fun e w' => e = .returned (.int .i64 (n : Int)) ∧ w = w' := by
  go_enter Try.func66, Try.ntmps66
  go_wp2_with fail
  go_ret
  exact ⟨rfl, rfl⟩

set_option maxRecDepth 100000 in
set_option maxHeartbeats 1000000 in
theorem isBefore_any (x y : En) (w : World) : Calls Try.prog 69 #[x.val, y.val] w fun e w' => e = .returned (.bool (before x y)) ∧ Below w.heap.size w w' := by
  unfold En.val
  obtain ⟨xw, xn, xt⟩ := x
  obtain ⟨yw, yn, yt⟩ := y
  have hb : Below w.heap.size w ((w.alloc (.cells #[.int .i64 xw, .int .i64 xn, .int .i64 (xt : Int)] 57)).alloc (.cells #[.int .i64 yw, .int .i64 yn, .int .i64 (yt : Int)] 57)) := ((Below.refl _ _).alloc (Nat.le_refl _) _).alloc (by simp) _
  have HB : Hid _ := hb
  clear hb
  unfold before
  by_cases h : xw = yw
  · subst h
    by_cases h2 : xt < yt
    · go_enter Try.func69, Try.ntmps69
      go_wp2_with fail
      go_ret
      exact ⟨by simp, HB.out⟩
    · go_enter Try.func69, Try.ntmps69
      go_wp2_with fail
      go_ret
      exact ⟨by simp, HB.out⟩
  · by_cases h2 : xw < yw
    · go_enter Try.func69, Try.ntmps69
      go_wp2_with fail
      go_ret
      exact ⟨by simp, HB.out⟩
    · go_enter Try.func69, Try.ntmps69
      go_wp2_with fail
      go_ret
      exact ⟨by simp [h2], HB.out⟩

end Go.Proofs.Ytgimpolgagkffaa
