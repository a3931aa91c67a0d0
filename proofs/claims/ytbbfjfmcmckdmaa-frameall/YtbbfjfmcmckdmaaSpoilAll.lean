/- The walk of the statements' own Spoil, told with what it leaves; values that may be written over. No condition. -/
import Derived.Test.YtbbfjfmcmckdmaaMany
namespace Go.Proofs.Ytbbfjfmcmckdmaa
open Go.RowKit

set_option maxRecDepth 100000 in
set_option maxHeartbeats 400000 in
theorem spoil_row (g n cap : Nat) (l : List Value) (w : World) (hrow : RowIs w g l) (hl : l.length = cap) (hmax : cap ≤ maxLen) :
    Calls Try.prog 18 #[.slice (some ⟨g, 0, none⟩) n cap] w fun e w' => e = .returned (.tuple #[]) ∧ w.grownBy w' (some g) ∧ ∃ l', RowIs w' g l' ∧ Hid (l'.length = cap) := by
  unfold maxLen at hmax
  have HL : Hid (l.length = cap) := hl
  clear hl
  go_enter Try.func18, Try.ntmps18
  go_wp2_with fail
  go_loopw [3] (fun i wr => ∃ (k : Nat) (l' : List Value), k ≤ cap ∧ i = .int .i64 (k : Int) ∧ RowIs wr g l' ∧ Hid (l'.length = cap) ∧ w.grownBy wr (some g)) (fun i _ => cap - (intOf i).toNat)
  case atStart => exact ⟨0, l, by omega, rfl, hrow, HL, grown_refl _ _⟩
  case round =>
    obtain ⟨k, l', hk, rfl, hrow', HL', hg⟩ := hrel
    by_cases hlt : k < cap
    · have hc : wr.cell? ⟨g, k, none⟩ = some (l'[k]'(by rw [HL'.out]; exact hlt)) := hrow'.cell (List.getElem?_eq_getElem _)
      have hf := hrow'.frozen k
      have hr2 := hrow'.set k (.int .u8 90)
      have HL2 : Hid ((l'.set k (.int .u8 90)).length = cap) := by unfold Hid; rw [List.length_set]; exact HL'.out
      clear hrow'
      go_wp2
      go_roundw
      case rel => exact ⟨k + 1, _, by omega, by go_num, hr2, HL2, grown_trans hg (grown_setCell wr g k _)⟩
      case measure => simp [intOf]; omega
    · go_wp2
      go_end0
      exact ⟨rfl, hg, l', hrow', HL'⟩


/-- The blocks that values lie in. -/
def InV (us : List Value) (k : Nat) : Prop := ∃ (j : Nat) (a : Addr) (n c : Nat), us[j]? = some (.slice (some a) n c) ∧ a.block = k

theorem FV.inV {w : World} {L : Nat} {us : List Value} {fs : List (List UInt8)} (h : FV w L us fs) {k : Nat} (hk : InV us k) : L ≤ k ∧ k < w.heap.size ∧ ∃ n cap bs, Own 5 L w k n cap bs := by
  obtain ⟨j, a, n, c, hj, rfl⟩ := hk
  have hl := (List.getElem?_eq_some_iff.1 hj).1
  obtain ⟨ao, m, cap, h1, _, h2⟩ := h.2 j _ (List.getElem?_eq_getElem (by rw [← h.1]; exact hl))
  rw [hj] at h1
  simp at h1
  obtain ⟨rfl, rfl, rfl⟩ := h1
  rcases h2 with ⟨e, _, _⟩ | ⟨b, e, ho⟩
  · cases e
  · simp at e
    subst e
    exact ⟨ho.new, ho.lt, _, _, _, ho⟩

/-- Each value may be written over: it is nil, or a row that is known whole. -/
def SpOk (w : World) (us : List Value) : Prop := ∀ (j : Nat) (v : Value), us[j]? = some v → v = .slice none 0 0 ∨ ∃ h n c l, v = .slice (some ⟨h, 0, none⟩) n c ∧ RowIs w h l ∧ Hid (l.length = c) ∧ c ≤ maxLen

theorem FV.spOk {w : World} {L : Nat} {us : List Value} {fs : List (List UInt8)} (h : FV w L us fs) : SpOk w us := fun j v hv => by
  have hl := (List.getElem?_eq_some_iff.1 hv).1
  obtain ⟨ao, m, cap, h1, _, h2⟩ := h.2 j _ (List.getElem?_eq_getElem (by rw [← h.1]; exact hl))
  rw [hv] at h1
  simp at h1
  subst h1
  rcases h2 with ⟨rfl, rfl, rfl⟩ | ⟨b, rfl, ho⟩
  · exact .inl rfl
  · obtain ⟨cur, e1, e2, _⟩ := ho.row
    exact .inr ⟨b, m, cap, cur.toList, rfl, by unfold RowIs; simpa using e1, by unfold Hid; simpa using e2, ho.max⟩

theorem SpOk.spoil {w w' : World} {us : List Value} {h c : Nat} {l l' : List Value} (k : SpOk w us) (hr : RowIs w h l) (hl : l.length = c) (hg : w.grownBy w' (some h)) (hr' : RowIs w' h l') (hl' : l'.length = c) : SpOk w' us := fun j v hv => by
  rcases k j v hv with e | ⟨h2, n2, c2, l2, e, r2, e2, m2⟩
  · exact .inl e
  · by_cases hh : h2 = h
    · subst hh
      unfold RowIs at hr r2
      rw [hr] at r2
      simp at r2
      subst r2
      exact .inr ⟨h2, n2, c2, l', e, hr', by unfold Hid; rw [hl', ← e2.out, hl], m2⟩
    · exact .inr ⟨h2, n2, c2, l2, e, r2.carry (hg.block h2 r2.lt (by simpa using hh)), e2, m2⟩
end Go.Proofs.Ytbbfjfmcmckdmaa
