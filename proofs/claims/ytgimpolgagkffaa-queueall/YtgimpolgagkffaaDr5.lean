/- The walks of slices' IndexFunc and DeleteFunc over a queue's row, with has of another row. No condition but sizes. -/
import Derived.Test.YtgimpolgagkffaaDr2
namespace Go.Proofs.Ytgimpolgagkffaa
open Go.RowKit

/-- What IndexFunc tells: the first that is in G. -/
def IsFirst (L G : List En) (i : Int) : Prop := (i = -1 ∧ ∀ x ∈ L, x ∉ G) ∨ ∃ k : Nat, i = (k : Int) ∧ k < L.length ∧ nth L k ∈ G ∧ ∀ j, j < k → nth L j ∉ G

set_option maxRecDepth 100000 in
set_option maxHeartbeats 2000000 in
theorem indexf_any (ao : Option Addr) (cap : Nat) (L : List En) (ag : Option Addr) (cg : Nat) (G : List En) (w : World) (h : ORow w ao cap L) (hG : ORow w ag cg G) (hm : L.length ≤ 256) (hmg : G.length ≤ 1000000) :
    Calls Try.prog 28 #[.slice ao L.length cap, .func (.func 21) #[.slice ag G.length cg] #[]] w fun e w' => ∃ i, e = .returned (.int .i64 i) ∧ IsFirst L G i ∧ Below w.heap.size w w' := by
  have e21 : ∀ args w, (callFunc 21 args).run Try.prog w = .ok (.enter 21 args) w := enter_of Try.func21 (by kernel_rfl) rfl
  obtain ⟨n, HN⟩ : ∃ n, Hid (L.length = n) := ⟨_, rfl⟩
  obtain ⟨m, HM⟩ : ∃ m, Hid (G.length = m) := ⟨_, rfl⟩
  rw [HN.out] at hm ⊢
  rw [HM.out]
  go_enter Try.func28, Try.ntmps28
  go_wp2_with fail
  go_loopw [8] (fun vi wr => ∃ (i : Nat), vi = .int .i64 (i : Int) ∧ i ≤ n ∧ Hid (∀ k, k < i → nth L k ∉ G) ∧ Below w.heap.size w wr) (fun vi _ => n - (intOf vi).toNat)
  case atStart => exact ⟨0, rfl, Nat.zero_le _, (fun k hk => by omega), Below.refl _ _⟩
  case round =>
    obtain ⟨i, rfl, hi, hno, hb⟩ := hrel
    by_cases hin : i < n
    · obtain ⟨b, cap', e1, hR⟩ := row_of (owns_below h hb) (by have := HN.out; omega)
      have e2 : ao = some ⟨b, 0, none⟩ ∧ cap = cap' := by simpa using e1
      obtain ⟨rfl, rfl⟩ := e2
      clear e1
      obtain ⟨y0, y1, y2⟩ := hR.cells (i := i) (by have := HN.out; omega)
      have hle := hR.le
      rw [HN.out] at hle
      have cH := has_any ag cg G (nth L i) wr (owns_below hG hb) hmg
      obtain ⟨y, hy⟩ : ∃ y, nth L i = y := ⟨_, rfl⟩
      rw [hy] at y0 y1 y2 cH
      rw [HM.out] at cH
      have HY : Hid _ := hy
      clear hy hR
      obtain ⟨yw, yn, yt⟩ := y
      unfold En.val at cH
      simp only at cH
      cases hd : decide ((⟨yw, yn, yt⟩ : En) ∈ G) with
      | true =>
        rw [hd] at cH
        have FF : Hid (IsFirst L G (i : Int)) := .inr ⟨i, rfl, by have := HN.out; omega, by rw [HY.out]; exact of_decide_eq_true hd, hno.out⟩
        clear hd
        go_wp2_with fail
        refine cH.mono ?_
        rintro e w2 ⟨rfl, hb2⟩
        clear cH y0 y1 y2
        go_wp2_with fail
        go_ret
        exact ⟨_, rfl, FF.out, hb.trans (hb2.mono hb.size)⟩
      | false =>
        rw [hd] at cH
        have NO : Hid (∀ k, k < i + 1 → nth L k ∉ G) := fun k hk => (show k < i ∨ k = i by omega).elim (hno.out k) (fun e => by rw [e, HY.out]; exact of_decide_eq_false hd)
        clear hd
        go_wp2_with fail
        refine cH.mono ?_
        rintro e w2 ⟨rfl, hb2⟩
        clear cH y0 y1 y2
        go_wp2_with fail
        go_roundw
        case rel => exact ⟨i + 1, by go_num, hin, NO.out, hb.trans (hb2.mono hb.size)⟩
        case measure => simp [intOf]; omega
    · have FF : Hid (IsFirst L G (-1)) := .inl ⟨rfl, fun x hx => by
        obtain ⟨k, hk, e⟩ := mem_nth hx
        rw [← e]; exact hno.out k (by have := HN.out; omega)⟩
      go_wp2_with fail
      go_ret
      exact ⟨_, rfl, FF.out, hb⟩
end Go.Proofs.Ytgimpolgagkffaa
