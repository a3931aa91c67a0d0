/- The walks of container/heap's Init over a queue's row, of a law's question, and of slices' Index and Contains over a row of entries. No condition but sizes. -/
import Derived.Test.YtgimpolgagkffaaQs3
namespace Go.Proofs.Ytgimpolgagkffaa
open Go.RowKit

theorem DnOk.of {L : List En} {n i : Nat} (h : HeapFrom L n (i + 1)) : DnOk L n i i :=
  ⟨fun k h0 h1 h2 h3 => h k h0 h1 (by omega), fun h0 h1 => by omega⟩

theorem heap_half (L : List En) (n : Nat) : HeapFrom L n (n / 2) := fun k h0 h1 h2 => by omega

/-- What Init leaves. -/
structure Inited (w w' : World) (g b cap : Nat) (L L' : List En) : Prop where
  perm : L'.Perm L
  heap : HeapFrom L' L'.length 0
  q : QR w' g b cap L'
  keep : Keep w w' (· = b)

set_option maxRecDepth 100000 in
set_option maxHeartbeats 2000000 in
theorem init_any (g b cap : Nat) (L : List En) (w : World) (hQ : QR w g b cap L) (hm : L.length ≤ 1000000) :
    Calls Try.prog 22 #[.iface 55 (.pointer (some ⟨g, 0, none⟩))] w fun e w' => e = .returned (.tuple #[]) ∧ ∃ L', Inited w w' g b cap L L' := by
  have e66 : ∀ args w, (callFunc 66 args).run Try.prog w = .ok (.enter 66 args) w := enter_of Try.func66 (by kernel_rfl) rfl
  have mN := m_len g w _ hQ.cell
  obtain ⟨n, HN⟩ : ∃ n, Hid (L.length = n) := ⟨_, rfl⟩
  rw [HN.out] at mN hm
  have hd : (n : Int).tdiv 2 = ((n / 2 : Nat) : Int) := (Int.ofNat_tdiv n 2).symm
  obtain ⟨k, hk⟩ : ∃ k, n / 2 = k := ⟨_, rfl⟩
  rw [hk] at hd
  have hk9 : k ≤ n := by omega
  have HK : Hid _ := hk
  clear hk
  go_enter Try.func22, Try.ntmps22
  go_wp2_with fail
  refine (len_any _ n cap w).mono ?_
  rintro e _ ⟨rfl, rfl⟩
  clear mN
  go_wp2_with fail
  go_loopw [3] (fun vi wr => ∃ (i : Nat) (L' : List En), vi = .int .i64 ((i : Int) - 1) ∧ i ≤ k ∧ HeapFrom L' n i ∧ L'.Perm L ∧ QR wr g b cap L' ∧ Keep w wr (· = b)) (fun vi _ => (intOf vi + 1).toNat)
  case atStart => exact ⟨k, L, by go_num, Nat.le_refl _, by have := heap_half L n; rwa [HK.out] at this, List.Perm.refl _, hQ, Keep.refl _ _⟩
  case round =>
    clear hQ
    obtain ⟨i, L', rfl, hik, hH, hP, hQ, hK⟩ := hrel
    by_cases hi : i = 0
    · subst hi
      have FF : Hid (Inited w wr g b cap L L') := ⟨hP, by rw [hP.length_eq, HN.out]; exact hH, hQ, hK⟩
      clear hH hP hQ hK
      go_wp2_with fail
      go_end0
      exact ⟨rfl, L', FF.out⟩
    · obtain ⟨j, HJ⟩ : ∃ j, Hid (i = j + 1) := ⟨i - 1, show i = _ by omega⟩
      have hj : (i : Int) - 1 = (j : Int) := by have := HJ.out; omega
      have hjk : j < k := by have := HJ.out; omega
      have hkn : 2 * k ≤ n := by have := HK.out; omega
      have cD := down_any g b cap L' j n wr hQ (by omega) (by rw [hP.length_eq, HN.out]; omega) (by rw [hP.length_eq, HN.out]; omega) (DnOk.of (by rw [← HJ.out]; exact hH))
      rw [hj]
      go_wp2_with fail
      refine cD.mono ?_
      rintro e w2 ⟨⟨r, rfl⟩, L2, hE⟩
      have REL : Hid (HeapFrom L2 n j ∧ L2.Perm L ∧ QR w2 g b cap L2 ∧ Keep w w2 (· = b)) := ⟨hE.ok, hE.perm.trans hP, hE.q, hK.trans hE.keep (fun _ _ e => e)⟩
      clear cD hE hQ hK hP hH hj
      go_wp2_with fail
      go_roundw
      case rel => exact ⟨j, L2, by go_num, by omega, REL.out⟩
      case measure => simp [intOf]

/-- What a law's question says of a number. -/
def par (rest num : Int) : Bool := num.tmod 4 % 4 == rest

set_option maxRecDepth 100000 in
set_option maxHeartbeats 2000000 in
theorem par_any (rest wt num : Int) (w : World) : Calls Try.prog 13 #[.agg #[.int .i64 rest], .agg #[.int .i64 wt, .int .i64 num]] w fun e w' => e = .returned (.bool (par rest num)) ∧ Below w.heap.size w w' := by
  have h4 : -3 ≤ num.tmod 4 ∧ num.tmod 4 ≤ 3 := by
    rcases Int.le_total 0 num with h | h
    · rw [Int.tmod_eq_emod_of_nonneg h]; omega
    · have := Int.neg_tmod (-num) 4
      rw [Int.neg_neg] at this
      rw [this, Int.tmod_eq_emod_of_nonneg (by omega)]; omega
  obtain ⟨h4a, h4b⟩ := h4
  unfold par
  go_enter Try.func13, Try.ntmps13
  go_wp2_with fail
  go_ret
  exact ⟨rfl, ((Below.refl _ _).alloc (Nat.le_refl _) _).alloc (by simp) _⟩
end Go.Proofs.Ytgimpolgagkffaa
