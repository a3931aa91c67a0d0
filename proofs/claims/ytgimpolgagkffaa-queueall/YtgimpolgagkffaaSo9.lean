/- sort.Sort over a queue's row: it holds what it held, in some order. No condition but sizes. -/
import Derived.Test.YtgimpolgagkffaaSo8
namespace Go.Proofs.Ytgimpolgagkffaa
open Go.RowKit

/-- A row of entries, that may be nil where it has none. -/
def NRow (w : World) (ao : Option Addr) (cap : Nat) (G : List En) : Prop := w.ownsRow 0 57 3 (.slice ao G.length cap) G.length (flat G)

/-- What sort.Sort leaves. -/
structure Sorted (w w' : World) (ao : Option Addr) (cap : Nat) (L L' : List En) : Prop where
  perm : L'.Perm L
  row : NRow w' ao cap L'
  keep : Keep w w' (fun k => (Value.slice ao L.length cap).ownBlock = some k)

theorem m_lenA (ao : Option Addr) (n cap : Nat) (w : World) : Sem.run Try.prog (method 223 49 (.slice ao n cap) "Len") w = .ok (66, .slice ao n cap) w := by kernel_rfl

theorem bitLen_100 : ∀ n : Fin 257, Lib.bitLen n.val ≤ 100 := by decide +kernel

set_option maxRecDepth 100000 in
set_option maxHeartbeats 2000000 in
theorem sort_any (ao : Option Addr) (cap : Nat) (L : List En) (w : World) (h : NRow w ao cap L) (hm : L.length ≤ 256) :
    Calls Try.prog 26 #[.iface 49 (.slice ao L.length cap)] w fun e w' => e = .returned (.tuple #[]) ∧ ∃ L', Sorted w w' ao cap L L' := by
  have e66 : ∀ args w, (callFunc 66 args).run Try.prog w = .ok (.enter 66 args) w := enter_of Try.func66 (by kernel_rfl) rfl
  have mN := m_lenA ao L.length cap
  by_cases h1 : L.length ≤ 1
  · have FF : Hid (Sorted w w ao cap L L) := ⟨List.Perm.refl _, h, Keep.refl _ _⟩
    clear h
    generalize L.length = n at mN h1 ⊢
    go_enter Try.func26, Try.ntmps26
    go_wp2_with fail
    refine (len_any _ n cap w).mono ?_
    rintro e _ ⟨rfl, rfl⟩
    clear mN
    go_wp2_with fail
    (try simp only [Exit.inBlock, Exit.then])
    refine bodyPost_ret (results_none rfl _ _ _) rfl ?_
    exact ⟨rfl, L, FF.out⟩
  · obtain ⟨b, cap', e1, hR⟩ := row_of h (by omega)
    have e2 : ao = some ⟨b, 0, none⟩ ∧ cap = cap' := by simpa using e1
    obtain ⟨rfl, rfl⟩ := e2
    clear e1 h
    have hP := PR.start hR
    have hbl := bitLen_100 ⟨L.length, by omega⟩
    simp only at hbl
    have FN : Hid (∀ w', PR w b cap L.length L w' → ∃ L', Sorted w w' (some ⟨b, 0, none⟩) cap L L') := fun w' h' => by
      obtain ⟨_, L', hp, hr, hk⟩ := h'
      exact ⟨L', hp, hr, hk.mono (fun k e => by rw [e]; rfl)⟩
    clear hR
    have c31 := bl_any L.length w (by omega)
    generalize Lib.bitLen L.length = l at *
    obtain ⟨n, HN⟩ : ∃ n, Hid (L.length = n) := ⟨_, rfl⟩
    rw [HN.out] at mN h1 hm hP c31 FN ⊢
    have cP := pdq_any b cap n L w hm n 0 (n : Int) (l : Int) w hP (by omega) (by omega) (by omega) (by omega) (by omega) (by omega)
    clear hP
    go_enter Try.func26, Try.ntmps26
    go_wp2_with fail
    refine (len_any _ n cap w).mono ?_
    rintro e _ ⟨rfl, rfl⟩
    clear mN
    go_wp2_with fail
    refine c31.mono ?_
    rintro e _ ⟨rfl, rfl⟩
    clear c31
    go_wp2_with fail
    refine cP.mono ?_
    rintro e w2 ⟨rfl, hP2⟩
    clear cP
    go_wp2_with fail
    go_end0
    exact ⟨rfl, FN.out w2 hP2⟩
end Go.Proofs.Ytgimpolgagkffaa
