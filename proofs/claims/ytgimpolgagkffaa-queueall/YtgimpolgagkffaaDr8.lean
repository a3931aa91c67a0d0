/- The walk of a Queue's Drop with a law's question. No condition but sizes. -/
import Derived.Test.YtgimpolgagkffaaDr4
import Derived.Test.YtgimpolgagkffaaDr7
namespace Go.Proofs.Ytgimpolgagkffaa
open Go.RowKit

/-- Those of which the question is not true. -/
def nos (rest : Int) (S : List En) : List En := S.filter (fun x => !par rest x.num)

theorem outOf_nos {rest : Int} {L G : List En} (h : ∀ x, x ∈ G ↔ x ∈ L ∧ par rest x.num = true) : outOf G L = nos rest L := by
  unfold outOf nos
  apply List.filter_congr
  intro x hx
  have := h x
  by_cases hp : par rest x.num = true
  · rw [hp]; simp; exact this.2 ⟨hx, hp⟩
  · simp only [Bool.not_eq_true] at hp
    rw [hp]; simp
    intro hg
    rw [(this.1 hg).2] at hp; cases hp

set_option maxRecDepth 100000 in
set_option maxHeartbeats 2000000 in
theorem init_zero (g cap : Nat) (ao : Option Addr) (w : World) (hc : w.cell? ⟨g, 0, none⟩ = some (.slice ao 0 cap)) :
    Calls Try.prog 22 #[.iface 55 (.pointer (some ⟨g, 0, none⟩))] w fun e w' => e = .returned (.tuple #[]) ∧ w = w' := by
  have e66 : ∀ args w, (callFunc 66 args).run Try.prog w = .ok (.enter 66 args) w := enter_of Try.func66 (by kernel_rfl) rfl
  have mN := m_len g w _ hc
  have cN := len_any ao 0 cap w
  go_enter Try.func22, Try.ntmps22
  go_wp2_with fail
  refine cN.mono ?_
  rintro e _ ⟨rfl, rfl⟩
  clear mN cN
  go_wp2_with fail
  go_loopw [3] (fun vi wr => vi = .int .i64 (-1) ∧ wr = w) (fun _ _ => 0)
  case atStart => exact ⟨rfl, rfl⟩
  case round =>
    obtain ⟨rfl, rfl⟩ := hrel
    go_wp2_with fail
    go_end0
    exact ⟨rfl, rfl⟩

/-- What Drop leaves. -/
structure QDropped (w w' : World) (g : Nat) (q : Option Nat) (S : List En) (n : Nat) : Prop where
  qs : QS w' g q S n
  keep : Keep w w' (fun k => k = g ∨ q = some k)

theorem info_ao {w : World} {base : Nat} {e : TypeId} {size n : Nat} {v : Value} {xs : List Value} (h : w.ownsRow base e size v n xs) : w.ownsRow 0 e size v n xs := owns_base h (fun _ _ => Nat.zero_le _)

set_option maxRecDepth 100000 in
set_option maxHeartbeats 4000000 in
theorem qdrop_any (rest : Int) (g : Nat) (q : Option Nat) (S : List En) (n : Nat) (w : World) (h : QS w g q S n) :
    Calls Try.prog 12 #[.pointer (some ⟨g, 0, none⟩), askF rest] w fun e w' => e = .returned (.int .i64 ((S.length : Int) - ((nos rest S).length : Int))) ∧ QDropped w w' g q (nos rest S) n := by
  obtain ⟨ao, cap, L, hH, hq, hp⟩ := h.slice
  have hl := hp.length_eq
  have hl256 := h.len
  have hO : ORow w ao cap L := by unfold ORow; rw [hl]; have := hH.row; rw [hl] at this; exact this
  have hpn : (nos rest L).Perm (nos rest S) := hp.filter _
  have hln := hpn.length_eq
  have lg := h.glt
  have c0 := hH.blk.cell (j := 0) rfl
  have cA := asked_any rest (.slice ao S.length cap) L w hH.row (by omega)
  have en : ∀ w, Sem.run Try.prog (binOp BinOp.eql 44 (.func (.func 13) #[.agg #[.int .i64 rest]] #[]) .nilFunc) w = .ok (.bool false) w := fun _ => by kernel_rfl
  have hmf : ∀ (fn : Fn) (first cap : Array Value) (w : World), (Instr.makeFunc fn first cap).run Try.prog w = .ok (.func fn first cap) w := fun _ _ _ _ => rfl
  have hsub : ((S.length : Int) - ((nos rest S).length : Int)) = ((S.length : Int) - ((nos rest L).length : Int)) := by rw [hln]
  rw [hsub]
  have hnl : (nos rest L).length ≤ S.length := by rw [← hl]; exact List.length_filter_le _ _
  unfold askF at cA ⊢
  have HL : Hid _ := hl
  clear hl hsub hln
  obtain ⟨s, HS⟩ : ∃ s, Hid (S.length = s) := ⟨_, rfl⟩
  rw [HS.out] at c0 cA hl256 hnl hH hq ⊢
  go_enter Try.func12, Try.ntmps12
  go_wp2_with fail
  refine cA.mono ?_
  rintro e w1 ⟨v1, rfl, G, hA⟩
  clear cA
  obtain ⟨ag, cg, rfl⟩ := slice_of hA.out
  have hH1 := hH.below hA.bel
  have c1 := hH1.blk.cell (j := 0) rfl
  have hO1 : ORow w1 ao cap L := owns_below hO hA.bel
  have hsL : s = L.length := by rw [← HS.out, HL.out]
  have cD := deletef_any ao cap L ag cg G w1 hO1 (info_ao hA.out) (by rw [← hsL]; exact hl256) (by have := hA.len; omega) (fun k e e' => by
    have h1 := (owns_own hO e).2
    have h2 := (owns_own hA.out e').1
    omega)
  rw [outOf_nos hA.is, ← hsL] at cD
  have BEL : Hid _ := hA.bel
  have HSL : Hid _ := hsL
  clear c0 hA hO1 hsL
  go_wp2_with fail
  refine cD.mono ?_
  rintro e w2 ⟨v2, rfl, hD⟩
  clear cD
  have hgb : ¬ (Value.slice ao s cap).ownBlock = some g := fun e => owns_ne hH.row hH.blk (by decide) e
  have hB2 := hH1.blk.keep hD.keep hgb
  have d0 := hB2.cell (j := 0) rfl
  have f0 := hB2.frozen 0
  obtain ⟨a2, cp2, rfl⟩ := slice_of hD.row
  have hrow := hD.row
  have hown := hD.own
  have hDk := hD.keep
  have hmN : (nos rest L).length ≤ 256 := by omega
  clear hD
  obtain ⟨w3, hw3, hK3⟩ : ∃ w3, w2.setCell ⟨g, 0, none⟩ (.slice a2 (nos rest L).length cp2) = w3 ∧ Keep w2 w3 (· = g) := ⟨_, rfl, (Keep.refl w2 (· = g)).setCell (g := g) (fun _ => rfl) _ _⟩
  have hB3 : Blk w3 g 51 [.slice a2 (nos rest L).length cp2, .int .i64 (n : Int)] := by rw [← hw3]; exact hB2.set 0 _
  have hO3 : w3.ownsRow 0 57 3 (.slice a2 (nos rest L).length cp2) (nos rest L).length (flat (nos rest L)) := owns_block hrow (fun k e => hK3.block k (owns_own hrow e).2 (fun e' => hgb (by rw [← hown, e, e'])))
  have HW3 : Hid _ := hw3
  have k03 : Keep w w3 (fun k => k = g ∨ q = some k) := ((Keep.of_below BEL.out (Nat.le_refl _)).trans (hDk.mono (fun k e => .inr (by rw [← hq]; exact e))) (fun _ _ e => e)).trans (hK3.mono (fun k e => .inl e)) (fun _ _ e => e)
  have e0 := hB3.cell (j := 0) rfl
  have FN : Hid (∀ w4 v4 K4, QH w4 g n v4 K4 → v4.ownBlock = q → K4.Perm (nos rest L) → Keep w3 w4 (fun k => k = g ∨ q = some k) → QDropped w w4 g q (nos rest S) n) := fun w4 v4 K4 a1 a2 a3 a4 =>
    ⟨⟨⟨v4, K4, a1, a2, a3.trans hpn⟩, h.srt.filter _, fun x hx => h.turns x (List.mem_filter.1 hx).1, by have := hpn.length_eq; omega⟩, k03.trans a4 (fun _ _ e => e)⟩
  clear hw3 hK3 hrow hDk hB2 hH1 k03 c1
  rcases a2 with _ | ad
  · have hz : (nos rest L).length = 0 := by
      rcases hO3.2 with ⟨h1, h2⟩ | ⟨b, c, cur, e, _⟩
      · exact h2
      · cases e
    have FF : Hid (QDropped w w3 g q (nos rest S) n) := FN.out w3 (.slice none (nos rest L).length cp2) (nos rest L) ⟨hB3, hO3, by rw [hz]; exact fun k h0 h1 => by omega⟩ (hown.trans hq) (List.Perm.refl _) (Keep.refl _ _)
    rw [hz] at e0 HW3 ⊢
    have HZ : Hid _ := hz
    clear hz hB3 hO3
    go_wp2_with fail
    rw [HW3.out]
    go_wp2_with fail
    refine (init_zero g cp2 none w3 e0).mono ?_
    rintro e _ ⟨rfl, rfl⟩
    go_wp2_with fail
    go_ret
    exact ⟨ret_int (by rw [HZ.out]; simp), FF.out⟩
  · obtain ⟨b, rfl⟩ : ∃ b, ad = ⟨b, 0, none⟩ := by
      rcases hO3.2 with ⟨h1, h2⟩ | ⟨b, c, cur, e, _⟩
      · cases h1
      · simp at e; exact ⟨b, e.1⟩
    have hQR : QR w3 g b cp2 (nos rest L) := QH.qr hB3 hO3
    have cI := init_any g b cp2 (nos rest L) w3 hQR (by omega)
    have hqb : q = some b := by rw [← hq, ← hown]; rfl
    obtain ⟨kk, HKK⟩ : ∃ kk, Hid ((nos rest L).length = kk) := ⟨_, rfl⟩
    rw [HKK.out] at e0 HW3 hmN hnl ⊢
    have FM : Hid (∀ w4 L4, Inited w3 w4 g b cp2 (nos rest L) L4 → QDropped w w4 g q (nos rest S) n ∧ w4.cell? ⟨g, 0, none⟩ = some (.slice (some ⟨b, 0, none⟩) kk cp2)) := fun w4 L4 hI => by
      have hl4 := hI.perm.length_eq
      have hne : ¬ g = b := hI.q.ne
      have hB4 := hB3.keep hI.keep hne
      refine ⟨FN.out w4 (.slice (some ⟨b, 0, none⟩) (nos rest L).length cp2) L4 ⟨hB4, ?_, hI.heap⟩ hqb.symm hI.perm (hI.keep.mono (fun k e => .inr (by rw [hqb, e]))), ?_⟩
      · have := hI.q.row
        unfold Row at this
        rw [hl4] at this ⊢
        exact this
      · have := hI.q.cell
        rw [hl4, HKK.out] at this
        exact this
    clear hB3 hO3 hQR FN
    go_wp2_with fail
    rw [HW3.out]
    go_wp2_with fail
    refine cI.mono ?_
    rintro e w4 ⟨rfl, L4, hI⟩
    obtain ⟨f1, f2⟩ := FM.out w4 L4 hI
    have FF : Hid _ := f1
    clear cI hI FM f1
    go_wp2_with fail
    go_ret
    exact ⟨ret_int (by rw [HKK.out]), FF.out⟩
end Go.Proofs.Ytgimpolgagkffaa
