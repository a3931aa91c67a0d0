/- The walks of container/heap's Push and Pop over a queue's row, and of takeFirst. No condition but sizes. -/
import Derived.Test.YtgimpolgagkffaaPo
namespace Go.Proofs.Ytgimpolgagkffaa
open Go.RowKit

theorem row_of {w : World} {v : Value} {L : List En} (h : w.ownsRow 0 57 3 v L.length (flat L)) (h0 : 0 < L.length) : ∃ b cap, v = .slice (some ⟨b, 0, none⟩) L.length cap ∧ Row w b cap L := by
  obtain ⟨b, cap, rfl, _⟩ := owns_shape h h0
  exact ⟨b, cap, rfl, h⟩

/-- A queue's struct, and its row, which lies as a heap. -/
structure QH (w : World) (g n : Nat) (v : Value) (L : List En) : Prop where
  blk : Blk w g 51 [v, .int .i64 (n : Int)]
  row : w.ownsRow 0 57 3 v L.length (flat L)
  heap : HeapFrom L L.length 0

theorem QH.below {w w' : World} {g n : Nat} {v : Value} {L : List En} (h : QH w g n v L) (hb : Below w.heap.size w w') : QH w' g n v L := ⟨h.blk.below hb h.blk.lt, owns_below h.row hb, h.heap⟩

theorem QH.qr {w : World} {g n b cap : Nat} {L : List En} (hB : Blk w g 51 [.slice (some ⟨b, 0, none⟩) L.length cap, .int .i64 (n : Int)]) (hR : Row w b cap L) : QR w g b cap L :=
  ⟨hB.cell (j := 0) rfl, hR, fun e => owns_ne hR hB (by decide) (by rw [e]; rfl)⟩

set_option maxRecDepth 100000 in
set_option maxHeartbeats 2000000 in
theorem hpush_any (g n : Nat) (v : Value) (L : List En) (x : En) (w : World) (h : QH w g n v L) (hm : L.length ≤ 999999) :
    Calls Try.prog 16 #[.iface 55 (.pointer (some ⟨g, 0, none⟩)), .iface 57 x.val] w fun e w' => e = .returned (.tuple #[]) ∧ ∃ v' L', QH w' g n v' L' ∧ L'.Perm (x :: L) ∧ (v'.ownBlock = v.ownBlock ∨ ∃ k, v'.ownBlock = some k ∧ w.heap.size ≤ k) ∧ Keep w w' (fun k => k = g ∨ v.ownBlock = some k) := by
  have e71 : ∀ args w, (callFunc 71 args).run Try.prog w = .ok (.enter 71 args) w := enter_of Try.func71 (by kernel_rfl) rfl
  have e66 : ∀ args w, (callFunc 66 args).run Try.prog w = .ok (.enter 66 args) w := enter_of Try.func66 (by kernel_rfl) rfl
  have mP := m_push g w
  go_enter Try.func16, Try.ntmps16
  go_wp2_with fail
  refine (rpush_any g n v L x w h.blk h.row (by omega)).mono ?_
  rintro e w1 ⟨rfl, v1, hP⟩
  obtain ⟨b, cap, rfl, hR⟩ := row_of hP.row (by simp)
  have hQ := QH.qr hP.blk hR
  have mN := m_len g w1 _ hQ.cell
  have hlen : (L ++ [x]).length = L.length + 1 := by simp
  rw [hlen] at mN
  clear mP
  go_wp2_with fail
  refine (len_any _ (L.length + 1) cap w1).mono ?_
  rintro e _ ⟨rfl, rfl⟩
  clear mN
  go_wp2_with fail
  refine (up_any g b cap (L ++ [x]) L.length w1 hQ (by simp) (by simp; omega) (UpOk.start h.heap)).mono ?_
  rintro e w2 ⟨rfl, L2, hp, hh, hq, hk⟩
  have hb2 := hP.blk.keep hk hQ.ne
  have hl2 := hp.length_eq
  have FIN : Hid (∃ v' L', QH w2 g n v' L' ∧ L'.Perm (x :: L) ∧ (v'.ownBlock = v.ownBlock ∨ ∃ k, v'.ownBlock = some k ∧ w.heap.size ≤ k) ∧ Keep w w2 (fun k => k = g ∨ v.ownBlock = some k)) := by
    refine ⟨.slice (some ⟨b, 0, none⟩) L2.length cap, L2, ⟨by rw [hl2]; exact hb2, hq.row, hh⟩, hp.trans (by simp), hP.own, hP.keep.trans hk (fun i hi e => ?_)⟩
    subst e
    rcases hP.own with h' | ⟨k, h', hk'⟩
    · exact .inr (by rw [← h']; rfl)
    · simp [Value.ownBlock] at h'; omega
  clear hp hh hq hk hb2 hl2 hQ hR hP hlen
  go_wp2_with fail
  go_end0
  exact ⟨rfl, FIN.out⟩
/-- What heap.Pop leaves. -/
structure Popped (w w' : World) (g n b cap : Nat) (L L' : List En) : Prop where
  q : QH w' g n (.slice (some ⟨b, 0, none⟩) L'.length cap) L'
  perm : L.Perm (nth L 0 :: L')
  keep : Keep w w' (fun k => k = g ∨ k = b)

def IsRet (e : Ending) : Prop := ∃ r, e = .returned r

set_option maxRecDepth 100000 in
set_option maxHeartbeats 2000000 in
theorem hpop_any (g n b cap : Nat) (L : List En) (w : World) (h : QH w g n (.slice (some ⟨b, 0, none⟩) L.length cap) L) (h0 : 0 < L.length) (hm : L.length ≤ 1000000) :
    Calls Try.prog 25 #[.iface 55 (.pointer (some ⟨g, 0, none⟩))] w fun e w' => IsRet e ∧ ∃ L', Popped w w' g n b cap L L' := by
  have e66 : ∀ args w, (callFunc 66 args).run Try.prog w = .ok (.enter 66 args) w := enter_of Try.func66 (by kernel_rfl) rfl
  have e68 : ∀ args w, (callFunc 68 args).run Try.prog w = .ok (.enter 68 args) w := enter_of Try.func68 (by kernel_rfl) rfl
  have e70 : ∀ args w, (callFunc 70 args).run Try.prog w = .ok (.enter 70 args) w := enter_of Try.func70 (by kernel_rfl) rfl
  obtain ⟨m, hL⟩ : ∃ m, L.length = m + 1 := ⟨L.length - 1, by omega⟩
  have hQ := QH.qr h.blk h.row
  have mN := m_len g w _ hQ.cell
  have HL : Hid _ := hL
  have mS := m_swap g w _ hQ.cell
  rw [hL] at mN mS
  have hm' : m ≤ 999999 := by omega
  clear hL
  go_enter Try.func25, Try.ntmps25
  go_wp2_with fail
  refine (len_any _ (m + 1) cap w).mono ?_
  rintro e _ ⟨rfl, rfl⟩
  clear mN
  go_wp2_with fail
  have cS := swap_any b cap L 0 m w h.row h0 (by have := HL.out; omega)
  rw [HL.out] at cS
  refine cS.mono ?_
  rintro e w1 ⟨rfl, hr1, hk1⟩
  clear cS mS
  have hl1 : (swp L 0 m).length = m + 1 := (swp_length _ _ _).trans HL.out
  have HL1 : Hid _ := hl1
  have hB1 := h.blk.keep hk1 hQ.ne
  have hQ1 : QR w1 g b cap (swp L 0 m) := hQ.keep (swp_length _ _ _) hr1 hk1
  have hD : DnOk (swp L 0 m) m 0 0 := by have := DnOk.pop h.heap h0; rwa [show L.length - 1 = m by have := HL.out; omega] at this
  clear hl1
  go_wp2_with fail
  refine (down_any g b cap (swp L 0 m) 0 m w1 hQ1 (by omega) (by have := HL1.out; omega) (by have := HL1.out; omega) hD).mono ?_
  rintro e w2 ⟨⟨r, rfl⟩, L2, hE⟩
  clear hD hQ1
  have hl2 : L2.length = m + 1 := hE.perm.length_eq.trans HL1.out
  have hB2 := hB1.keep hE.keep hQ.ne
  have hR2 := hE.q.row
  have mP := m_pop g w2
  have HL2 : Hid _ := hl2
  have FN : Hid (∀ w3, Blk w3 g 51 [.slice (some ⟨b, 0, none⟩) m cap, .int .i64 (n : Int)] → Keep w2 w3 (· = g) → ∃ L', Popped w w3 g n b cap L L') := fun w3 b3 k3 => by
    have hR3 : Row w3 b cap L2 := hR2.carry (k3.block b hR2.lt (fun e => hQ.ne e.symm))
    have hl3 : (L2.take m).length = m := by rw [List.length_take, HL2.out]; omega
    have hlast : nth L2 m = nth L 0 := by
      rw [hE.back m (Nat.le_refl _), nth_swp h0 (by have := HL.out; omega), if_pos rfl]
    have hsp : L2 = L2.take m ++ [nth L2 m] := by
      have h1 : L2.drop m = [nth L2 m] := by
        rw [List.drop_eq_getElem_cons (by rw [HL2.out]; omega), List.drop_eq_nil_of_le (by rw [HL2.out]; omega), nth_of (List.getElem?_eq_getElem (by rw [HL2.out]; omega))]
      rw [← h1, List.take_append_drop]
    refine ⟨L2.take m, ⟨by rw [hl3]; exact b3, ?_, ?_⟩, ?_, ?_⟩
    · exact hR3.cut m (by rw [HL2.out]; omega)
    · rw [hl3]; exact hE.ok.congr (fun k hk => nth_of (by rw [List.getElem?_take_of_lt hk]; exact nth_get (by rw [HL2.out]; omega)))
    · have p1 : L.Perm L2 := (hE.perm.trans (swp_perm h0 (by have := HL.out; omega))).symm
      refine p1.trans ?_
      have := hsp
      rw [hlast] at this
      rw [this, List.take_append_of_le_length (by rw [hl3]; omega), List.take_take, Nat.min_self]
      simp
    · exact (((hk1.mono (fun k e => .inr e)).trans (hE.keep.mono (fun k e => .inr e)) (fun _ _ h => h)).trans (k3.mono (fun k e => .inl e)) (fun _ _ h => h))
  have hm2 : 0 < L2.length := by omega
  have hm3 : L2.length ≤ 1000000 := by omega
  have cP := rpop_any g n b cap L2 w2 (by rw [hl2, ← HL.out]; exact hB2) hR2 hm2 hm3
  rw [hl2, Nat.add_sub_cancel] at cP
  clear hE hB2 hB1 hl2
  go_wp2_with fail
  refine cP.mono ?_
  rintro e w3 ⟨⟨r, rfl⟩, b3, k3⟩
  have FF : Hid _ := FN.out w3 b3 k3
  clear cP FN mP b3 k3
  go_wp2_with fail
  go_ret
  exact ⟨⟨_, rfl⟩, FF.out⟩

set_option maxRecDepth 100000 in
set_option maxHeartbeats 2000000 in
theorem take_any (g n b cap : Nat) (L : List En) (w : World) (h : QH w g n (.slice (some ⟨b, 0, none⟩) L.length cap) L) (h0 : 0 < L.length) (hm : L.length ≤ 1000000) :
    Calls Try.prog 17 #[.iface 55 (.pointer (some ⟨g, 0, none⟩))] w fun e w' => e = .returned (nth L 0).val ∧ ∃ L', Popped w w' g n b cap L L' := by
  have e72 : ∀ args w, (callFunc 72 args).run Try.prog w = .ok (.enter 72 args) w := enter_of Try.func72 (by kernel_rfl) rfl
  obtain ⟨w1, hw1, hb1, P1, hs1⟩ := one_new w [.int .i64 0, .int .i64 0, .int .i64 0] 57
  have mF := m_first g w1
  have HW : Hid _ := hw1
  clear hw1
  go_enter Try.func17, Try.ntmps17
  go_wp2_with fail
  rw [HW.out]
  have h1 := h.below hb1
  have lg := h.blk.lt
  have lb := (owns_own h.row (g := b) rfl).2
  go_wp2_with fail
  refine (rfirst_any g n b cap L w1 h1.blk h1.row h0).mono ?_
  rintro e w2 ⟨rfl, hb2⟩
  obtain ⟨x, hx⟩ : ∃ x, nth L 0 = x := ⟨_, rfl⟩
  rw [hx]
  have HX : Hid _ := hx
  clear hx
  obtain ⟨xw, xn, xt⟩ := x
  unfold En.val
  have P2 := P1.below hb2 P1.lt
  have h2 := h1.below hb2
  have hz2 := hb2.size
  obtain ⟨w3, hw3, hb3, P3, hs3⟩ := one_new w2 [.int .i64 xw, .int .i64 xn, .int .i64 (xt : Int)] 57
  have h3 := h2.below hb3
  have Z3 := P2.below hb3 P2.lt
  have HW3 : Hid _ := hw3
  clear hw3 mF h1 h2 P1 P2
  go_wp2_with fail
  rw [HW3.out]
  refine (hpop_any g n b cap L w3 h3 h0 hm).mono ?_
  rintro e w4 ⟨⟨r, rfl⟩, L', hP⟩
  have Z4 := Z3.keep hP.keep (by omega)
  have X4 := P3.keep hP.keep (by omega)
  have x0 := X4.cell (j := 0) rfl
  have x1 := X4.cell (j := 1) rfl
  have x2 := X4.cell (j := 2) rfl
  have z0 := Z4.cell (j := 0) rfl
  have z1 := Z4.cell (j := 1) rfl
  have z2 := Z4.cell (j := 2) rfl
  have f0 := Z4.frozen 0
  have f1 := Z4.frozen 1
  have f2 := Z4.frozen 2
  have hz4 := hP.keep.size
  obtain ⟨w5, hw5, Z5, K5⟩ : ∃ w5, ((w4.setCell ⟨w.heap.size, 0, none⟩ (.int .i64 xw)).setCell ⟨w.heap.size, 1, none⟩ (.int .i64 xn)).setCell ⟨w.heap.size, 2, none⟩ (.int .i64 (xt : Int)) = w5 ∧ Blk w5 w.heap.size 57 [.int .i64 xw, .int .i64 xn, .int .i64 (xt : Int)] ∧ Keep w4 w5 (· = w.heap.size) :=
    ⟨_, rfl, ((Z4.set 0 _).set 1 _).set 2 _, (((Keep.refl w4 (· = w.heap.size)).setCell (g := w.heap.size) (fun _ => rfl) _ _).setCell (g := w.heap.size) (fun _ => rfl) _ _).setCell (g := w.heap.size) (fun _ => rfl) _ _⟩
  have q0 := Z5.cell (j := 0) rfl
  have q1 := Z5.cell (j := 1) rfl
  have q2 := Z5.cell (j := 2) rfl
  have FF : Hid (∃ L', Popped w w5 g n b cap L L') := by
    refine ⟨L', ⟨hP.q.blk.keep K5 (by omega), owns_block hP.q.row (fun k e => K5.block k (owns_own hP.q.row e).2 (by simp [Value.ownBlock] at e; omega)), hP.q.heap⟩, hP.perm, ?_⟩
    have k3 : Keep w w3 (fun k => k = g ∨ k = b) := Keep.of_below (hb1.trans ((hb2.trans (hb3.mono hb2.size)).mono hb1.size)) (Nat.le_refl _)
    exact (k3.trans hP.keep (fun _ _ h => h)).trans (K5.mono (T := fun k => k = w.heap.size) (fun _ e => e)) (fun i hi e => by omega)
  have HW5 : Hid _ := hw5
  clear hw5 hP h3 h
  go_wp2_with fail
  rw [HW5.out]
  exact bodyPost_ret (v := .agg #[.int .i64 xw, .int .i64 xn, .int .i64 (xt : Int)]) (by simp [results, Try.results17, go_sem, q0, q1, q2]) rfl ⟨by rw [HX.out]; rfl, FF.out⟩
end Go.Proofs.Ytgimpolgagkffaa
