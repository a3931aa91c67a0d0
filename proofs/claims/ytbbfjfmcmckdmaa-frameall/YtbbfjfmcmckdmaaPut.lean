/- The walks of frame.untilError, with the method value take, and of (*Reader).Put. No condition but that what waits is no longer than 2^30. -/
import Derived.Test.YtbbfjfmcmckdmaaRdr
namespace Go.Proofs.Ytbbfjfmcmckdmaa
open Go.RowKit

/-- Frames, one by one: each nil, or a row of the call's own (from block L on). -/
def FV (w : World) (L : Nat) (vs : List Value) (fs : List (List UInt8)) : Prop :=
  vs.length = fs.length ∧ ∀ (j : Nat) (l : List UInt8), fs[j]? = some l → ∃ ao n cap, vs[j]? = some (.slice ao n cap) ∧ Res 5 L w ao n cap l

/-- No value lies in block q. -/
def NotIn (q : Option Nat) (vs : List Value) : Prop := ∀ (j : Nat) a n c, vs[j]? = some (.slice (some a) n c) → q ≠ some a.block

theorem FV.nil (w : World) (L : Nat) : FV w L [] [] := ⟨rfl, fun j l hl => by simp at hl⟩
theorem Res.carryOwn {w w' : World} {L : Nat} {ao : Option Addr} {n cap : Nat} {bs : List UInt8} (h : Res 5 L w ao n cap bs) (hb : ∀ k, Own 5 L w k n cap bs → w'.heap[k]? = w.heap[k]?) : Res 5 L w' ao n cap bs := by
  obtain ⟨h1, h2⟩ := h
  rcases h2 with ⟨rfl, rfl, rfl⟩ | ⟨g, rfl, ho⟩
  · obtain rfl : bs = [] := List.eq_nil_of_length_eq_zero h1.len
    exact ⟨Rd.none' w' none, .inl ⟨rfl, rfl, rfl⟩⟩
  · exact (ho.carry (hb g ho)).res
theorem FV.carry {w w' : World} {L : Nat} {vs : List Value} {fs : List (List UInt8)} (h : FV w L vs fs) (hb : ∀ k n cap bs, Own 5 L w k n cap bs → w'.heap[k]? = w.heap[k]?) : FV w' L vs fs :=
  ⟨h.1, fun j l hl => by obtain ⟨ao, n, cap, h1, h2⟩ := h.2 j l hl; exact ⟨ao, n, cap, h1, h2.carryOwn (fun k hk => hb k n cap l hk)⟩⟩
theorem FV.keep {w w' : World} {L : Nat} {vs : List Value} {fs : List (List UInt8)} {S : Nat → Prop} (h : FV w L vs fs) (hk : Keep w w' S) (hS : ∀ k, S k → k < L) : FV w' L vs fs :=
  h.carry fun k n cap bs ho => hk.block k ho.lt (fun s => by have := hS k s; have := ho.new; omega)
theorem FV.snoc {w : World} {L : Nat} {vs : List Value} {fs : List (List UInt8)} (h : FV w L vs fs) {ao : Option Addr} {n cap : Nat} {l : List UInt8} (hr : Res 5 L w ao n cap l) : FV w L (vs ++ [.slice ao n cap]) (fs ++ [l]) :=
  ⟨by simp [h.1], fun j x hx => by
    by_cases hj : j < fs.length
    · rw [List.getElem?_append_left hj] at hx
      obtain ⟨u, m, c, h1, h2⟩ := h.2 j x hx
      exact ⟨u, m, c, by rw [List.getElem?_append_left (by rw [h.1]; exact hj)]; exact h1, h2⟩
    · rw [List.getElem?_append_right (by omega)] at hx
      have h0 : j - fs.length = 0 := by
        have := (List.getElem?_eq_some_iff.1 hx).1
        simp at this
        omega
      rw [h0] at hx
      simp at hx
      subst hx
      exact ⟨ao, n, cap, by rw [List.getElem?_append_right (by rw [h.1]; omega), h.1, h0]; rfl, hr⟩⟩
theorem FV.pv {w : World} {L : Nat} {vs : List Value} {fs : List (List UInt8)} (h : FV w L vs fs) : PV w w.heap.size vs fs :=
  ⟨h.1, fun j l hl => by obtain ⟨ao, n, cap, h1, h2⟩ := h.2 j l hl; exact ⟨_, h1, ao, n, cap, rfl, h2.1, h2.1.lowSize⟩⟩
theorem Res.low {w : World} {L L' : Nat} {ao : Option Addr} {n cap : Nat} {bs : List UInt8} (h : Res 5 L w ao n cap bs) (hL : L' ≤ L) : Res 5 L' w ao n cap bs := ⟨h.1, h.2.imp id fun ⟨g, e, ho⟩ => ⟨g, e, ho.mono hL⟩⟩
theorem FV.low {w : World} {L L' : Nat} {vs : List Value} {fs : List (List UInt8)} (h : FV w L vs fs) (hL : L' ≤ L) : FV w L' vs fs :=
  ⟨h.1, fun j l hl => by obtain ⟨ao, n, cap, h1, h2⟩ := h.2 j l hl; exact ⟨ao, n, cap, h1, h2.low hL⟩⟩
theorem FV.notIn {w : World} {L : Nat} {q : Option Nat} {vs : List Value} {fs : List (List UInt8)} (h : FV w L vs fs) (hq : ∀ b, q = some b → b < L ∨ w.heap.size ≤ b) : NotIn q vs := fun j a n c hj => by
  have hl := (List.getElem?_eq_some_iff.1 hj).1
  obtain ⟨ao, m, cap, h1, _, h2⟩ := h.2 j _ (List.getElem?_eq_getElem (by rw [← h.1]; exact hl))
  rw [hj] at h1
  simp at h1
  obtain ⟨rfl, rfl, rfl⟩ := h1
  rcases h2 with ⟨e, _, _⟩ | ⟨b, e, ho⟩
  · cases e
  · simp at e
    subst e
    have h1 := ho.lt
    have h2 := ho.new
    intro e
    have := hq b e
    omega
theorem Own.ne {L B : Nat} {w : World} {k n cap : Nat} {bs : List UInt8} {b m c : Nat} {vs : List Value} (h : Own 5 L w k n cap bs) (h' : OwnV 28 B w b m c vs) : k ≠ b := by
  intro e
  subst e
  obtain ⟨c1, h1, _⟩ := h.row
  obtain ⟨c2, h2, _⟩ := h'.row
  rw [h1] at h2
  simp at h2
theorem Own.neApp {L B : Nat} {w : World} {k n cap : Nat} {bs : List UInt8} {a : Option Addr} {m c : Nat} {vs : List Value} (h : Own 5 L w k n cap bs) (h' : AppV 28 B w a m c vs) : some k ≠ Value.ownBlock (.slice a m c) := by
  rcases h' with ⟨rfl, _⟩ | ⟨b, rfl, ho⟩
  · simp [Value.ownBlock]
  · intro e
    exact h.ne ho (by simpa [Value.ownBlock] using e)

/-- How many bytes wait, as memory has it. -/
def waitLen (w : World) (g : Nat) : Nat := match w.cell? ⟨g, 1, none⟩ with
  | some (.slice _ n _) => n
  | _ => 0
theorem waitLen_of {w : World} {g : Nat} {ao : Option Addr} {n cap e : Nat} (h : Blk w g 48 (rcells ao n cap e)) : waitLen w g = n := by
  have := h.cell (j := 1) rfl
  unfold waitLen
  rw [this]

theorem rd_none {bs rs : List UInt8} {e : Nat} (h : rd bs = ([], rs, e)) : rs = bs := by
  by_cases h0 : (t1 bs).2.2 = 0
  · rw [rd_ok bs h0] at h; simp at h
  · rw [rd_end bs h0] at h
    simp at h
    exact h.1.symm

/-- What untilError leaves. -/
structure Until (w w' : World) (g : Nat) (ao : Option Addr) (n cap : Nat) (ws : List UInt8) (a : Option Addr) (k c : Nat) (vs : List Value) (fs : List (List UInt8)) (ao2 : Option Addr) (n2 cap2 : Nat) (ws2 : List UInt8) : Prop where
  num : k = fs.length
  own : AppV 28 w.heap.size w' a k c vs
  fv : FV w' w.heap.size vs fs
  blk : Blk w' g 48 (rcells ao2 n2 cap2 0)
  rd : Rd w' ao2 n2 cap2 ws2
  wa : Wa ao2 n2 cap2 g
  low : Low n2 ao2 w.heap.size
  same : fs = [] → ao2 = ao ∧ n2 = n ∧ cap2 = cap
  le : k + n2 ≤ n
  keep : Keep w w' (fun k => k = g)
  said : fs ++ (Go.Proofs.Ytbbfjfmcmckdmaa.rd ws2).1 = (Go.Proofs.Ytbbfjfmcmckdmaa.rd ws).1 ∧ (Go.Proofs.Ytbbfjfmcmckdmaa.rd ws2).2 = (Go.Proofs.Ytbbfjfmcmckdmaa.rd ws).2

set_option maxRecDepth 100000 in
set_option maxHeartbeats 1000000 in
theorem until_any (g : Nat) (ao : Option Addr) (n cap : Nat) (ws : List UInt8) (w : World) (hB : Blk w g 48 (rcells ao n cap 0)) (hR : Rd w ao n cap ws) (hA : Wa ao n cap g) (hn : n ≤ 1073741824) :
    Calls Try.prog 22 #[.func (.func 23) #[.pointer (some ⟨g, 0, none⟩)] #[]] w fun e w' => ∃ a k c, e = .returned (.tuple #[.slice a k c, .int .i64 ((rd ws).2.2 : Int)]) ∧ ∃ vs ao2 n2 cap2, Until w w' g ao n cap ws a k c vs (rd ws).1 ao2 n2 cap2 (rd ws).2.1 := by
  obtain ⟨i28, hi, hz0, hz1, hz2⟩ := info_parts28
  have HI : Hid _ := hi
  have HZ0 : Hid _ := hz0
  have HZ1 : Hid _ := hz1
  clear hi hz0 hz1
  have hg := hB.lt
  have hU0 : Until w w g ao n cap ws none 0 0 [] [] ao n cap ws := ⟨rfl, .inl ⟨rfl, rfl, rfl, rfl⟩, FV.nil _ _, hB, hR, hA, hR.lowSize, fun _ => ⟨rfl, rfl, rfl⟩, by omega, Keep.refl _ _, rfl, rfl⟩
  clear hB hR hA
  go_enter Try.func22, Try.ntmps22
  go_wp2_with fail
  go_loopw [2] (fun s2 wr => ∃ a k c vs fs ao2 n2 cap2 ws2, s2 = .slice a k c ∧ Until w wr g ao n cap ws a k c vs fs ao2 n2 cap2 ws2) (fun _ wr => waitLen wr g)
  case atStart => exact ⟨none, 0, 0, [], [], ao, n, cap, ws, rfl, hU0⟩
  case round =>
    clear hU0
    obtain ⟨a, k, c, vs, fs, ao2, n2, cap2, ws2, rfl, hU⟩ := hrel
    obtain ⟨t, m, er, ht⟩ : ∃ t m er, t1 ws2 = (t, m, er) := ⟨_, _, _, rfl⟩
    have hle := hU.le
    by_cases h0 : er = 0
    · subst h0
      have hp := t1_pos ws2 (by rw [ht])
      rw [ht, hU.rd.len] at hp
      obtain ⟨hp1, hp2⟩ := hp
      simp only at hp1 hp2
      have HS : Hid _ := rd_at ht
      go_wp2_with fail
      refine (take_any g ao2 n2 cap2 ws2 wr hU.blk hU.rd hU.wa (by omega) t m 0 ht).mono ?_
      rintro e w1 ⟨ta, tc, rfl, ao3, cap3, hT⟩
      have hsz := hU.keep.size
      have hs1 := hT.keep.size
      have hA1 := (hU.own.keep hT.keep (fun k e => by omega)).alloc (.cells #[.slice ta t.length tc] 28)
      have hcn' : Hid ((w1.alloc (.cells #[.slice ta t.length tc] 28)).cell? ⟨w1.heap.size, 0, none⟩ = some (.slice ta t.length tc)) := (Blk.new w1 28 [.slice ta t.length tc]).cell rfl
      have hF1 := (hU.fv.keep hT.keep (fun k e => by omega)).snoc (hT.res.low hsz)
      have hF2 : FV (w1.alloc (.cells #[.slice ta t.length tc] 28)) w.heap.size _ _ := hF1.carry (fun k n cap bs ho => Below.heap_alloc w1 _ k ho.lt)
      have hB2 : Blk (w1.alloc (.cells #[.slice ta t.length tc] 28)) g 48 _ := hT.blk.alloc _
      have hR2 : Rd (w1.alloc (.cells #[.slice ta t.length tc] 28)) _ _ _ _ := hT.rd.alloc _
      have hL2 := hT.low _ hU.low
      have hK2 := (hU.keep.trans hT.keep (fun i _ e => e)).alloc (.cells #[.slice ta t.length tc] 28)
      clear hF1
      go_wp2_with (at_builtin; refine wpList_append_val (P := Try.prog) _ (by rfl) (.tmp 15) (.tmp 17) 22 22 (by rfl) 28 i28 (.slice none 0 0) Try.underlying22 HI.out HZ0.out HZ1.out rfl hz2 w.heap.size (by simp; omega) (by rfl) hA1 (.slice ta t.length tc) (by rfl) (src_val _ Try.underlying22 w1.heap.size _ _ rfl hcn'.out) (by omega) ?_; intro g2 c2 w2 ho2 hb2 hg2 hw2)
      have hB3 := hB2.below hb2 hg
      have hm1 := waitLen_of hB3
      have hm2 := waitLen_of hU.blk
      refine ⟨⟨some ⟨g2, 0, none⟩, k + 1, c2, _, fs ++ [t], ao3, n2 - m, cap3, ws2.drop m, rfl, by simp [hU.num], .inr ⟨g2, rfl, ho2⟩, hF2.carry (fun j n cap bs ho => hg2.block j ho.lt (ho.neApp hA1)), hB3, hR2.low hL2 hb2.block, hT.wa, hL2, fun h0 => by simp at h0, by omega, hK2.low hb2 (Nat.le_refl _), ?_, ?_⟩, by rw [hm1, hm2]; omega⟩
      · rw [← hU.said.1, HS.out]
        simp
      · rw [← hU.said.2, HS.out]
    · have hz := t1_none ws2 (by rw [ht]; exact h0)
      rw [ht] at hz
      obtain ⟨rfl, rfl⟩ := hz
      have HS : Hid _ := rd_stop ht h0
      have HE : Hid (rd ws = (fs, ws2, er)) := by
        have h1 := hU.said.1
        have h2 := hU.said.2
        rw [HS.out] at h1 h2
        simp only [List.append_nil] at h1 h2
        unfold Hid
        rw [h1, h2]
      have her : (er : Int) ≠ 0 := by omega
      go_wp2_with fail
      refine (take_any g ao2 n2 cap2 ws2 wr hU.blk hU.rd hU.wa (by omega) [] 0 er ht).mono ?_
      rintro e w1 ⟨ta, tc, rfl, ao3, cap3, hT⟩
      go_wp2_with fail
      go_ret2
      obtain ⟨rfl, rfl⟩ := hT.same rfl
      rw [HE.out]
      exact ⟨a, k, c, rfl, vs, ao3, n2, cap3, hU.num, hU.own.keep hT.keep (fun k e => by omega), hU.fv.keep hT.keep (fun k e => by omega), hT.blk, hT.rd, hT.wa, hU.low, hU.same, hU.le, hU.keep.trans hT.keep (fun i _ e => e), by rw [HE.out, HS.out]; simp, by rw [HE.out, HS.out]⟩

theorem until_at {g : Nat} {ao : Option Addr} {n cap : Nat} {ws : List UInt8} {w : World} (hB : Blk w g 48 (rcells ao n cap 0)) (hR : Rd w ao n cap ws) (hA : Wa ao n cap g) (hn : n ≤ 1073741824) {fs : List (List UInt8)} {rs : List UInt8} {er : Nat} (hr : rd ws = (fs, rs, er)) :
    Calls Try.prog 22 #[.func (.func 23) #[.pointer (some ⟨g, 0, none⟩)] #[]] w fun e w' => ∃ a k c, e = .returned (.tuple #[.slice a k c, .int .i64 (er : Int)]) ∧ ∃ vs ao2 n2 cap2, Until w w' g ao n cap ws a k c vs fs ao2 n2 cap2 rs := by
  have := until_any g ao n cap ws w hB hR hA hn
  rw [hr] at this
  exact this
end Go.Proofs.Ytbbfjfmcmckdmaa
