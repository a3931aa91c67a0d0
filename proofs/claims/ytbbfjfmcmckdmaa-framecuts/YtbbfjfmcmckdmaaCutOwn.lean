/- The walk of the statements' own Cut, told by the block that the pieces lie in. No condition but that what is given can be read and is no longer than 2^20. -/
import Derived.Test.YtbbfjfmcmckdmaaLists
namespace Go.Proofs.Ytbbfjfmcmckdmaa
open Go.RowKit

/-- A slice that lies in block gb, if it has bytes. -/
def Bk (n : Nat) (a : Option Addr) (gb : Nat) : Prop := 0 < n → ∃ off, a = some ⟨gb, off, none⟩

theorem Rd.bk {w w' : World} {a : Option Addr} {n c gb : Nat} {bs : List UInt8} (h : Rd w a n c bs) (hb : Bk n a gb) (hw : w'.heap[gb]? = w.heap[gb]?) : Rd w' a n c bs :=
  ⟨h.len, h.le, h.max, h.nil, fun x hx j u hu => by
    have hj := (List.getElem?_eq_some_iff.1 hu).1
    rw [h.len] at hj
    obtain ⟨off, rfl⟩ := hb (by omega)
    obtain rfl : ⟨gb, off, none⟩ = x := by simpa using hx
    have := h.cells _ rfl j u hu
    rw [Addr.add_lit] at this ⊢
    exact (World.cell?_of_block hw).trans this⟩

/-- Values that are pieces of block gb, one by one. -/
def PB (w : World) (gb : Nat) (vs : List Value) (ls : List (List UInt8)) : Prop := vs.length = ls.length ∧ ∀ (j : Nat) (l : List UInt8), ls[j]? = some l → ∃ a n c, vs[j]? = some (.slice a n c) ∧ Rd w a n c l ∧ Bk n a gb

theorem PB.carry {w w' : World} {gb : Nat} {vs : List Value} {ls : List (List UInt8)} (h : PB w gb vs ls) (hw : w'.heap[gb]? = w.heap[gb]?) : PB w' gb vs ls :=
  ⟨h.1, fun j l hl => by obtain ⟨a, n, c, h1, h2, h3⟩ := h.2 j l hl; exact ⟨a, n, c, h1, h2.bk h3 hw, h3⟩⟩
theorem PB.snoc {w : World} {gb : Nat} {vs : List Value} {ls : List (List UInt8)} (h : PB w gb vs ls) {a : Option Addr} {n c : Nat} {l : List UInt8} (hr : Rd w a n c l) (hb : Bk n a gb) : PB w gb (vs ++ [.slice a n c]) (ls ++ [l]) :=
  ⟨by simp [h.1], fun j x hx => by
    by_cases hj : j < ls.length
    · rw [List.getElem?_append_left hj] at hx
      obtain ⟨u, m, d, h1, h2⟩ := h.2 j x hx
      exact ⟨u, m, d, by rw [List.getElem?_append_left (by rw [h.1]; exact hj)]; exact h1, h2⟩
    · rw [List.getElem?_append_right (by omega)] at hx
      have : j - ls.length = 0 := by
        have := (List.getElem?_eq_some_iff.1 hx).1
        simp at this
        omega
      rw [this] at hx
      simp at hx
      subst hx
      exact ⟨a, n, c, by rw [List.getElem?_append_right (by rw [h.1]; omega), h.1, this]; rfl, hr, hb⟩⟩


set_option maxRecDepth 100000 in
set_option maxHeartbeats 1000000 in
theorem cut_own (ao : Option Addr) (n cap : Nat) (bs : List UInt8) (so : Option Addr) (m scap : Nat) (zs : List Int) (w : World) (h : Rd w ao n cap bs) (hz : RdI w so m scap zs) (hn : n ≤ 1048576) (hm : m ≤ 1048576) (gb : Nat) (hbk : Bk n ao gb) (hgb : gb < w.heap.size) :
    Calls Try.prog 20 #[.slice ao n cap, .slice so m scap] w fun e w' => ∃ ao' n' cap' vs ls, e = .returned (.slice ao' n' cap') ∧ AppV 28 w.heap.size w' ao' n' cap' vs ∧ PB w' gb vs ls ∧ ls.flatten = bs ∧ n' ≤ 1048577 ∧ Below w.heap.size w w' := by
  obtain ⟨i28, hi, hz0, hz1, hz2⟩ := info_parts28
  have HI : Hid _ := hi
  have HZ0 : Hid _ := hz0
  have HZ1 : Hid _ := hz1
  clear hi hz0 hz1
  go_enter Try.func20, Try.ntmps20
  go_wp2_with fail
  go_loopw [0, 5, 6] (fun s0 s5 s6 wr => ∃ (k : Nat) (a' : Option Addr) (n' c' : Nat) (rest : List UInt8) (l' : Option Addr) (c2 : Nat) (vs : List Value) (ls : List (List UInt8)), k ≤ m ∧ s6 = .int .i64 (k : Int) ∧ s0 = .slice a' n' c' ∧ s5 = .slice l' k c2 ∧ n' ≤ n ∧ Rd wr a' n' c' rest ∧ Bk n' a' gb ∧ AppV 28 w.heap.size wr l' k c2 vs ∧ PB wr gb vs ls ∧ Hid (ls.flatten ++ rest = bs) ∧ Below w.heap.size w wr) (fun _ _ s6 _ => m - (intOf s6).toNat)
  case atStart => exact ⟨0, ao, n, cap, bs, none, 0, [], [], by omega, rfl, rfl, rfl, Nat.le_refl _, h, hbk, .inl ⟨rfl, rfl, rfl, rfl⟩, ⟨rfl, fun j l hl => by simp at hl⟩, rfl, Below.refl _ _⟩
  case round =>
    clear h hbk
    obtain ⟨k, a', n', c', rest, l', c2, vs, ls, hk, rfl, rfl, rfl, hn', hr, hbk, hA, hP, HE, hB⟩ := hrel
    have hle := hr.le
    have hmx := hr.max
    unfold maxLen at hmx
    have hzr := hz.below hB (Nat.le_refl _)
    have hzle := hz.le
    have hzmx := hz.max
    unfold maxLen at hzmx
    have hsz := hB.size
    by_cases h0 : 0 < n'
    · by_cases hlt : k < m
      · obtain ⟨off, rfl⟩ := hbk h0
        obtain ⟨z, hzk⟩ : ∃ z, zs[k]? = some z := ⟨_, List.getElem?_eq_getElem (by rw [hz.len]; exact hlt)⟩
        obtain ⟨sb, soff, rfl, hc⟩ := hzr.cells k z hzk
        clear hzk
        go_wp2_with fail
        refine (place_any z n' _ h0 (by omega)).mono ?_
        rintro e w1 ⟨p, hp, rfl, rfl⟩
        have hh := hr.head (p + 1) (by omega)
        have hA1 := hA.alloc (.cells #[.slice (some ⟨gb, off, none⟩) (p + 1) c'] 28)
        have hB1 := hB.alloc hsz (.cells #[.slice (some ⟨gb, off, none⟩) (p + 1) c'] 28)
        have hcn : (wr.alloc (.cells #[.slice (some ⟨gb, off, none⟩) (p + 1) c'] 28)).cell? ⟨wr.heap.size, 0, none⟩ = some (.slice (some ⟨gb, off, none⟩) (p + 1) c') := (Blk.new wr 28 [.slice (some ⟨gb, off, none⟩) (p + 1) c']).cell rfl
        have hcn' : Hid _ := hcn
        clear hcn
        go_wp2_with (at_builtin; refine wpList_append_val (P := Try.prog) _ (by rfl) (.tmp 27) (.tmp 31) 22 22 (by rfl) 28 i28 (.slice none 0 0) Try.underlying22 HI.out HZ0.out HZ1.out rfl hz2 w.heap.size (by simp; omega) (by rfl) hA1 (.slice (some ⟨gb, off, none⟩) (p + 1) c') (by rfl) (src_val _ Try.underlying22 wr.heap.size _ _ rfl hcn'.out) (by omega) ?_; intro g2 cap2 w2 ho2 hb2 hg2 hw2)
        have hold : ∀ j, j < w.heap.size → w2.heap[j]? = wr.heap[j]? := fun j hj => (hb2.block j hj).trans (Below.heap_alloc wr _ j (by omega))
        have hN := (hr.bk hbk (hold gb hgb)).rest (p + 1) (by omega)
        have hH := (hr.bk hbk (hold gb hgb)).head (p + 1) (by omega)
        refine ⟨⟨k + 1, _, n' - (p + 1), c' - (p + 1), rest.drop (p + 1), some ⟨g2, 0, none⟩, cap2, _, ls ++ [rest.take (p + 1)], by omega, by go_num, rfl, rfl, by omega, hN, (fun _ => by split; exact ⟨off, rfl⟩; exact ⟨off + (p + 1), rfl⟩), .inr ⟨g2, rfl, ho2⟩, (hP.carry (hold gb hgb)).snoc hH (fun _ => ⟨off, rfl⟩), ?_, hB1.trans hb2⟩, by simp [intOf]; omega⟩
        unfold Hid
        rw [List.flatten_append, List.append_assoc]
        simpa using HE.out
      · have hz' : (k : Int) = m := by omega
        obtain ⟨off, rfl⟩ := hbk h0
        have hA1 := hA.alloc (.cells #[.slice (some ⟨gb, off, none⟩) n' c'] 28)
        have hB1 := hB.alloc hsz (.cells #[.slice (some ⟨gb, off, none⟩) n' c'] 28)
        have hcn' : Hid ((wr.alloc (.cells #[.slice (some ⟨gb, off, none⟩) n' c'] 28)).cell? ⟨wr.heap.size, 0, none⟩ = some (.slice (some ⟨gb, off, none⟩) n' c')) := (Blk.new wr 28 [.slice (some ⟨gb, off, none⟩) n' c']).cell rfl
        go_wp2_with (at_builtin; refine wpList_append_val (P := Try.prog) _ (by rfl) (.tmp 39) (.tmp 41) 22 22 (by rfl) 28 i28 (.slice none 0 0) Try.underlying22 HI.out HZ0.out HZ1.out rfl hz2 w.heap.size (by simp; omega) (by rfl) hA1 (.slice (some ⟨gb, off, none⟩) n' c') (by rfl) (src_val _ Try.underlying22 wr.heap.size _ _ rfl hcn'.out) (by omega) ?_; intro g2 cap2 w2 ho2 hb2 hg2 hw2)
        have hold : ∀ j, j < w.heap.size → w2.heap[j]? = wr.heap[j]? := fun j hj => (hb2.block j hj).trans (Below.heap_alloc wr _ j (by omega))
        have hH := hr.bk hbk (hold gb hgb)
        have hB2 := hB1.trans hb2
        go_ret
        refine ⟨some ⟨g2, 0, none⟩, k + 1, cap2, _, ls ++ [rest], rfl, .inr ⟨g2, rfl, ho2⟩, (hP.carry (hold gb hgb)).snoc hH (fun _ => ⟨off, rfl⟩), ?_, by omega, hB2⟩
        rw [List.flatten_append]
        simpa using HE.out
    · obtain rfl : n' = 0 := by omega
      obtain rfl : rest = [] := List.eq_nil_of_length_eq_zero hr.len
      have HE2 : Hid (ls.flatten = bs) := by have := HE.out; rw [List.append_nil] at this; exact this
      by_cases hlt : k < m
      · go_wp2_with fail
        go_ret
        exact ⟨l', k, c2, vs, ls, rfl, hA, hP, HE2.out, by omega, hB⟩
      · go_wp2_with fail
        go_ret
        exact ⟨l', k, c2, vs, ls, rfl, hA, hP, HE2.out, by omega, hB⟩
end Go.Proofs.Ytbbfjfmcmckdmaa
