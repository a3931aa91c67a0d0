/- The walks of the statements' own Sum, Twins and AllKept. No condition but that the parts can be read, and are no more and no longer than 2^20. -/
import Derived.Test.YtpibpjbeedcefaaDoorCut
namespace Go.Proofs.YtpibpjbeedcefaaDoor
open Go.RowKit

set_option maxRecDepth 100000 in
set_option maxHeartbeats 1000000 in
theorem lsum_any (ao : Option Addr) (n cap : Nat) (ls : List (List UInt8)) (w : World) (h : Parts w w.heap.size ao n cap ls) (hn : n ≤ 1048576) :
    Calls Tryd.prog 8 #[.slice ao n cap, .int .i64 1500] w fun e w' => (∃ z : Nat, e = .returned (.int .i64 (z : Int)) ∧ z ≤ 3001 ∧ (z ≤ 1500 → ls.flatten.length ≤ 1500)) ∧ w = w' := by
  have hnc := h.le
  have hcm := h.max
  unfold maxLen at hcm
  go_enter Tryd.func8, Tryd.ntmps8
  go_wp2_with fail
  go_loop [5, 6] (fun s5 s6 => ∃ (k t : Nat), k ≤ n ∧ s6 = .int .i64 (k : Int) ∧ s5 = .int .i64 (t : Int) ∧ Hid (t = (ls.take k).flatten.length) ∧ t ≤ 3000) (fun _ s6 => n - (intOf s6).toNat)
  case atStart => exact ⟨0, 0, by omega, rfl, rfl, rfl, by omega⟩
  case round =>
    obtain ⟨k, t, hkn, rfl, rfl, HT, ht⟩ := hrel
    by_cases hlt : k < n
    · by_cases hle : t ≤ 1500
      · obtain ⟨l, hl⟩ : ∃ l, ls[k]? = some l := ⟨_, List.getElem?_eq_getElem (by rw [h.len]; exact hlt)⟩
        obtain ⟨b, off, v, rfl, hbg, hc, pa, pm, pc, rfl, hr, _⟩ := h.cell k l hl
        have HF : Hid _ := flat_take ls k l hl
        have HPL : Hid _ := hr.len
        have hpc := hr.le
        have hpx := hr.max
        unfold maxLen at hpx
        clear hl hr
        by_cases hbig : 1500 < pm
        · go_wp2_with fail
          go_ret
          exact ⟨⟨1501, rfl, by omega, fun h => by omega⟩, rfl⟩
        · have HT2 : Hid (t + pm = (ls.take (k + 1)).flatten.length) := by unfold Hid; rw [HF.out, List.length_append, HPL.out, ← HT.out]
          go_wp2_with fail
          exact ⟨⟨k + 1, t + pm, by omega, by go_num, by go_num, HT2, by omega⟩, by simp [intOf]; omega⟩
      · go_wp2_with fail
        go_ret
        exact ⟨⟨t, rfl, by omega, fun h => by omega⟩, rfl⟩
    · have HT2 : Hid (t = ls.flatten.length) := by
        have := HT.out
        rw [List.take_of_length_le (by rw [h.len]; omega)] at this
        exact this
      go_wp2_with fail
      go_ret
      exact ⟨⟨t, rfl, by omega, fun h => by have e := HT2.out; rw [← List.length_flatten, ← e]; exact h⟩, rfl⟩

/-- Values that are twins of the parts, one by one. -/
def TV (w : World) (B : Nat) (vs : List Value) (ls : List (List UInt8)) : Prop := vs.length = ls.length ∧ ∀ (j : Nat) (l : List UInt8), ls[j]? = some l → ∃ g, vs[j]? = some (.slice (some ⟨g, 0, none⟩) l.length (l.length + 3)) ∧ RowIs w g (twinRow l) ∧ B ≤ g

theorem TV.carry {w w' : World} {B : Nat} {vs : List Value} {ls : List (List UInt8)} (h : TV w B vs ls) (hb : ∀ g l, RowIs w g l → w'.heap[g]? = w.heap[g]?) : TV w' B vs ls :=
  ⟨h.1, fun j l hl => by obtain ⟨g, h1, h2, h3⟩ := h.2 j l hl; exact ⟨g, h1, h2.carry (hb g _ h2), h3⟩⟩
theorem AppV.apart {B : Nat} {w : World} {a : Option Addr} {n c : Nat} {vs : List Value} (h : AppV 23 B w a n c vs) {g : Nat} {l : List Value} (hr : RowIs w g l) : some g ≠ Value.ownBlock (.slice a n c) := by
  rcases h with ⟨rfl, _⟩ | ⟨b, rfl, ho⟩
  · simp [Value.ownBlock]
  · intro e
    have e' : g = b := by simpa [Value.ownBlock] using e
    subst e'
    obtain ⟨cur, h1, _⟩ := ho.row
    unfold RowIs at hr
    rw [hr] at h1
    simp at h1
theorem TV.snoc {w : World} {B : Nat} {vs : List Value} {ls : List (List UInt8)} (h : TV w B vs ls) {g : Nat} {l : List UInt8} (hr : RowIs w g (twinRow l)) (hg : B ≤ g) : TV w B (vs ++ [.slice (some ⟨g, 0, none⟩) l.length (l.length + 3)]) (ls ++ [l]) :=
  ⟨by simp [h.1], fun j x hx => by
    by_cases hj : j < ls.length
    · rw [List.getElem?_append_left hj] at hx
      obtain ⟨u, h1, h2⟩ := h.2 j x hx
      exact ⟨u, by rw [List.getElem?_append_left (by rw [h.1]; exact hj)]; exact h1, h2⟩
    · rw [List.getElem?_append_right (by omega)] at hx
      have h0 : j - ls.length = 0 := by
        have := (List.getElem?_eq_some_iff.1 hx).1
        simp at this
        omega
      rw [h0] at hx
      simp at hx
      subst hx
      exact ⟨g, by rw [List.getElem?_append_right (by rw [h.1]; omega), h.1, h0]; rfl, hr, hg⟩⟩

set_option maxRecDepth 100000 in
set_option maxHeartbeats 1000000 in
theorem twins_any (ao : Option Addr) (n cap : Nat) (ls : List (List UInt8)) (w : World) (h : Parts w w.heap.size ao n cap ls) (hn : n ≤ 1048576) (ht : ls.flatten.length ≤ 1048576) :
    Calls Tryd.prog 9 #[.slice ao n cap] w fun e w' => ∃ a c vs, e = .returned (.slice a n c) ∧ AppV 23 w.heap.size w' a n c vs ∧ TV w' w.heap.size vs ls ∧ Below w.heap.size w w' := by
  obtain ⟨i23, hi, hz0, hz1, hz2⟩ := info_parts23
  have HI : Hid _ := hi
  have HZ0 : Hid _ := hz0
  have HZ1 : Hid _ := hz1
  clear hi hz0 hz1
  have hnc := h.le
  have hcm := h.max
  unfold maxLen at hcm
  go_enter Tryd.func9, Tryd.ntmps9
  go_wp2_with fail
  go_loopw [3, 4] (fun s3 s4 wr => ∃ (k : Nat) (a : Option Addr) (c : Nat) (vs : List Value), k ≤ n ∧ s4 = .int .i64 (k : Int) ∧ s3 = .slice a k c ∧ AppV 23 w.heap.size wr a k c vs ∧ TV wr w.heap.size vs (ls.take k) ∧ Below w.heap.size w wr) (fun _ s4 _ => n - (intOf s4).toNat)
  case atStart => exact ⟨0, none, 0, [], by omega, rfl, rfl, .inl ⟨rfl, rfl, rfl, rfl⟩, ⟨rfl, fun j l hl => by simp at hl⟩, Below.refl _ _⟩
  case round =>
    obtain ⟨k, a, c, vs, hkn, rfl, rfl, hA, hT, hB⟩ := hrel
    have hsz := hB.size
    by_cases hlt : k < n
    · obtain ⟨l, hl⟩ : ∃ l, ls[k]? = some l := ⟨_, List.getElem?_eq_getElem (by rw [h.len]; exact hlt)⟩
      obtain ⟨b, off, v, rfl, hbg, hc, pa, pm, pc, rfl, hr, hlow⟩ := (h.low hB.block).cell k l hl
      have hfl := flat_le ls (k + 1)
      have HF : Hid _ := flat_take ls k l hl
      rw [HF.out, List.length_append, hr.len] at hfl
      have HTk : Hid (ls.take (k + 1) = ls.take k ++ [l]) := by unfold Hid; rw [List.take_add_one, hl]; rfl
      have HPL : Hid _ := hr.len
      go_wp2_with fail
      refine (twin_any pa pm pc l wr hr (by omega)).mono ?_
      rintro e w1 ⟨rfl, hRow, hb1⟩
      have hA1 := (hA.below hb1 (Nat.le_refl _)).alloc (.cells #[.slice (some ⟨wr.heap.size, 0, none⟩) pm (pm + 3)] 23)
      have hz1' := hb1.size
      have hT1 : TV (w1.alloc (.cells #[.slice (some ⟨wr.heap.size, 0, none⟩) pm (pm + 3)] 23)) w.heap.size vs (ls.take k) := hT.carry (fun g l hr => (Below.heap_alloc w1 _ g (Nat.lt_of_lt_of_le hr.lt hz1')).trans (hb1.block g hr.lt))
      have hRow1 : RowIs (w1.alloc (.cells #[.slice (some ⟨wr.heap.size, 0, none⟩) pm (pm + 3)] 23)) wr.heap.size (twinRow l) := hRow.carry (Below.heap_alloc w1 _ _ hRow.lt)
      have hB1 := (hB.trans (hb1.mono hsz)).alloc (by omega) (.cells #[.slice (some ⟨wr.heap.size, 0, none⟩) pm (pm + 3)] 23)
      have hcn' : Hid ((w1.alloc (.cells #[.slice (some ⟨wr.heap.size, 0, none⟩) pm (pm + 3)] 23)).cell? ⟨w1.heap.size, 0, none⟩ = some (.slice (some ⟨wr.heap.size, 0, none⟩) pm (pm + 3))) := (Blk.new w1 23 [.slice (some ⟨wr.heap.size, 0, none⟩) pm (pm + 3)]).cell rfl
      go_wp2_with (at_builtin; refine wpList_append_val (P := Tryd.prog) _ (by rfl) (.tmp 11) (.tmp 17) 22 22 (by rfl) 23 i23 (.slice none 0 0) Tryd.underlying22 HI.out HZ0.out HZ1.out rfl hz2 w.heap.size (by simp; omega) (by rfl) hA1 (.slice (some ⟨wr.heap.size, 0, none⟩) pm (pm + 3)) (by rfl) (src_val _ Tryd.underlying22 w1.heap.size _ _ rfl hcn'.out) (by omega) ?_; intro g2 cap2 w2 ho2 hb2 hg2 hw2)
      have keep : ∀ g l, RowIs (w1.alloc (.cells #[.slice (some ⟨wr.heap.size, 0, none⟩) pm (pm + 3)] 23)) g l → w2.heap[g]? = (w1.alloc (.cells #[.slice (some ⟨wr.heap.size, 0, none⟩) pm (pm + 3)] 23)).heap[g]? := fun g l hr => hg2.block g hr.lt (hA1.apart hr)
      have hT2 := (hT1.carry keep).snoc (hRow1.carry (keep _ _ hRow1)) hsz
      rw [HPL.out, ← HTk.out] at hT2
      exact ⟨⟨k + 1, some ⟨g2, 0, none⟩, cap2, _, by omega, by go_num, rfl, .inr ⟨g2, rfl, ho2⟩, hT2, hB1.trans hb2⟩, by simp [intOf]; omega⟩
    · have hk' : k = n := by omega
      rw [List.take_of_length_le (by rw [h.len]; omega)] at hT
      go_wp2_with fail
      go_ret
      subst hk'
      exact ⟨a, c, vs, rfl, hA, hT, hB⟩
end Go.Proofs.YtpibpjbeedcefaaDoor
