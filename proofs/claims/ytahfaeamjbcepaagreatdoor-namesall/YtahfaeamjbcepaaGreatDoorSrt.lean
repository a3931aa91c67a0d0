/- The walk of the document's Sorted: all texts, rising, each once. No condition but that the list can be read and is not too long. -/
import Derived.Test.YtahfaeamjbcepaaGreatDoorSrtF
import Derived.Deep.CutRange
namespace Go.Proofs.YtahfaeamjbcepaaGreatDoor
open Go.RowKit

theorem ins_asc {os : List (List UInt8)} {s : List UInt8} {k : Nat} (h : Asc os) (hlow : ∀ j x, j < k → os[j]? = some x → x < s) (hhigh : ∀ y, os[k]? = some y → ¬ y < s ∧ y ≠ s) : Asc (os.take k ++ s :: os.drop k) := by
  have hs : ∀ y ∈ os.drop k, s < y := fun y hy => by
    obtain ⟨j, hj⟩ := List.getElem?_of_mem hy
    rw [List.getElem?_drop] at hj
    have hkl : k < os.length := by have := (List.getElem?_eq_some_iff.1 hj).1; omega
    obtain ⟨h1, h2⟩ := hhigh _ (List.getElem?_eq_getElem hkl)
    have h3 : s < os[k] := by
      rcases lt_tri s os[k] with h | h | h
      · exact h
      · exact absurd h.symm h2
      · exact absurd h h1
    by_cases e : j = 0
    · subst e
      rw [Nat.add_zero, List.getElem?_eq_getElem hkl] at hj
      cases hj
      exact h3
    · exact List.lt_trans h3 (asc_get h (List.getElem?_eq_getElem hkl) hj (by omega))
  have hl : ∀ x ∈ os.take k, x < s := fun x hx => by
    obtain ⟨j, hj⟩ := List.getElem?_of_mem hx
    have hjk : j < k := by have := (List.getElem?_eq_some_iff.1 hj).1; simp at this; omega
    rw [List.getElem?_take_of_lt hjk] at hj
    exact hlow j x hjk hj
  unfold Asc at h ⊢
  refine List.pairwise_append.2 ⟨h.sublist (List.take_sublist _ _), List.pairwise_cons.2 ⟨hs, h.sublist (List.drop_sublist _ _)⟩, fun x hx y hy => ?_⟩
  rcases List.mem_cons.1 hy with rfl | hy
  · exact hl x hx
  · exact List.lt_trans (hl x hx) (hs y hy)

theorem ins_mem {os : List (List UInt8)} {s : List UInt8} {k : Nat} (x : List UInt8) : x ∈ os.take k ++ s :: os.drop k ↔ x ∈ os ∨ x = s := by
  have e : x ∈ os ↔ x ∈ os.take k ∨ x ∈ os.drop k := by rw [← List.mem_append, List.take_append_drop]
  rw [e]
  simp only [List.mem_append, List.mem_cons]
  constructor
  · rintro (h | h | h)
    · exact .inl (.inl h)
    · exact .inr h
    · exact .inl (.inr h)
  · rintro ((h | h) | h)
    · exact .inl h
    · exact .inr (.inr h)
    · exact .inr (.inl h)

set_option maxRecDepth 100000 in
set_option maxHeartbeats 4000000 in
theorem rsorted_any (ao : Option Addr) (n cap : Nat) (ss : List (List UInt8)) (w : World) (hR : SR w ao n cap ss) (hn : n ≤ 200) (hb : ∀ s ∈ ss, s.length ≤ 1000000000) :
    Calls Tryz.prog 9 #[.slice ao n cap] w fun e w' => ∃ a c, e = .returned (.slice a (srt ss).length c) ∧ SR w' a (srt ss).length c (srt ss) ∧ Below w.heap.size w w' := by
  have HN : Hid (ss.length = n) := hR.len
  have HB : Hid (∀ s ∈ ss, s.length ≤ 1000000000) := hb
  have HRR : Hid (SR w ao n cap ss) := hR
  clear hb hR
  go_enter Tryz.func9, Tryz.ntmps9
  go_wp2_with fail
  go_loopw [3, 4] (fun s3 s4 wr => ∃ (i : Nat) (oa : Option Addr) (m oc : Nat) (os : List (List UInt8)), i ≤ n ∧ s4 = .int .i64 (i : Int) ∧ s3 = .slice oa m oc ∧ wr.ownsRow w.heap.size 9 1 (.slice oa m oc) m (os.map tx) ∧ Hid (Asc os ∧ ∀ x, x ∈ os ↔ x ∈ ss.take i) ∧ m ≤ i ∧ Below w.heap.size w wr) (fun _ s4 _ => n - (intOf s4).toNat)
  case atStart => exact ⟨0, none, 0, 0, [], Nat.zero_le _, rfl, rfl, ⟨rfl, .inl ⟨rfl, rfl⟩⟩, ⟨by simp [Asc], fun x => by simp⟩, Nat.le_refl _, Below.refl _ _⟩
  case round =>
    obtain ⟨i, oa, m, oc, os, hin, rfl, rfl, OW, HA, hmi, bel⟩ := hrel
    have RO : SR wr oa m oc os := owns_SR OW
    have HOW : Hid (wr.ownsRow w.heap.size 9 1 (.slice oa m oc) m (os.map tx)) := OW
    clear OW
    by_cases hlt : i < n
    · have hd : decide ((i : Int) < (n : Int)) = true := by simpa using hlt
      obtain ⟨s, hs⟩ : ∃ s, ss[i]? = some s := ⟨_, List.getElem?_eq_getElem (by rw [HN.out]; exact hlt)⟩
      have HS : Hid (ss[i]? = some s) := hs
      obtain ⟨lb, loff, rfl, hlb0, hlc0⟩ := HRR.out.cells i s hs
      have hsl : s.length ≤ 1000000000 := HB.out s (List.mem_of_getElem? hs)
      have hlb : lb < wr.heap.size := Nat.lt_of_lt_of_le hlb0 bel.size
      have hlc : wr.cell? ⟨lb, loff + i, none⟩ = some (.string ⟨s.toArray⟩) := ((bcell bel).1 lb _ hlb0).trans hlc0
      have HO : Hid (SR wr oa m oc os) := RO
      have HM : Hid (os.length = m) := RO.len
      have hmoc := RO.le
      clear hs hlb0 hlc0 RO
      go_wp2_with fail
      obtain ⟨wo, hwo⟩ : ∃ wo, wo = wr := ⟨_, rfl⟩
      subst hwo
      go_loopw [5] (fun s5 wr => ∃ k : Nat, k ≤ m ∧ s5 = .int .i64 (k : Int) ∧ Hid (∀ j x, j < k → os[j]? = some x → x < s) ∧ Hid (∃ q, wr = wo.drewN q)) (fun s5 _ => m - (intOf s5).toNat)
      case atStart => exact ⟨0, Nat.zero_le _, rfl, (fun j x hj => absurd hj (Nat.not_lt_zero _)), ⟨0, rfl⟩⟩
      case round =>
        obtain ⟨k, hkm, rfl, HL, HQ⟩ := hrel
        have bwr : Below wo.heap.size wo wr := by obtain ⟨q, rfl⟩ := HQ.out; exact bel_drewN (Below.refl _ _) q
        have hlcr : wr.cell? ⟨lb, loff + i, none⟩ = some (.string ⟨s.toArray⟩) := by obtain ⟨q, rfl⟩ := HQ.out; exact hlc
        by_cases hk : k < m
        · have hdk : decide ((k : Int) < (m : Int)) = true := by simpa using hk
          have ik : (k : Int) < (m : Int) := by omega
          have ii : (i : Int) < (n : Int) := by omega
          obtain ⟨y, hy⟩ : ∃ y, os[k]? = some y := ⟨_, List.getElem?_eq_getElem (by rw [HM.out]; exact hk)⟩
          obtain ⟨ob, rfl, hobB, hob, _, _, hoc⟩ := owns_cell HOW.out (i := k) (c := tx y) (by simp [hy])
          have HY : Hid (os[k]? = some y) := hy
          have hyl : y.length ≤ 1000000000 := by
            have h1 := (HA.out.2 y).1 (List.mem_of_getElem? hy)
            exact HB.out y (List.mem_of_mem_take h1)
          have h16 := fun w => rless_draws y s w hyl hsl
          unfold tx at hoc h16
          have hocr : wr.cell? ⟨ob, k, none⟩ = some (.string ⟨y.toArray⟩) := by obtain ⟨q, rfl⟩ := HQ.out; exact hoc
          by_cases hys : y < s
          · rw [decide_eq_true hys] at h16
            have HL' : Hid (∀ j x, j < k + 1 → os[j]? = some x → x < s) := fun j x hj hx => by
              by_cases e : j = k
              · subst e; rw [HY.out] at hx; cases hx; exact hys
              · exact HL.out j x (by omega) hx
            clear hys hy
            go_wp2_with fail
            go_quiet ((go_at_call 16; exact Calls.quiet_of (h16 _)))
            go_wp2_with fail
            go_roundw
            case measure => simp [intOf]; omega
            case rel => exact ⟨k + 1, by omega, rfl, HL'.out, by obtain ⟨q, rfl⟩ := HQ.out; exact ⟨_, World.drewN_drewN _ _ _⟩⟩
          · rw [decide_eq_false hys] at h16
            have e8 : ((k : Int) == (m : Int)) = false := by simp; omega
            clear hy
            by_cases hyq : y = s
            · have hbn : (y == s) = true := by rw [hyq]; simp
              have HI : Hid (Asc os ∧ ∀ x, x ∈ os ↔ x ∈ ss.take (i + 1)) := ⟨HA.out.1, fun x => by
                rw [take_succ' HS.out, List.mem_append, HA.out.2 x]
                constructor
                · exact .inl
                · rintro (h | h)
                  · exact h
                  · rw [List.mem_singleton] at h
                    subst h
                    rw [← hyq, ← HA.out.2]
                    exact List.mem_of_getElem? HY.out⟩
              clear hyq hys
              go_wp2_with fail
              go_quiet ((go_at_call 16; exact Calls.quiet_of (h16 _)))
              go_wp2_with fail
              obtain ⟨wy, HWY⟩ : ∃ wy, Hid (wr.drewN nq = wy) := ⟨_, rfl⟩
              rw [HWY.out]
              have y1 : wy.cell? ⟨lb, loff + i, none⟩ = some (.string ⟨s.toArray⟩) := by rw [← HWY.out]; exact hlcr
              have y2 : wy.cell? ⟨ob, k, none⟩ = some (.string ⟨y.toArray⟩) := by rw [← HWY.out]; exact hocr
              go_quiet (fail)
              go_wp2_with fail
              have bwy : Below wo.heap.size wo wy := by rw [← HWY.out]; exact bel_drewN bwr _
              have bz := bel_drewN bwy nq
              go_roundw
              case measure => simp [intOf]; omega
              case rel => exact ⟨i + 1, some ⟨ob, 0, none⟩, m, oc, os, by omega, by simp, rfl, owns_below HOW.out bz, HI.out, by omega, bel.trans (bz.mono bel.size)⟩
            · have hbn : (y == s) = false := beq_eq_false_iff_ne.2 hyq
              have HIN : Hid (Asc (os.take k ++ s :: os.drop k) ∧ ∀ x, x ∈ os.take k ++ s :: os.drop k ↔ x ∈ ss.take (i + 1)) := ⟨ins_asc HA.out.1 HL.out (fun z hz => by rw [HY.out] at hz; cases hz; exact ⟨hys, hyq⟩), fun x => by rw [ins_mem, take_succ' HS.out, List.mem_append, HA.out.2 x, List.mem_singleton]⟩
              clear hyq hys
              go_wp2_with fail
              go_quiet ((go_at_call 16; exact Calls.quiet_of (h16 _)))
              go_wp2_with fail
              obtain ⟨wy, HWY⟩ : ∃ wy, Hid (wr.drewN nq = wy) := ⟨_, rfl⟩
              rw [HWY.out]
              have y1 : wy.cell? ⟨lb, loff + i, none⟩ = some (.string ⟨s.toArray⟩) := by rw [← HWY.out]; exact hlcr
              have y2 : wy.cell? ⟨ob, k, none⟩ = some (.string ⟨y.toArray⟩) := by rw [← HWY.out]; exact hocr
              have bwy : Below wo.heap.size wo wy := by rw [← HWY.out]; exact bel_drewN bwr _
              go_quiet (fail)
              go_wp2_with fail
              obtain ⟨wz, HWZ⟩ : ∃ wz, Hid (wy.drewN nq = wz) := ⟨_, rfl⟩
              rw [HWZ.out]
              have bz : Below wo.heap.size wo wz := by rw [← HWZ.out]; exact bel_drewN bwy _
              have BZ : Hid (Below w.heap.size w wz) := bel.trans (bz.mono bel.size)
              have HO : Hid (SR wz (some ⟨ob, 0, none⟩) m oc os) := (owns_SR HOW.out).on bz
              have hlb : lb < wz.heap.size := Nat.lt_of_lt_of_le hlb bz.size
              have hlc : wz.cell? ⟨lb, loff + i, none⟩ = some (.string ⟨s.toArray⟩) := ((bcell bz).1 lb _ (by assumption)).trans hlc
              have hko : k < oc := by omega
              clear y1 y2 hlcr hocr hoc h16 hdk e8 hbn
              refine wp_region_each (SA := fun u => Below wz.heap.size wz u) (SB := fun u => Below wz.heap.size wz u) (c := 14) (isB := fun j => j == 15) (Φ := SfF wz.heap.size n m k i (some ⟨lb, loff, none⟩) (some ⟨ob, 0, none⟩) cap oc lb loff ob 0 s os) (D := SfD) (W := SfW) (fin := [15]) (live := SfL) (by kernel_rfl) (by kernel_rfl) (by kernel_rfl) (by kernel_rfl) (by kernel_rfl) (by decide) (by decide) (fun _ _ _ _ hd h => ⟨hd.symm.trans h.1, h.2⟩) (bel_drewN (Below.refl _ _) 1) ?_ ?_
              · intro f u hB hF
                have h15 : u.ownsRow wz.heap.size 9 1 (f 15) (m + 1) ((os.take k ++ s :: os.drop k).map tx) := hF 15 (by decide)
                obtain ⟨gn, cn, en, hgn1, hgn2, hgn3, hgn4⟩ := owns_shape h15 (by omega)
                rw [en] at h15
                have HI := HIN.out
                simp only [putAll, Act.put, List.setIfInBounds_toArray, List.set_cons_succ, List.set_cons_zero, Nat.zero_add, Nat.reduceAdd, List.contains_nil, Bool.false_eq_true, if_false, en]
                go_wp2_with fail
                go_roundw
                case measure => simp [intOf]; omega
                case rel => exact ⟨i + 1, some ⟨gn, 0, none⟩, m + 1, cn, os.take k ++ s :: os.drop k, by omega, by simp, rfl, owns_base h15 (fun g hg => by have := (owns_own h15 hg).1; have := BZ.out.size; omega), HI, by omega, BZ.out.trans (hB.mono BZ.out.size)⟩
              · refine EachSteps.cons (fun f u hS hF K hK => ?_) ?_
                · have hA : Below wz.heap.size wz u := hS
                  refine ⟨?_⟩
                  simp only [putAll, Act.put, List.setIfInBounds_toArray, List.set_cons_succ, List.set_cons_zero, Nat.zero_add, Nat.reduceAdd, show SfW 0 = [] from rfl, List.contains_nil, Bool.false_eq_true, if_false] at hK ⊢
                  go_simp
                  (try go_wp2_with fail)
                  exact hK _ _ (hA.alloc hA.size _) (fun j _ h => SfF.on _ _ _ _ _ _ _ _ _ _ _ _ _ _ _ j _ u _ ((Below.refl _ _).alloc (Nat.le_refl _) _) h) ⟨_, rfl, hA.size, heap_alloc_new u _⟩
                refine EachSteps.cons (fun f u hS hF K hK => ?_) ?_
                · have hA : Below wz.heap.size wz u := hS
                  refine ⟨?_⟩
                  simp only [putAll, Act.put, List.setIfInBounds_toArray, List.set_cons_succ, List.set_cons_zero, Nat.zero_add, Nat.reduceAdd, show SfW 1 = [15] from rfl, List.contains_nil, List.contains_cons, Nat.reduceBEq, Bool.or_false, Bool.false_eq_true, if_true, if_false] at hK ⊢
                  go_simp
                  (try go_wp2_with fail)
                  exact hK _ _ hA (fun _ _ h => h) rfl
                refine EachSteps.cons (fun f u hS hF K hK => ?_) ?_
                · have hA : Below wz.heap.size wz u := hS
                  refine ⟨?_⟩
                  simp only [putAll, Act.put, List.setIfInBounds_toArray, List.set_cons_succ, List.set_cons_zero, Nat.zero_add, Nat.reduceAdd, show SfW 2 = [] from rfl, List.contains_nil, Bool.false_eq_true, if_false] at hK ⊢
                  go_simp
                  (try go_wp2_with fail)
                  exact hK _ _ hA (fun _ _ h => h) rfl
                refine EachSteps.cons (fun f u hS hF K hK => ?_) ?_
                · have hA : Below wz.heap.size wz u := hS
                  have e1 : f 1 = .slice (some ⟨ob, 0, none⟩) m oc := hF 1 (by decide)
                  have e2 : f 2 = .int .i64 (k : Int) := hF 2 (by decide)
                  refine ⟨?_⟩
                  simp only [putAll, Act.put, List.setIfInBounds_toArray, List.set_cons_succ, List.set_cons_zero, Nat.zero_add, Nat.reduceAdd, show SfW 3 = [] from rfl, List.contains_nil, Bool.false_eq_true, if_false, e1, e2] at hK ⊢
                  go_simp
                  (try go_wp2_with fail)
                  exact hK _ _ hA (fun _ _ h => h) rfl
                refine EachSteps.cons (fun f u hS hF K hK => ?_) ?_
                · have hA : Below wz.heap.size wz u := hS
                  have h0 : ∃ g, f 0 = .slice (some ⟨g, 0, none⟩) 0 0 ∧ wz.heap.size ≤ g ∧ u.heap[g]? = some (.cells #[] 9 (0, 0)) := hF 0 (by decide)
                  obtain ⟨g, e0, hgR, hg⟩ := h0
                  have e3 : f 3 = .slice (some ⟨ob, 0, none⟩) k oc := hF 3 (by decide)
                  have Ru := HO.out.on hA
                  refine ⟨?_⟩
                  simp only [putAll, Act.put, List.setIfInBounds_toArray, List.set_cons_succ, List.set_cons_zero, Nat.zero_add, Nat.reduceAdd, show SfW 4 = [] from rfl, List.contains_nil, Bool.false_eq_true, if_false, e0, e3] at hK ⊢
                  refine Eq.mpr (if_pos (by rfl)) ?_
                  refine wp_append_strs (by rfl) (.tmp 44) (.tmp 47) (by rfl) wz.heap.size (.slice (some ⟨g, 0, none⟩) 0 0) 0 [] (by rfl) ⟨by simp, .inr ⟨g, 0, #[], rfl, hgR, hg, Nat.le_refl _, by decide, by simp, by simp⟩⟩ (some ⟨ob, 0, none⟩) k oc (os.take k) (by rfl) (by rw [List.length_take, HM.out]; omega) (fun j s' hj => by
                      have hjk : j < k := by have := (List.getElem?_eq_some_iff.1 hj).1; simp at this; omega
                      rw [List.getElem?_take_of_lt hjk] at hj
                      obtain ⟨b, off, e, _, hc⟩ := Ru.cells j s' hj
                      exact ⟨b, off, e, hc⟩) (by omega) hA.size ?_
                  intro v6 w6 ho hgr
                  have hA6 : Below wz.heap.size wz w6 := hA.trans (below_grown hgr hA.size (fun b hb => by cases hb; exact hgR))
                  simp only [Act.put, List.setIfInBounds_toArray, List.set_cons_succ, List.set_cons_zero]
                  exact hK _ _ hA6 (fun j hj h => SfF.at4 _ _ _ _ _ _ _ _ _ _ _ _ _ _ _ j hj _ u _ hg hgr h) (show w6.ownsRow wz.heap.size 9 1 v6 k ((os.take k).map tx) from by simpa using ho)
                refine EachSteps.cons (fun f u hS hF K hK => ?_) ?_
                · have hA : Below wz.heap.size wz u := hS
                  refine ⟨?_⟩
                  simp only [putAll, Act.put, List.setIfInBounds_toArray, List.set_cons_succ, List.set_cons_zero, Nat.zero_add, Nat.reduceAdd, show SfW 5 = [] from rfl, List.contains_nil, Bool.false_eq_true, if_false] at hK ⊢
                  go_simp
                  (try go_wp2_with fail)
                  exact hK _ _ hA (fun _ _ h => h) rfl
                refine EachSteps.cons (fun f u hS hF K hK => ?_) ?_
                · have hA : Below wz.heap.size wz u := hS
                  refine ⟨?_⟩
                  simp only [putAll, Act.put, List.setIfInBounds_toArray, List.set_cons_succ, List.set_cons_zero, Nat.zero_add, Nat.reduceAdd, show SfW 6 = [] from rfl, List.contains_nil, Bool.false_eq_true, if_false] at hK ⊢
                  go_simp
                  (try go_wp2_with fail)
                  exact hK _ _ hA (fun _ _ h => h) rfl
                refine EachSteps.cons (fun f u hS hF K hK => ?_) ?_
                · have hA : Below wz.heap.size wz u := hS
                  have e5 : f 5 = .slice (some ⟨lb, loff, none⟩) n cap := hF 5 (by decide)
                  have e6 : f 6 = .int .i64 (i : Int) := hF 6 (by decide)
                  refine ⟨?_⟩
                  simp only [putAll, Act.put, List.setIfInBounds_toArray, List.set_cons_succ, List.set_cons_zero, Nat.zero_add, Nat.reduceAdd, show SfW 7 = [] from rfl, List.contains_nil, Bool.false_eq_true, if_false, e5, e6] at hK ⊢
                  go_simp
                  (try go_wp2_with fail)
                  exact hK _ _ hA (fun _ _ h => h) rfl
                refine EachSteps.cons (fun f u hS hF K hK => ?_) ?_
                · have hA : Below wz.heap.size wz u := hS
                  have e7 : f 7 = .pointer (some ⟨lb, loff + i, none⟩) := hF 7 (by decide)
                  have hc := ((bcell hA).1 lb (loff + i) hlb).trans hlc
                  refine ⟨?_⟩
                  simp only [putAll, Act.put, List.setIfInBounds_toArray, List.set_cons_succ, List.set_cons_zero, Nat.zero_add, Nat.reduceAdd, show SfW 8 = [] from rfl, List.contains_nil, Bool.false_eq_true, if_false, e7] at hK ⊢
                  go_simp
                  (try go_wp2_with fail)
                  exact hK _ _ hA (fun _ _ h => h) rfl
                refine EachSteps.cons (fun f u hS hF K hK => ?_) ?_
                · have hA : Below wz.heap.size wz u := hS
                  have e8 : f 8 = .string ⟨s.toArray⟩ := hF 8 (by decide)
                  refine ⟨?_⟩
                  simp only [putAll, Act.put, List.setIfInBounds_toArray, List.set_cons_succ, List.set_cons_zero, Nat.zero_add, Nat.reduceAdd, show SfW 9 = [] from rfl, List.contains_nil, Bool.false_eq_true, if_false, e8] at hK ⊢
                  go_simp
                  (try go_wp2_with fail)
                  exact hK _ _ (hA.alloc hA.size _) (fun j _ h => SfF.on _ _ _ _ _ _ _ _ _ _ _ _ _ _ _ j _ u _ ((Below.refl _ _).alloc (Nat.le_refl _) _) h) ⟨_, rfl, Blk.new _ _ _⟩
                refine EachSteps.cons (fun f u hS hF K hK => ?_) ?_
                · have hA : Below wz.heap.size wz u := hS
                  have h4 : u.ownsRow wz.heap.size 9 1 (f 4) k ((os.take k).map tx) := hF 4 (by decide)
                  have h9 : ∃ g, f 9 = .slice (some ⟨g, 0, none⟩) 1 1 ∧ Blk u g 9 [.string ⟨s.toArray⟩] := hF 9 (by decide)
                  obtain ⟨g, e9, h9⟩ := h9
                  refine ⟨?_⟩
                  simp only [putAll, Act.put, List.setIfInBounds_toArray, List.set_cons_succ, List.set_cons_zero, Nat.zero_add, Nat.reduceAdd, show SfW 10 = [] from rfl, List.contains_nil, Bool.false_eq_true, if_false, e9] at hK ⊢
                  refine Eq.mpr (if_pos (by rfl)) ?_
                  refine wp_append_strs (by rfl) (.tmp 48) (.tmp 53) (by rfl) wz.heap.size (f 4) k _ (by rfl) h4 (some ⟨g, 0, none⟩) 1 1 [s] (by rfl) rfl (fun j s' hj => by
                      match j, hj with
                      | 0, hj => simp at hj; subst hj; exact ⟨g, 0, rfl, h9.cell rfl⟩) (by omega) hA.size ?_
                  intro v6 w6 ho hgr
                  have hA6 : Below wz.heap.size wz w6 := hA.trans (below_grown hgr hA.size (fun b hb => (owns_own h4 hb).1))
                  simp only [Act.put, List.setIfInBounds_toArray, List.set_cons_succ, List.set_cons_zero]
                  exact hK _ _ hA6 (fun j hj h => SfF.at10 _ _ _ _ _ _ _ _ _ _ _ _ _ _ _ j hj _ u _ h) (show w6.ownsRow wz.heap.size 9 1 v6 (k + 1) ((os.take k ++ [s]).map tx) from by simpa using ho)
                refine EachSteps.cons (fun f u hS hF K hK => ?_) ?_
                · have hA : Below wz.heap.size wz u := hS
                  refine ⟨?_⟩
                  simp only [putAll, Act.put, List.setIfInBounds_toArray, List.set_cons_succ, List.set_cons_zero, Nat.zero_add, Nat.reduceAdd, show SfW 11 = [15] from rfl, List.contains_nil, List.contains_cons, Nat.reduceBEq, Bool.or_false, Bool.false_eq_true, if_true, if_false] at hK ⊢
                  go_simp
                  (try go_wp2_with fail)
                  exact hK _ _ hA (fun _ _ h => h) rfl
                refine EachSteps.cons (fun f u hS hF K hK => ?_) ?_
                · have hA : Below wz.heap.size wz u := hS
                  refine ⟨?_⟩
                  simp only [putAll, Act.put, List.setIfInBounds_toArray, List.set_cons_succ, List.set_cons_zero, Nat.zero_add, Nat.reduceAdd, show SfW 12 = [] from rfl, List.contains_nil, Bool.false_eq_true, if_false] at hK ⊢
                  go_simp
                  (try go_wp2_with fail)
                  exact hK _ _ hA (fun _ _ h => h) rfl
                refine EachSteps.cons (fun f u hS hF K hK => ?_) ?_
                · have hA : Below wz.heap.size wz u := hS
                  have e11 : f 11 = .slice (some ⟨ob, 0, none⟩) m oc := hF 11 (by decide)
                  have e12 : f 12 = .int .i64 (k : Int) := hF 12 (by decide)
                  refine ⟨?_⟩
                  simp only [putAll, Act.put, List.setIfInBounds_toArray, List.set_cons_succ, List.set_cons_zero, Nat.zero_add, Nat.reduceAdd, show SfW 13 = [] from rfl, List.contains_nil, Bool.false_eq_true, if_false, e11, e12] at hK ⊢
                  go_simp
                  (try go_wp2_with fail)
                  exact hK _ _ hA (fun _ _ h => h) ⟨_, _, rfl, .inr (by simp)⟩
                refine EachSteps.cons (fun f u hS hF K hK => ?_) ?_
                · have hA : Below wz.heap.size wz u := hS
                  have h10 : u.ownsRow wz.heap.size 9 1 (f 10) (k + 1) ((os.take k ++ [s]).map tx) := hF 10 (by decide)
                  have h13 : ∃ a c, f 13 = .slice a (m - k) c ∧ (m - k = 0 ∨ a = some ⟨ob, 0 + k, none⟩) := hF 13 (by decide)
                  obtain ⟨a13, c13, e13, h13⟩ := h13
                  have Ru := HO.out.on hA
                  refine ⟨?_⟩
                  simp only [putAll, Act.put, List.setIfInBounds_toArray, List.set_cons_succ, List.set_cons_zero, Nat.zero_add, Nat.reduceAdd, show SfW 14 = [] from rfl, List.contains_nil, Bool.false_eq_true, if_false, e13] at hK ⊢
                  refine Eq.mpr (if_pos (by rfl)) ?_
                  refine wp_append_strs (by rfl) (.tmp 54) (.tmp 57) (by rfl) wz.heap.size (f 10) (k + 1) _ (by rfl) h10 a13 (m - k) c13 (os.drop k) (by rfl) (by rw [List.length_drop, HM.out]) (fun j s' hj => by
                      have hjk : j < m - k := by have := (List.getElem?_eq_some_iff.1 hj).1; simp at this; have := HM.out; omega
                      rw [List.getElem?_drop] at hj
                      rcases h13 with h | h
                      · omega
                      · obtain ⟨b, off, e, _, hc⟩ := Ru.cells (k + j) s' hj
                        simp only [Option.some.injEq, Addr.mk.injEq] at e
                        obtain ⟨rfl, rfl, _⟩ := e
                        exact ⟨ob, 0 + k, h, by rw [Nat.add_assoc]; exact hc⟩) (by omega) hA.size ?_
                  intro v6 w6 ho hgr
                  have hA6 : Below wz.heap.size wz w6 := hA.trans (below_grown hgr hA.size (fun b hb => (owns_own h10 hb).1))
                  simp only [Act.put, List.setIfInBounds_toArray, List.set_cons_succ, List.set_cons_zero]
                  exact hK _ _ hA6 (fun j hj _ => by simp [SfL] at hj) (show w6.ownsRow wz.heap.size 9 1 v6 (m + 1) ((os.take k ++ s :: os.drop k).map tx) from by rw [show m + 1 = k + 1 + (m - k) by omega]; simpa using ho)
                refine EachSteps.cons (fun f u hS hF K hK => ?_) ?_
                · have hA : Below wz.heap.size wz u := hS
                  have h14 : u.ownsRow wz.heap.size 9 1 (f 14) (m + 1) ((os.take k ++ s :: os.drop k).map tx) := hF 14 (by decide)
                  refine ⟨?_⟩
                  simp only [putAll, Act.put, List.setIfInBounds_toArray, List.set_cons_succ, List.set_cons_zero, Nat.zero_add, Nat.reduceAdd, show SfW 15 = [] from rfl, List.contains_nil, Bool.false_eq_true, if_false] at hK ⊢
                  go_simp
                  (try go_wp2_with fail)
                  exact hK _ _ hA (fun _ _ h => h) h14
                exact EachSteps.nil
        · have hdk : decide ((k : Int) < (m : Int)) = false := by simp; omega
          have e8 : ((k : Int) == (m : Int)) = true := by simp; omega
          have HIN : Hid (Asc (os.take k ++ s :: os.drop k) ∧ ∀ x, x ∈ os.take k ++ s :: os.drop k ↔ x ∈ ss.take (i + 1)) := ⟨ins_asc HA.out.1 HL.out (fun z hz => by rw [List.getElem?_eq_none (by rw [HM.out]; omega)] at hz; cases hz), fun x => by rw [ins_mem, take_succ' HS.out, List.mem_append, HA.out.2 x, List.mem_singleton]⟩
          have shp : (oa = none ∧ m = 0 ∧ oc = 0) ∨ ∃ ob, oa = some ⟨ob, 0, none⟩ := by
            rcases HOW.out.2 with ⟨e, h0⟩ | ⟨g, c, cur, e, _⟩
            · simp only [Value.slice.injEq] at e
              exact .inl ⟨e.1, h0, e.2.2⟩
            · simp only [Value.slice.injEq] at e
              exact .inr ⟨g, e.1⟩
          go_wp2_with fail
          go_quiet (fail)
          go_wp2_with fail
          obtain ⟨wy, HWY⟩ : ∃ wy, Hid (wr.drewN nq = wy) := ⟨_, rfl⟩
          rw [HWY.out]
          have bwy : Below wo.heap.size wo wy := by rw [← HWY.out]; exact bel_drewN bwr _
          go_quiet (fail)
          go_wp2_with fail
          obtain ⟨wz, HWZ⟩ : ∃ wz, Hid (wy.drewN nq = wz) := ⟨_, rfl⟩
          rw [HWZ.out]
          have bz : Below wo.heap.size wo wz := by rw [← HWZ.out]; exact bel_drewN bwy _
          have BZ : Hid (Below w.heap.size w wz) := bel.trans (bz.mono bel.size)
          have HO : Hid (SR wz oa m oc os) := (owns_SR HOW.out).on bz
          have hlb : lb < wz.heap.size := Nat.lt_of_lt_of_le hlb bz.size
          have hlc : wz.cell? ⟨lb, loff + i, none⟩ = some (.string ⟨s.toArray⟩) := ((bcell bz).1 lb _ (by assumption)).trans hlc
          clear hlcr hdk e8
          rcases shp with ⟨rfl, rfl, rfl⟩ | ⟨ob, rfl⟩
          · obtain rfl : k = 0 := by omega
            refine wp_region_each (SA := fun u => Below wz.heap.size wz u) (SB := fun u => Below wz.heap.size wz u) (c := 14) (isB := fun j => j == 15) (Φ := SfF wz.heap.size n 0 0 i (some ⟨lb, loff, none⟩) none cap 0 lb loff 0 0 s os) (D := SfD) (W := SfW) (fin := [15]) (live := SfL) (by kernel_rfl) (by kernel_rfl) (by kernel_rfl) (by kernel_rfl) (by kernel_rfl) (by decide) (by decide) (fun _ _ _ _ hd h => ⟨hd.symm.trans h.1, h.2⟩) (bel_drewN (Below.refl _ _) 1) ?_ ?_
            · intro f u hB hF
              have h15 : u.ownsRow wz.heap.size 9 1 (f 15) (0 + 1) ((os.take 0 ++ s :: os.drop 0).map tx) := hF 15 (by decide)
              obtain ⟨gn, cn, en, hgn1, hgn2, hgn3, hgn4⟩ := owns_shape h15 (by omega)
              rw [en] at h15
              have HI := HIN.out
              simp only [putAll, Act.put, List.setIfInBounds_toArray, List.set_cons_succ, List.set_cons_zero, Nat.zero_add, Nat.reduceAdd, List.contains_nil, Bool.false_eq_true, if_false, en]
              go_wp2_with fail
              go_roundw
              case measure => simp [intOf]; omega
              case rel => exact ⟨i + 1, some ⟨gn, 0, none⟩, 0 + 1, cn, os.take 0 ++ s :: os.drop 0, by omega, by simp, rfl, owns_base h15 (fun g hg => by have := (owns_own h15 hg).1; have := BZ.out.size; omega), HI, by omega, BZ.out.trans (hB.mono BZ.out.size)⟩
            · refine EachSteps.cons (fun f u hS hF K hK => ?_) ?_
              · have hA : Below wz.heap.size wz u := hS
                refine ⟨?_⟩
                simp only [putAll, Act.put, List.setIfInBounds_toArray, List.set_cons_succ, List.set_cons_zero, Nat.zero_add, Nat.reduceAdd, show SfW 0 = [] from rfl, List.contains_nil, Bool.false_eq_true, if_false] at hK ⊢
                go_simp
                (try go_wp2_with fail)
                exact hK _ _ (hA.alloc hA.size _) (fun j _ h => SfF.on _ _ _ _ _ _ _ _ _ _ _ _ _ _ _ j _ u _ ((Below.refl _ _).alloc (Nat.le_refl _) _) h) ⟨_, rfl, hA.size, heap_alloc_new u _⟩
              refine EachSteps.cons (fun f u hS hF K hK => ?_) ?_
              · have hA : Below wz.heap.size wz u := hS
                refine ⟨?_⟩
                simp only [putAll, Act.put, List.setIfInBounds_toArray, List.set_cons_succ, List.set_cons_zero, Nat.zero_add, Nat.reduceAdd, show SfW 1 = [15] from rfl, List.contains_nil, List.contains_cons, Nat.reduceBEq, Bool.or_false, Bool.false_eq_true, if_true, if_false] at hK ⊢
                go_simp
                (try go_wp2_with fail)
                exact hK _ _ hA (fun _ _ h => h) rfl
              refine EachSteps.cons (fun f u hS hF K hK => ?_) ?_
              · have hA : Below wz.heap.size wz u := hS
                refine ⟨?_⟩
                simp only [putAll, Act.put, List.setIfInBounds_toArray, List.set_cons_succ, List.set_cons_zero, Nat.zero_add, Nat.reduceAdd, show SfW 2 = [] from rfl, List.contains_nil, Bool.false_eq_true, if_false] at hK ⊢
                go_simp
                (try go_wp2_with fail)
                exact hK _ _ hA (fun _ _ h => h) rfl
              refine EachSteps.cons (fun f u hS hF K hK => ?_) ?_
              · have hA : Below wz.heap.size wz u := hS
                have e1 : f 1 = .slice none 0 0 := hF 1 (by decide)
                have e2 : f 2 = .int .i64 (0 : Int) := hF 2 (by decide)
                refine ⟨?_⟩
                simp only [putAll, Act.put, List.setIfInBounds_toArray, List.set_cons_succ, List.set_cons_zero, Nat.zero_add, Nat.reduceAdd, show SfW 3 = [] from rfl, List.contains_nil, Bool.false_eq_true, if_false, e1, e2] at hK ⊢
                go_simp
                (try go_wp2_with fail)
                exact hK _ _ hA (fun _ _ h => h) rfl
              refine EachSteps.cons (fun f u hS hF K hK => ?_) ?_
              · have hA : Below wz.heap.size wz u := hS
                have h0 : ∃ g, f 0 = .slice (some ⟨g, 0, none⟩) 0 0 ∧ wz.heap.size ≤ g ∧ u.heap[g]? = some (.cells #[] 9 (0, 0)) := hF 0 (by decide)
                obtain ⟨g, e0, hgR, hg⟩ := h0
                have e3 : f 3 = .slice none 0 0 := hF 3 (by decide)
                have Ru := HO.out.on hA
                refine ⟨?_⟩
                simp only [putAll, Act.put, List.setIfInBounds_toArray, List.set_cons_succ, List.set_cons_zero, Nat.zero_add, Nat.reduceAdd, show SfW 4 = [] from rfl, List.contains_nil, Bool.false_eq_true, if_false, e0, e3] at hK ⊢
                refine Eq.mpr (if_pos (by rfl)) ?_
                refine wp_append_strs (by rfl) (.tmp 44) (.tmp 47) (by rfl) wz.heap.size (.slice (some ⟨g, 0, none⟩) 0 0) 0 [] (by rfl) ⟨by simp, .inr ⟨g, 0, #[], rfl, hgR, hg, Nat.le_refl _, by decide, by simp, by simp⟩⟩ none 0 0 (os.take 0) (by rfl) (by simp) (fun j s' hj => by
                    have hjk : j < 0 := by simp at hj
                    rw [List.getElem?_take_of_lt hjk] at hj
                    obtain ⟨b, off, e, _, hc⟩ := Ru.cells j s' hj
                    exact ⟨b, off, e, hc⟩) (by omega) hA.size ?_
                intro v6 w6 ho hgr
                have hA6 : Below wz.heap.size wz w6 := hA.trans (below_grown hgr hA.size (fun b hb => by cases hb; exact hgR))
                simp only [Act.put, List.setIfInBounds_toArray, List.set_cons_succ, List.set_cons_zero]
                exact hK _ _ hA6 (fun j hj h => SfF.at4 _ _ _ _ _ _ _ _ _ _ _ _ _ _ _ j hj _ u _ hg hgr h) (show w6.ownsRow wz.heap.size 9 1 v6 0 ((os.take 0).map tx) from by simpa using ho)
              refine EachSteps.cons (fun f u hS hF K hK => ?_) ?_
              · have hA : Below wz.heap.size wz u := hS
                refine ⟨?_⟩
                simp only [putAll, Act.put, List.setIfInBounds_toArray, List.set_cons_succ, List.set_cons_zero, Nat.zero_add, Nat.reduceAdd, show SfW 5 = [] from rfl, List.contains_nil, Bool.false_eq_true, if_false] at hK ⊢
                go_simp
                (try go_wp2_with fail)
                exact hK _ _ hA (fun _ _ h => h) rfl
              refine EachSteps.cons (fun f u hS hF K hK => ?_) ?_
              · have hA : Below wz.heap.size wz u := hS
                refine ⟨?_⟩
                simp only [putAll, Act.put, List.setIfInBounds_toArray, List.set_cons_succ, List.set_cons_zero, Nat.zero_add, Nat.reduceAdd, show SfW 6 = [] from rfl, List.contains_nil, Bool.false_eq_true, if_false] at hK ⊢
                go_simp
                (try go_wp2_with fail)
                exact hK _ _ hA (fun _ _ h => h) rfl
              refine EachSteps.cons (fun f u hS hF K hK => ?_) ?_
              · have hA : Below wz.heap.size wz u := hS
                have e5 : f 5 = .slice (some ⟨lb, loff, none⟩) n cap := hF 5 (by decide)
                have e6 : f 6 = .int .i64 (i : Int) := hF 6 (by decide)
                refine ⟨?_⟩
                simp only [putAll, Act.put, List.setIfInBounds_toArray, List.set_cons_succ, List.set_cons_zero, Nat.zero_add, Nat.reduceAdd, show SfW 7 = [] from rfl, List.contains_nil, Bool.false_eq_true, if_false, e5, e6] at hK ⊢
                go_simp
                (try go_wp2_with fail)
                exact hK _ _ hA (fun _ _ h => h) rfl
              refine EachSteps.cons (fun f u hS hF K hK => ?_) ?_
              · have hA : Below wz.heap.size wz u := hS
                have e7 : f 7 = .pointer (some ⟨lb, loff + i, none⟩) := hF 7 (by decide)
                have hc := ((bcell hA).1 lb (loff + i) hlb).trans hlc
                refine ⟨?_⟩
                simp only [putAll, Act.put, List.setIfInBounds_toArray, List.set_cons_succ, List.set_cons_zero, Nat.zero_add, Nat.reduceAdd, show SfW 8 = [] from rfl, List.contains_nil, Bool.false_eq_true, if_false, e7] at hK ⊢
                go_simp
                (try go_wp2_with fail)
                exact hK _ _ hA (fun _ _ h => h) rfl
              refine EachSteps.cons (fun f u hS hF K hK => ?_) ?_
              · have hA : Below wz.heap.size wz u := hS
                have e8 : f 8 = .string ⟨s.toArray⟩ := hF 8 (by decide)
                refine ⟨?_⟩
                simp only [putAll, Act.put, List.setIfInBounds_toArray, List.set_cons_succ, List.set_cons_zero, Nat.zero_add, Nat.reduceAdd, show SfW 9 = [] from rfl, List.contains_nil, Bool.false_eq_true, if_false, e8] at hK ⊢
                go_simp
                (try go_wp2_with fail)
                exact hK _ _ (hA.alloc hA.size _) (fun j _ h => SfF.on _ _ _ _ _ _ _ _ _ _ _ _ _ _ _ j _ u _ ((Below.refl _ _).alloc (Nat.le_refl _) _) h) ⟨_, rfl, Blk.new _ _ _⟩
              refine EachSteps.cons (fun f u hS hF K hK => ?_) ?_
              · have hA : Below wz.heap.size wz u := hS
                have h4 : u.ownsRow wz.heap.size 9 1 (f 4) 0 ((os.take 0).map tx) := hF 4 (by decide)
                have h9 : ∃ g, f 9 = .slice (some ⟨g, 0, none⟩) 1 1 ∧ Blk u g 9 [.string ⟨s.toArray⟩] := hF 9 (by decide)
                obtain ⟨g, e9, h9⟩ := h9
                refine ⟨?_⟩
                simp only [putAll, Act.put, List.setIfInBounds_toArray, List.set_cons_succ, List.set_cons_zero, Nat.zero_add, Nat.reduceAdd, show SfW 10 = [] from rfl, List.contains_nil, Bool.false_eq_true, if_false, e9] at hK ⊢
                refine Eq.mpr (if_pos (by rfl)) ?_
                refine wp_append_strs (by rfl) (.tmp 48) (.tmp 53) (by rfl) wz.heap.size (f 4) 0 _ (by rfl) h4 (some ⟨g, 0, none⟩) 1 1 [s] (by rfl) rfl (fun j s' hj => by
                    match j, hj with
                    | 0, hj => simp at hj; subst hj; exact ⟨g, 0, rfl, h9.cell rfl⟩) (by omega) hA.size ?_
                intro v6 w6 ho hgr
                have hA6 : Below wz.heap.size wz w6 := hA.trans (below_grown hgr hA.size (fun b hb => (owns_own h4 hb).1))
                simp only [Act.put, List.setIfInBounds_toArray, List.set_cons_succ, List.set_cons_zero]
                exact hK _ _ hA6 (fun j hj h => SfF.at10 _ _ _ _ _ _ _ _ _ _ _ _ _ _ _ j hj _ u _ h) (show w6.ownsRow wz.heap.size 9 1 v6 (0 + 1) ((os.take 0 ++ [s]).map tx) from by simpa using ho)
              refine EachSteps.cons (fun f u hS hF K hK => ?_) ?_
              · have hA : Below wz.heap.size wz u := hS
                refine ⟨?_⟩
                simp only [putAll, Act.put, List.setIfInBounds_toArray, List.set_cons_succ, List.set_cons_zero, Nat.zero_add, Nat.reduceAdd, show SfW 11 = [15] from rfl, List.contains_nil, List.contains_cons, Nat.reduceBEq, Bool.or_false, Bool.false_eq_true, if_true, if_false] at hK ⊢
                go_simp
                (try go_wp2_with fail)
                exact hK _ _ hA (fun _ _ h => h) rfl
              refine EachSteps.cons (fun f u hS hF K hK => ?_) ?_
              · have hA : Below wz.heap.size wz u := hS
                refine ⟨?_⟩
                simp only [putAll, Act.put, List.setIfInBounds_toArray, List.set_cons_succ, List.set_cons_zero, Nat.zero_add, Nat.reduceAdd, show SfW 12 = [] from rfl, List.contains_nil, Bool.false_eq_true, if_false] at hK ⊢
                go_simp
                (try go_wp2_with fail)
                exact hK _ _ hA (fun _ _ h => h) rfl
              refine EachSteps.cons (fun f u hS hF K hK => ?_) ?_
              · have hA : Below wz.heap.size wz u := hS
                have e11 : f 11 = .slice none 0 0 := hF 11 (by decide)
                have e12 : f 12 = .int .i64 (0 : Int) := hF 12 (by decide)
                refine ⟨?_⟩
                simp only [putAll, Act.put, List.setIfInBounds_toArray, List.set_cons_succ, List.set_cons_zero, Nat.zero_add, Nat.reduceAdd, show SfW 13 = [] from rfl, List.contains_nil, Bool.false_eq_true, if_false, e11, e12] at hK ⊢
                go_simp
                (try go_wp2_with fail)
                exact hK _ _ hA (fun _ _ h => h) ⟨_, _, by rw [show 0 - 0 = 0 by omega], .inl (by omega)⟩
              refine EachSteps.cons (fun f u hS hF K hK => ?_) ?_
              · have hA : Below wz.heap.size wz u := hS
                have h10 : u.ownsRow wz.heap.size 9 1 (f 10) (0 + 1) ((os.take 0 ++ [s]).map tx) := hF 10 (by decide)
                have h13 : ∃ a c, f 13 = .slice a (0 - 0) c ∧ (0 - 0 = 0 ∨ a = some ⟨0, 0 + 0, none⟩) := hF 13 (by decide)
                obtain ⟨a13, c13, e13, h13⟩ := h13
                refine ⟨?_⟩
                simp only [putAll, Act.put, List.setIfInBounds_toArray, List.set_cons_succ, List.set_cons_zero, Nat.zero_add, Nat.reduceAdd, show SfW 14 = [] from rfl, List.contains_nil, Bool.false_eq_true, if_false, e13] at hK ⊢
                refine Eq.mpr (if_pos (by rfl)) ?_
                refine wp_append_strs (by rfl) (.tmp 54) (.tmp 57) (by rfl) wz.heap.size (f 10) (0 + 1) _ (by rfl) h10 a13 (0 - 0) c13 (os.drop 0) (by rfl) (by rw [List.length_drop, HM.out]) (fun j s' hj => by
                    have hjk : j < 0 - 0 := by have := (List.getElem?_eq_some_iff.1 hj).1; simp at this; have := HM.out; omega
                    omega) (by omega) hA.size ?_
                intro v6 w6 ho hgr
                have hA6 : Below wz.heap.size wz w6 := hA.trans (below_grown hgr hA.size (fun b hb => (owns_own h10 hb).1))
                simp only [Act.put, List.setIfInBounds_toArray, List.set_cons_succ, List.set_cons_zero]
                exact hK _ _ hA6 (fun j hj _ => by simp [SfL] at hj) (show w6.ownsRow wz.heap.size 9 1 v6 (0 + 1) ((os.take 0 ++ s :: os.drop 0).map tx) from by rw [show 0 + 1 = 0 + 1 + (0 - 0) by omega]; simpa using ho)
              refine EachSteps.cons (fun f u hS hF K hK => ?_) ?_
              · have hA : Below wz.heap.size wz u := hS
                have h14 : u.ownsRow wz.heap.size 9 1 (f 14) (0 + 1) ((os.take 0 ++ s :: os.drop 0).map tx) := hF 14 (by decide)
                refine ⟨?_⟩
                simp only [putAll, Act.put, List.setIfInBounds_toArray, List.set_cons_succ, List.set_cons_zero, Nat.zero_add, Nat.reduceAdd, show SfW 15 = [] from rfl, List.contains_nil, Bool.false_eq_true, if_false] at hK ⊢
                go_simp
                (try go_wp2_with fail)
                exact hK _ _ hA (fun _ _ h => h) h14
              exact EachSteps.nil
          · by_cases hko : k < oc
            · have hk2 : k < oc := hko
              refine wp_region_each (SA := fun u => Below wz.heap.size wz u) (SB := fun u => Below wz.heap.size wz u) (c := 14) (isB := fun j => j == 15) (Φ := SfF wz.heap.size n m k i (some ⟨lb, loff, none⟩) (some ⟨ob, 0, none⟩) cap oc lb loff ob 0 s os) (D := SfD) (W := SfW) (fin := [15]) (live := SfL) (by kernel_rfl) (by kernel_rfl) (by kernel_rfl) (by kernel_rfl) (by kernel_rfl) (by decide) (by decide) (fun _ _ _ _ hd h => ⟨hd.symm.trans h.1, h.2⟩) (bel_drewN (Below.refl _ _) 1) ?_ ?_
              · intro f u hB hF
                have h15 : u.ownsRow wz.heap.size 9 1 (f 15) (m + 1) ((os.take k ++ s :: os.drop k).map tx) := hF 15 (by decide)
                obtain ⟨gn, cn, en, hgn1, hgn2, hgn3, hgn4⟩ := owns_shape h15 (by omega)
                rw [en] at h15
                have HI := HIN.out
                simp only [putAll, Act.put, List.setIfInBounds_toArray, List.set_cons_succ, List.set_cons_zero, Nat.zero_add, Nat.reduceAdd, List.contains_nil, Bool.false_eq_true, if_false, en]
                go_wp2_with fail
                go_roundw
                case measure => simp [intOf]; omega
                case rel => exact ⟨i + 1, some ⟨gn, 0, none⟩, m + 1, cn, os.take k ++ s :: os.drop k, by omega, by simp, rfl, owns_base h15 (fun g hg => by have := (owns_own h15 hg).1; have := BZ.out.size; omega), HI, by omega, BZ.out.trans (hB.mono BZ.out.size)⟩
              · refine EachSteps.cons (fun f u hS hF K hK => ?_) ?_
                · have hA : Below wz.heap.size wz u := hS
                  refine ⟨?_⟩
                  simp only [putAll, Act.put, List.setIfInBounds_toArray, List.set_cons_succ, List.set_cons_zero, Nat.zero_add, Nat.reduceAdd, show SfW 0 = [] from rfl, List.contains_nil, Bool.false_eq_true, if_false] at hK ⊢
                  go_simp
                  (try go_wp2_with fail)
                  exact hK _ _ (hA.alloc hA.size _) (fun j _ h => SfF.on _ _ _ _ _ _ _ _ _ _ _ _ _ _ _ j _ u _ ((Below.refl _ _).alloc (Nat.le_refl _) _) h) ⟨_, rfl, hA.size, heap_alloc_new u _⟩
                refine EachSteps.cons (fun f u hS hF K hK => ?_) ?_
                · have hA : Below wz.heap.size wz u := hS
                  refine ⟨?_⟩
                  simp only [putAll, Act.put, List.setIfInBounds_toArray, List.set_cons_succ, List.set_cons_zero, Nat.zero_add, Nat.reduceAdd, show SfW 1 = [15] from rfl, List.contains_nil, List.contains_cons, Nat.reduceBEq, Bool.or_false, Bool.false_eq_true, if_true, if_false] at hK ⊢
                  go_simp
                  (try go_wp2_with fail)
                  exact hK _ _ hA (fun _ _ h => h) rfl
                refine EachSteps.cons (fun f u hS hF K hK => ?_) ?_
                · have hA : Below wz.heap.size wz u := hS
                  refine ⟨?_⟩
                  simp only [putAll, Act.put, List.setIfInBounds_toArray, List.set_cons_succ, List.set_cons_zero, Nat.zero_add, Nat.reduceAdd, show SfW 2 = [] from rfl, List.contains_nil, Bool.false_eq_true, if_false] at hK ⊢
                  go_simp
                  (try go_wp2_with fail)
                  exact hK _ _ hA (fun _ _ h => h) rfl
                refine EachSteps.cons (fun f u hS hF K hK => ?_) ?_
                · have hA : Below wz.heap.size wz u := hS
                  have e1 : f 1 = .slice (some ⟨ob, 0, none⟩) m oc := hF 1 (by decide)
                  have e2 : f 2 = .int .i64 (k : Int) := hF 2 (by decide)
                  refine ⟨?_⟩
                  simp only [putAll, Act.put, List.setIfInBounds_toArray, List.set_cons_succ, List.set_cons_zero, Nat.zero_add, Nat.reduceAdd, show SfW 3 = [] from rfl, List.contains_nil, Bool.false_eq_true, if_false, e1, e2] at hK ⊢
                  go_simp
                  (try go_wp2_with fail)
                  exact hK _ _ hA (fun _ _ h => h) rfl
                refine EachSteps.cons (fun f u hS hF K hK => ?_) ?_
                · have hA : Below wz.heap.size wz u := hS
                  have h0 : ∃ g, f 0 = .slice (some ⟨g, 0, none⟩) 0 0 ∧ wz.heap.size ≤ g ∧ u.heap[g]? = some (.cells #[] 9 (0, 0)) := hF 0 (by decide)
                  obtain ⟨g, e0, hgR, hg⟩ := h0
                  have e3 : f 3 = .slice (some ⟨ob, 0, none⟩) k oc := hF 3 (by decide)
                  have Ru := HO.out.on hA
                  refine ⟨?_⟩
                  simp only [putAll, Act.put, List.setIfInBounds_toArray, List.set_cons_succ, List.set_cons_zero, Nat.zero_add, Nat.reduceAdd, show SfW 4 = [] from rfl, List.contains_nil, Bool.false_eq_true, if_false, e0, e3] at hK ⊢
                  refine Eq.mpr (if_pos (by rfl)) ?_
                  refine wp_append_strs (by rfl) (.tmp 44) (.tmp 47) (by rfl) wz.heap.size (.slice (some ⟨g, 0, none⟩) 0 0) 0 [] (by rfl) ⟨by simp, .inr ⟨g, 0, #[], rfl, hgR, hg, Nat.le_refl _, by decide, by simp, by simp⟩⟩ (some ⟨ob, 0, none⟩) k oc (os.take k) (by rfl) (by rw [List.length_take, HM.out]; omega) (fun j s' hj => by
                      have hjk : j < k := by have := (List.getElem?_eq_some_iff.1 hj).1; simp at this; omega
                      rw [List.getElem?_take_of_lt hjk] at hj
                      obtain ⟨b, off, e, _, hc⟩ := Ru.cells j s' hj
                      exact ⟨b, off, e, hc⟩) (by omega) hA.size ?_
                  intro v6 w6 ho hgr
                  have hA6 : Below wz.heap.size wz w6 := hA.trans (below_grown hgr hA.size (fun b hb => by cases hb; exact hgR))
                  simp only [Act.put, List.setIfInBounds_toArray, List.set_cons_succ, List.set_cons_zero]
                  exact hK _ _ hA6 (fun j hj h => SfF.at4 _ _ _ _ _ _ _ _ _ _ _ _ _ _ _ j hj _ u _ hg hgr h) (show w6.ownsRow wz.heap.size 9 1 v6 k ((os.take k).map tx) from by simpa using ho)
                refine EachSteps.cons (fun f u hS hF K hK => ?_) ?_
                · have hA : Below wz.heap.size wz u := hS
                  refine ⟨?_⟩
                  simp only [putAll, Act.put, List.setIfInBounds_toArray, List.set_cons_succ, List.set_cons_zero, Nat.zero_add, Nat.reduceAdd, show SfW 5 = [] from rfl, List.contains_nil, Bool.false_eq_true, if_false] at hK ⊢
                  go_simp
                  (try go_wp2_with fail)
                  exact hK _ _ hA (fun _ _ h => h) rfl
                refine EachSteps.cons (fun f u hS hF K hK => ?_) ?_
                · have hA : Below wz.heap.size wz u := hS
                  refine ⟨?_⟩
                  simp only [putAll, Act.put, List.setIfInBounds_toArray, List.set_cons_succ, List.set_cons_zero, Nat.zero_add, Nat.reduceAdd, show SfW 6 = [] from rfl, List.contains_nil, Bool.false_eq_true, if_false] at hK ⊢
                  go_simp
                  (try go_wp2_with fail)
                  exact hK _ _ hA (fun _ _ h => h) rfl
                refine EachSteps.cons (fun f u hS hF K hK => ?_) ?_
                · have hA : Below wz.heap.size wz u := hS
                  have e5 : f 5 = .slice (some ⟨lb, loff, none⟩) n cap := hF 5 (by decide)
                  have e6 : f 6 = .int .i64 (i : Int) := hF 6 (by decide)
                  refine ⟨?_⟩
                  simp only [putAll, Act.put, List.setIfInBounds_toArray, List.set_cons_succ, List.set_cons_zero, Nat.zero_add, Nat.reduceAdd, show SfW 7 = [] from rfl, List.contains_nil, Bool.false_eq_true, if_false, e5, e6] at hK ⊢
                  go_simp
                  (try go_wp2_with fail)
                  exact hK _ _ hA (fun _ _ h => h) rfl
                refine EachSteps.cons (fun f u hS hF K hK => ?_) ?_
                · have hA : Below wz.heap.size wz u := hS
                  have e7 : f 7 = .pointer (some ⟨lb, loff + i, none⟩) := hF 7 (by decide)
                  have hc := ((bcell hA).1 lb (loff + i) hlb).trans hlc
                  refine ⟨?_⟩
                  simp only [putAll, Act.put, List.setIfInBounds_toArray, List.set_cons_succ, List.set_cons_zero, Nat.zero_add, Nat.reduceAdd, show SfW 8 = [] from rfl, List.contains_nil, Bool.false_eq_true, if_false, e7] at hK ⊢
                  go_simp
                  (try go_wp2_with fail)
                  exact hK _ _ hA (fun _ _ h => h) rfl
                refine EachSteps.cons (fun f u hS hF K hK => ?_) ?_
                · have hA : Below wz.heap.size wz u := hS
                  have e8 : f 8 = .string ⟨s.toArray⟩ := hF 8 (by decide)
                  refine ⟨?_⟩
                  simp only [putAll, Act.put, List.setIfInBounds_toArray, List.set_cons_succ, List.set_cons_zero, Nat.zero_add, Nat.reduceAdd, show SfW 9 = [] from rfl, List.contains_nil, Bool.false_eq_true, if_false, e8] at hK ⊢
                  go_simp
                  (try go_wp2_with fail)
                  exact hK _ _ (hA.alloc hA.size _) (fun j _ h => SfF.on _ _ _ _ _ _ _ _ _ _ _ _ _ _ _ j _ u _ ((Below.refl _ _).alloc (Nat.le_refl _) _) h) ⟨_, rfl, Blk.new _ _ _⟩
                refine EachSteps.cons (fun f u hS hF K hK => ?_) ?_
                · have hA : Below wz.heap.size wz u := hS
                  have h4 : u.ownsRow wz.heap.size 9 1 (f 4) k ((os.take k).map tx) := hF 4 (by decide)
                  have h9 : ∃ g, f 9 = .slice (some ⟨g, 0, none⟩) 1 1 ∧ Blk u g 9 [.string ⟨s.toArray⟩] := hF 9 (by decide)
                  obtain ⟨g, e9, h9⟩ := h9
                  refine ⟨?_⟩
                  simp only [putAll, Act.put, List.setIfInBounds_toArray, List.set_cons_succ, List.set_cons_zero, Nat.zero_add, Nat.reduceAdd, show SfW 10 = [] from rfl, List.contains_nil, Bool.false_eq_true, if_false, e9] at hK ⊢
                  refine Eq.mpr (if_pos (by rfl)) ?_
                  refine wp_append_strs (by rfl) (.tmp 48) (.tmp 53) (by rfl) wz.heap.size (f 4) k _ (by rfl) h4 (some ⟨g, 0, none⟩) 1 1 [s] (by rfl) rfl (fun j s' hj => by
                      match j, hj with
                      | 0, hj => simp at hj; subst hj; exact ⟨g, 0, rfl, h9.cell rfl⟩) (by omega) hA.size ?_
                  intro v6 w6 ho hgr
                  have hA6 : Below wz.heap.size wz w6 := hA.trans (below_grown hgr hA.size (fun b hb => (owns_own h4 hb).1))
                  simp only [Act.put, List.setIfInBounds_toArray, List.set_cons_succ, List.set_cons_zero]
                  exact hK _ _ hA6 (fun j hj h => SfF.at10 _ _ _ _ _ _ _ _ _ _ _ _ _ _ _ j hj _ u _ h) (show w6.ownsRow wz.heap.size 9 1 v6 (k + 1) ((os.take k ++ [s]).map tx) from by simpa using ho)
                refine EachSteps.cons (fun f u hS hF K hK => ?_) ?_
                · have hA : Below wz.heap.size wz u := hS
                  refine ⟨?_⟩
                  simp only [putAll, Act.put, List.setIfInBounds_toArray, List.set_cons_succ, List.set_cons_zero, Nat.zero_add, Nat.reduceAdd, show SfW 11 = [15] from rfl, List.contains_nil, List.contains_cons, Nat.reduceBEq, Bool.or_false, Bool.false_eq_true, if_true, if_false] at hK ⊢
                  go_simp
                  (try go_wp2_with fail)
                  exact hK _ _ hA (fun _ _ h => h) rfl
                refine EachSteps.cons (fun f u hS hF K hK => ?_) ?_
                · have hA : Below wz.heap.size wz u := hS
                  refine ⟨?_⟩
                  simp only [putAll, Act.put, List.setIfInBounds_toArray, List.set_cons_succ, List.set_cons_zero, Nat.zero_add, Nat.reduceAdd, show SfW 12 = [] from rfl, List.contains_nil, Bool.false_eq_true, if_false] at hK ⊢
                  go_simp
                  (try go_wp2_with fail)
                  exact hK _ _ hA (fun _ _ h => h) rfl
                refine EachSteps.cons (fun f u hS hF K hK => ?_) ?_
                · have hA : Below wz.heap.size wz u := hS
                  have e11 : f 11 = .slice (some ⟨ob, 0, none⟩) m oc := hF 11 (by decide)
                  have e12 : f 12 = .int .i64 (k : Int) := hF 12 (by decide)
                  refine ⟨?_⟩
                  simp only [putAll, Act.put, List.setIfInBounds_toArray, List.set_cons_succ, List.set_cons_zero, Nat.zero_add, Nat.reduceAdd, show SfW 13 = [] from rfl, List.contains_nil, Bool.false_eq_true, if_false, e11, e12] at hK ⊢
                  go_simp
                  (try go_wp2_with fail)
                  exact hK _ _ hA (fun _ _ h => h) ⟨_, _, rfl, .inr (by simp)⟩
                refine EachSteps.cons (fun f u hS hF K hK => ?_) ?_
                · have hA : Below wz.heap.size wz u := hS
                  have h10 : u.ownsRow wz.heap.size 9 1 (f 10) (k + 1) ((os.take k ++ [s]).map tx) := hF 10 (by decide)
                  have h13 : ∃ a c, f 13 = .slice a (m - k) c ∧ (m - k = 0 ∨ a = some ⟨ob, 0 + k, none⟩) := hF 13 (by decide)
                  obtain ⟨a13, c13, e13, h13⟩ := h13
                  have Ru := HO.out.on hA
                  refine ⟨?_⟩
                  simp only [putAll, Act.put, List.setIfInBounds_toArray, List.set_cons_succ, List.set_cons_zero, Nat.zero_add, Nat.reduceAdd, show SfW 14 = [] from rfl, List.contains_nil, Bool.false_eq_true, if_false, e13] at hK ⊢
                  refine Eq.mpr (if_pos (by rfl)) ?_
                  refine wp_append_strs (by rfl) (.tmp 54) (.tmp 57) (by rfl) wz.heap.size (f 10) (k + 1) _ (by rfl) h10 a13 (m - k) c13 (os.drop k) (by rfl) (by rw [List.length_drop, HM.out]) (fun j s' hj => by
                      have hjk : j < m - k := by have := (List.getElem?_eq_some_iff.1 hj).1; simp at this; have := HM.out; omega
                      rw [List.getElem?_drop] at hj
                      rcases h13 with h | h
                      · omega
                      · obtain ⟨b, off, e, _, hc⟩ := Ru.cells (k + j) s' hj
                        simp only [Option.some.injEq, Addr.mk.injEq] at e
                        obtain ⟨rfl, rfl, _⟩ := e
                        exact ⟨ob, 0 + k, h, by rw [Nat.add_assoc]; exact hc⟩) (by omega) hA.size ?_
                  intro v6 w6 ho hgr
                  have hA6 : Below wz.heap.size wz w6 := hA.trans (below_grown hgr hA.size (fun b hb => (owns_own h10 hb).1))
                  simp only [Act.put, List.setIfInBounds_toArray, List.set_cons_succ, List.set_cons_zero]
                  exact hK _ _ hA6 (fun j hj _ => by simp [SfL] at hj) (show w6.ownsRow wz.heap.size 9 1 v6 (m + 1) ((os.take k ++ s :: os.drop k).map tx) from by rw [show m + 1 = k + 1 + (m - k) by omega]; simpa using ho)
                refine EachSteps.cons (fun f u hS hF K hK => ?_) ?_
                · have hA : Below wz.heap.size wz u := hS
                  have h14 : u.ownsRow wz.heap.size 9 1 (f 14) (m + 1) ((os.take k ++ s :: os.drop k).map tx) := hF 14 (by decide)
                  refine ⟨?_⟩
                  simp only [putAll, Act.put, List.setIfInBounds_toArray, List.set_cons_succ, List.set_cons_zero, Nat.zero_add, Nat.reduceAdd, show SfW 15 = [] from rfl, List.contains_nil, Bool.false_eq_true, if_false] at hK ⊢
                  go_simp
                  (try go_wp2_with fail)
                  exact hK _ _ hA (fun _ _ h => h) h14
                exact EachSteps.nil
            · have hk3 : k = oc := by omega
              subst hk3
              refine wp_region_each (SA := fun u => Below wz.heap.size wz u) (SB := fun u => Below wz.heap.size wz u) (c := 14) (isB := fun j => j == 15) (Φ := SfF wz.heap.size n m k i (some ⟨lb, loff, none⟩) (some ⟨ob, 0, none⟩) cap k lb loff ob 0 s os) (D := SfD) (W := SfW) (fin := [15]) (live := SfL) (by kernel_rfl) (by kernel_rfl) (by kernel_rfl) (by kernel_rfl) (by kernel_rfl) (by decide) (by decide) (fun _ _ _ _ hd h => ⟨hd.symm.trans h.1, h.2⟩) (bel_drewN (Below.refl _ _) 1) ?_ ?_
              · intro f u hB hF
                have h15 : u.ownsRow wz.heap.size 9 1 (f 15) (m + 1) ((os.take k ++ s :: os.drop k).map tx) := hF 15 (by decide)
                obtain ⟨gn, cn, en, hgn1, hgn2, hgn3, hgn4⟩ := owns_shape h15 (by omega)
                rw [en] at h15
                have HI := HIN.out
                simp only [putAll, Act.put, List.setIfInBounds_toArray, List.set_cons_succ, List.set_cons_zero, Nat.zero_add, Nat.reduceAdd, List.contains_nil, Bool.false_eq_true, if_false, en]
                go_wp2_with fail
                go_roundw
                case measure => simp [intOf]; omega
                case rel => exact ⟨i + 1, some ⟨gn, 0, none⟩, m + 1, cn, os.take k ++ s :: os.drop k, by omega, by simp, rfl, owns_base h15 (fun g hg => by have := (owns_own h15 hg).1; have := BZ.out.size; omega), HI, by omega, BZ.out.trans (hB.mono BZ.out.size)⟩
              · refine EachSteps.cons (fun f u hS hF K hK => ?_) ?_
                · have hA : Below wz.heap.size wz u := hS
                  refine ⟨?_⟩
                  simp only [putAll, Act.put, List.setIfInBounds_toArray, List.set_cons_succ, List.set_cons_zero, Nat.zero_add, Nat.reduceAdd, show SfW 0 = [] from rfl, List.contains_nil, Bool.false_eq_true, if_false] at hK ⊢
                  go_simp
                  (try go_wp2_with fail)
                  exact hK _ _ (hA.alloc hA.size _) (fun j _ h => SfF.on _ _ _ _ _ _ _ _ _ _ _ _ _ _ _ j _ u _ ((Below.refl _ _).alloc (Nat.le_refl _) _) h) ⟨_, rfl, hA.size, heap_alloc_new u _⟩
                refine EachSteps.cons (fun f u hS hF K hK => ?_) ?_
                · have hA : Below wz.heap.size wz u := hS
                  refine ⟨?_⟩
                  simp only [putAll, Act.put, List.setIfInBounds_toArray, List.set_cons_succ, List.set_cons_zero, Nat.zero_add, Nat.reduceAdd, show SfW 1 = [15] from rfl, List.contains_nil, List.contains_cons, Nat.reduceBEq, Bool.or_false, Bool.false_eq_true, if_true, if_false] at hK ⊢
                  go_simp
                  (try go_wp2_with fail)
                  exact hK _ _ hA (fun _ _ h => h) rfl
                refine EachSteps.cons (fun f u hS hF K hK => ?_) ?_
                · have hA : Below wz.heap.size wz u := hS
                  refine ⟨?_⟩
                  simp only [putAll, Act.put, List.setIfInBounds_toArray, List.set_cons_succ, List.set_cons_zero, Nat.zero_add, Nat.reduceAdd, show SfW 2 = [] from rfl, List.contains_nil, Bool.false_eq_true, if_false] at hK ⊢
                  go_simp
                  (try go_wp2_with fail)
                  exact hK _ _ hA (fun _ _ h => h) rfl
                refine EachSteps.cons (fun f u hS hF K hK => ?_) ?_
                · have hA : Below wz.heap.size wz u := hS
                  have e1 : f 1 = .slice (some ⟨ob, 0, none⟩) m k := hF 1 (by decide)
                  have e2 : f 2 = .int .i64 (k : Int) := hF 2 (by decide)
                  refine ⟨?_⟩
                  simp only [putAll, Act.put, List.setIfInBounds_toArray, List.set_cons_succ, List.set_cons_zero, Nat.zero_add, Nat.reduceAdd, show SfW 3 = [] from rfl, List.contains_nil, Bool.false_eq_true, if_false, e1, e2] at hK ⊢
                  go_simp
                  (try go_wp2_with fail)
                  exact hK _ _ hA (fun _ _ h => h) rfl
                refine EachSteps.cons (fun f u hS hF K hK => ?_) ?_
                · have hA : Below wz.heap.size wz u := hS
                  have h0 : ∃ g, f 0 = .slice (some ⟨g, 0, none⟩) 0 0 ∧ wz.heap.size ≤ g ∧ u.heap[g]? = some (.cells #[] 9 (0, 0)) := hF 0 (by decide)
                  obtain ⟨g, e0, hgR, hg⟩ := h0
                  have e3 : f 3 = .slice (some ⟨ob, 0, none⟩) k k := hF 3 (by decide)
                  have Ru := HO.out.on hA
                  refine ⟨?_⟩
                  simp only [putAll, Act.put, List.setIfInBounds_toArray, List.set_cons_succ, List.set_cons_zero, Nat.zero_add, Nat.reduceAdd, show SfW 4 = [] from rfl, List.contains_nil, Bool.false_eq_true, if_false, e0, e3] at hK ⊢
                  refine Eq.mpr (if_pos (by rfl)) ?_
                  refine wp_append_strs (by rfl) (.tmp 44) (.tmp 47) (by rfl) wz.heap.size (.slice (some ⟨g, 0, none⟩) 0 0) 0 [] (by rfl) ⟨by simp, .inr ⟨g, 0, #[], rfl, hgR, hg, Nat.le_refl _, by decide, by simp, by simp⟩⟩ (some ⟨ob, 0, none⟩) k k (os.take k) (by rfl) (by rw [List.length_take, HM.out]; omega) (fun j s' hj => by
                      have hjk : j < k := by have := (List.getElem?_eq_some_iff.1 hj).1; simp at this; omega
                      rw [List.getElem?_take_of_lt hjk] at hj
                      obtain ⟨b, off, e, _, hc⟩ := Ru.cells j s' hj
                      exact ⟨b, off, e, hc⟩) (by omega) hA.size ?_
                  intro v6 w6 ho hgr
                  have hA6 : Below wz.heap.size wz w6 := hA.trans (below_grown hgr hA.size (fun b hb => by cases hb; exact hgR))
                  simp only [Act.put, List.setIfInBounds_toArray, List.set_cons_succ, List.set_cons_zero]
                  exact hK _ _ hA6 (fun j hj h => SfF.at4 _ _ _ _ _ _ _ _ _ _ _ _ _ _ _ j hj _ u _ hg hgr h) (show w6.ownsRow wz.heap.size 9 1 v6 k ((os.take k).map tx) from by simpa using ho)
                refine EachSteps.cons (fun f u hS hF K hK => ?_) ?_
                · have hA : Below wz.heap.size wz u := hS
                  refine ⟨?_⟩
                  simp only [putAll, Act.put, List.setIfInBounds_toArray, List.set_cons_succ, List.set_cons_zero, Nat.zero_add, Nat.reduceAdd, show SfW 5 = [] from rfl, List.contains_nil, Bool.false_eq_true, if_false] at hK ⊢
                  go_simp
                  (try go_wp2_with fail)
                  exact hK _ _ hA (fun _ _ h => h) rfl
                refine EachSteps.cons (fun f u hS hF K hK => ?_) ?_
                · have hA : Below wz.heap.size wz u := hS
                  refine ⟨?_⟩
                  simp only [putAll, Act.put, List.setIfInBounds_toArray, List.set_cons_succ, List.set_cons_zero, Nat.zero_add, Nat.reduceAdd, show SfW 6 = [] from rfl, List.contains_nil, Bool.false_eq_true, if_false] at hK ⊢
                  go_simp
                  (try go_wp2_with fail)
                  exact hK _ _ hA (fun _ _ h => h) rfl
                refine EachSteps.cons (fun f u hS hF K hK => ?_) ?_
                · have hA : Below wz.heap.size wz u := hS
                  have e5 : f 5 = .slice (some ⟨lb, loff, none⟩) n cap := hF 5 (by decide)
                  have e6 : f 6 = .int .i64 (i : Int) := hF 6 (by decide)
                  refine ⟨?_⟩
                  simp only [putAll, Act.put, List.setIfInBounds_toArray, List.set_cons_succ, List.set_cons_zero, Nat.zero_add, Nat.reduceAdd, show SfW 7 = [] from rfl, List.contains_nil, Bool.false_eq_true, if_false, e5, e6] at hK ⊢
                  go_simp
                  (try go_wp2_with fail)
                  exact hK _ _ hA (fun _ _ h => h) rfl
                refine EachSteps.cons (fun f u hS hF K hK => ?_) ?_
                · have hA : Below wz.heap.size wz u := hS
                  have e7 : f 7 = .pointer (some ⟨lb, loff + i, none⟩) := hF 7 (by decide)
                  have hc := ((bcell hA).1 lb (loff + i) hlb).trans hlc
                  refine ⟨?_⟩
                  simp only [putAll, Act.put, List.setIfInBounds_toArray, List.set_cons_succ, List.set_cons_zero, Nat.zero_add, Nat.reduceAdd, show SfW 8 = [] from rfl, List.contains_nil, Bool.false_eq_true, if_false, e7] at hK ⊢
                  go_simp
                  (try go_wp2_with fail)
                  exact hK _ _ hA (fun _ _ h => h) rfl
                refine EachSteps.cons (fun f u hS hF K hK => ?_) ?_
                · have hA : Below wz.heap.size wz u := hS
                  have e8 : f 8 = .string ⟨s.toArray⟩ := hF 8 (by decide)
                  refine ⟨?_⟩
                  simp only [putAll, Act.put, List.setIfInBounds_toArray, List.set_cons_succ, List.set_cons_zero, Nat.zero_add, Nat.reduceAdd, show SfW 9 = [] from rfl, List.contains_nil, Bool.false_eq_true, if_false, e8] at hK ⊢
                  go_simp
                  (try go_wp2_with fail)
                  exact hK _ _ (hA.alloc hA.size _) (fun j _ h => SfF.on _ _ _ _ _ _ _ _ _ _ _ _ _ _ _ j _ u _ ((Below.refl _ _).alloc (Nat.le_refl _) _) h) ⟨_, rfl, Blk.new _ _ _⟩
                refine EachSteps.cons (fun f u hS hF K hK => ?_) ?_
                · have hA : Below wz.heap.size wz u := hS
                  have h4 : u.ownsRow wz.heap.size 9 1 (f 4) k ((os.take k).map tx) := hF 4 (by decide)
                  have h9 : ∃ g, f 9 = .slice (some ⟨g, 0, none⟩) 1 1 ∧ Blk u g 9 [.string ⟨s.toArray⟩] := hF 9 (by decide)
                  obtain ⟨g, e9, h9⟩ := h9
                  refine ⟨?_⟩
                  simp only [putAll, Act.put, List.setIfInBounds_toArray, List.set_cons_succ, List.set_cons_zero, Nat.zero_add, Nat.reduceAdd, show SfW 10 = [] from rfl, List.contains_nil, Bool.false_eq_true, if_false, e9] at hK ⊢
                  refine Eq.mpr (if_pos (by rfl)) ?_
                  refine wp_append_strs (by rfl) (.tmp 48) (.tmp 53) (by rfl) wz.heap.size (f 4) k _ (by rfl) h4 (some ⟨g, 0, none⟩) 1 1 [s] (by rfl) rfl (fun j s' hj => by
                      match j, hj with
                      | 0, hj => simp at hj; subst hj; exact ⟨g, 0, rfl, h9.cell rfl⟩) (by omega) hA.size ?_
                  intro v6 w6 ho hgr
                  have hA6 : Below wz.heap.size wz w6 := hA.trans (below_grown hgr hA.size (fun b hb => (owns_own h4 hb).1))
                  simp only [Act.put, List.setIfInBounds_toArray, List.set_cons_succ, List.set_cons_zero]
                  exact hK _ _ hA6 (fun j hj h => SfF.at10 _ _ _ _ _ _ _ _ _ _ _ _ _ _ _ j hj _ u _ h) (show w6.ownsRow wz.heap.size 9 1 v6 (k + 1) ((os.take k ++ [s]).map tx) from by simpa using ho)
                refine EachSteps.cons (fun f u hS hF K hK => ?_) ?_
                · have hA : Below wz.heap.size wz u := hS
                  refine ⟨?_⟩
                  simp only [putAll, Act.put, List.setIfInBounds_toArray, List.set_cons_succ, List.set_cons_zero, Nat.zero_add, Nat.reduceAdd, show SfW 11 = [15] from rfl, List.contains_nil, List.contains_cons, Nat.reduceBEq, Bool.or_false, Bool.false_eq_true, if_true, if_false] at hK ⊢
                  go_simp
                  (try go_wp2_with fail)
                  exact hK _ _ hA (fun _ _ h => h) rfl
                refine EachSteps.cons (fun f u hS hF K hK => ?_) ?_
                · have hA : Below wz.heap.size wz u := hS
                  refine ⟨?_⟩
                  simp only [putAll, Act.put, List.setIfInBounds_toArray, List.set_cons_succ, List.set_cons_zero, Nat.zero_add, Nat.reduceAdd, show SfW 12 = [] from rfl, List.contains_nil, Bool.false_eq_true, if_false] at hK ⊢
                  go_simp
                  (try go_wp2_with fail)
                  exact hK _ _ hA (fun _ _ h => h) rfl
                refine EachSteps.cons (fun f u hS hF K hK => ?_) ?_
                · have hA : Below wz.heap.size wz u := hS
                  have e11 : f 11 = .slice (some ⟨ob, 0, none⟩) m k := hF 11 (by decide)
                  have e12 : f 12 = .int .i64 (k : Int) := hF 12 (by decide)
                  refine ⟨?_⟩
                  simp only [putAll, Act.put, List.setIfInBounds_toArray, List.set_cons_succ, List.set_cons_zero, Nat.zero_add, Nat.reduceAdd, show SfW 13 = [] from rfl, List.contains_nil, Bool.false_eq_true, if_false, e11, e12] at hK ⊢
                  go_simp
                  (try go_wp2_with fail)
                  exact hK _ _ hA (fun _ _ h => h) ⟨_, _, by rw [show m - k = 0 by omega], .inl (by omega)⟩
                refine EachSteps.cons (fun f u hS hF K hK => ?_) ?_
                · have hA : Below wz.heap.size wz u := hS
                  have h10 : u.ownsRow wz.heap.size 9 1 (f 10) (k + 1) ((os.take k ++ [s]).map tx) := hF 10 (by decide)
                  have h13 : ∃ a c, f 13 = .slice a (m - k) c ∧ (m - k = 0 ∨ a = some ⟨ob, 0 + k, none⟩) := hF 13 (by decide)
                  obtain ⟨a13, c13, e13, h13⟩ := h13
                  refine ⟨?_⟩
                  simp only [putAll, Act.put, List.setIfInBounds_toArray, List.set_cons_succ, List.set_cons_zero, Nat.zero_add, Nat.reduceAdd, show SfW 14 = [] from rfl, List.contains_nil, Bool.false_eq_true, if_false, e13] at hK ⊢
                  refine Eq.mpr (if_pos (by rfl)) ?_
                  refine wp_append_strs (by rfl) (.tmp 54) (.tmp 57) (by rfl) wz.heap.size (f 10) (k + 1) _ (by rfl) h10 a13 (m - k) c13 (os.drop k) (by rfl) (by rw [List.length_drop, HM.out]) (fun j s' hj => by
                      have hjk : j < m - k := by have := (List.getElem?_eq_some_iff.1 hj).1; simp at this; have := HM.out; omega
                      omega) (by omega) hA.size ?_
                  intro v6 w6 ho hgr
                  have hA6 : Below wz.heap.size wz w6 := hA.trans (below_grown hgr hA.size (fun b hb => (owns_own h10 hb).1))
                  simp only [Act.put, List.setIfInBounds_toArray, List.set_cons_succ, List.set_cons_zero]
                  exact hK _ _ hA6 (fun j hj _ => by simp [SfL] at hj) (show w6.ownsRow wz.heap.size 9 1 v6 (m + 1) ((os.take k ++ s :: os.drop k).map tx) from by rw [show m + 1 = k + 1 + (m - k) by omega]; simpa using ho)
                refine EachSteps.cons (fun f u hS hF K hK => ?_) ?_
                · have hA : Below wz.heap.size wz u := hS
                  have h14 : u.ownsRow wz.heap.size 9 1 (f 14) (m + 1) ((os.take k ++ s :: os.drop k).map tx) := hF 14 (by decide)
                  refine ⟨?_⟩
                  simp only [putAll, Act.put, List.setIfInBounds_toArray, List.set_cons_succ, List.set_cons_zero, Nat.zero_add, Nat.reduceAdd, show SfW 15 = [] from rfl, List.contains_nil, Bool.false_eq_true, if_false] at hK ⊢
                  go_simp
                  (try go_wp2_with fail)
                  exact hK _ _ hA (fun _ _ h => h) h14
                exact EachSteps.nil
    · have hie : i = n := by omega
      subst hie
      have hd : decide ((i : Int) < (i : Int)) = false := by simp
      have HE : Hid (srt ss = os) := srt_of_asc HA.out.1 (fun x => by rw [HA.out.2 x, List.take_of_length_le (by rw [HN.out]; exact Nat.le_refl _)])
      have HM : Hid (os.length = m) := RO.len
      have HO : Hid (SR wr oa m oc os) := RO
      clear RO
      go_wp2_with fail
      go_ret
      refine ⟨oa, oc, ?_, ?_, bel⟩
      · rw [HE.out, HM.out]; rfl
      · rw [HE.out, HM.out]; exact HO.out
end Go.Proofs.YtahfaeamjbcepaaGreatDoor
