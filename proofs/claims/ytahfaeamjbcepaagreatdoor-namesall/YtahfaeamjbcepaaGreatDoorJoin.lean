/- The walks of slices.SortFunc with a word's order, of slices.Compact, of names.Join and names.Sorted: all texts, rising, each once, in a new row. No condition but that the lists can be read and are not too great. -/
import Derived.Test.YtahfaeamjbcepaaGreatDoorEach
import Derived.Test.YtahfaeamjbcepaaGreatDoorCmp
import Derived.Test.YtahfaeamjbcepaaGreatDoorOrd
import Derived.Sort.OwnSorted
namespace Go.Proofs.YtahfaeamjbcepaaGreatDoor
open Go.RowKit Go.Sort

theorem cmpReads19 (blk off size : Nat) (w : World) : CmpReads Tryz.prog 19 #[] encStr Lib.compareBytes blk off size w := fun m os dk _ x y => by
  have h := order_any ⟨x.toArray⟩ ⟨y.toArray⟩ (sortWorld encStr w blk off m dk os)
  exact h.mono (by rintro e w' ⟨rfl, rfl⟩; exact ⟨rfl, 0, rfl⟩)

theorem enters19 : ∀ args w, (callFunc 19 args).run Tryz.prog w = .ok (.enter 19 args) w := fun args w => enter_of Tryz.func19 (by kernel_rfl) rfl args w

theorem holds_of_owns {w : World} {base g n cap : Nat} {ss : List (List UInt8)} (h : w.ownsRow base 36 1 (.slice (some ⟨g, 0, none⟩) n cap) n (ss.map tx)) : Holds encStr w g 0 ss.toArray := fun j hj => by
  have hj' : j < ss.length := by simpa using hj
  obtain ⟨g', h1, _, _, _, _, h2⟩ := owns_cell h (i := j) (c := tx ss[j]) (by simp [hj'])
  simp only [Option.some.injEq, Addr.mk.injEq] at h1
  obtain ⟨rfl, _⟩ := h1
  rw [Nat.zero_add]
  refine ⟨?_, owns_frozen h j⟩
  rw [h2, getElem!_pos ss.toArray j hj]
  simp [tx]

theorem sort18_some (g n cap : Nat) (ss : List (List UInt8)) (w : World) (hn : ss.length = n) (hH : Holds encStr w g 0 ss.toArray) (hg : g < w.heap.size) (hsz : n < 4611686018427387904) :
    Calls Tryz.prog 18 #[.slice (some ⟨g, 0, none⟩) n cap, .func (.func 19) #[] #[]] w fun e w' => e = .returned (.tuple #[]) ∧ Holds encStr w' g 0 (ss.mergeSort fun x y => !(ltOf Lib.compareBytes) y x).toArray ∧ w.grownBy w' (some g) := by
  have hd : ss.toArray.size = n := by simpa using hn
  have h := Any.slices_SortFunc_total sortL encStr (fun _ => rfl) Lib.compareBytes swo_cmp 19 #[] g 0 cap ss.toArray w enters19 (cmpReads19 g 0 _ w).lays hH hg (by rw [hd]; exact hsz) tot_cmp
  rw [hd] at h
  change Calls Tryz.prog 18 _ _ _ at h
  refine h.mono ?_
  rintro e w' ⟨rfl, q, os, rfl⟩
  refine ⟨rfl, ?_, grownBy_sorted _⟩
  exact holds_sortWorld encStr w g 0 q ss.toArray _ os hg hH (by simp [List.length_mergeSort])

theorem sort18_none (p : Option Addr) (cap : Nat) (w : World) : Calls Tryz.prog 18 #[.slice p 0 cap, .func (.func 19) #[] #[]] w fun e w' => e = .returned (.tuple #[]) ∧ w = w' := by
  have h := AnyF.slices_SortFunc_none (P := Tryz.prog) (ρ := sortL_ren) { sortL with } p cap (.func (.func 19) #[] #[]) w
  change Calls Tryz.prog 18 _ _ _ at h
  exact h.mono (by rintro e w' ⟨rfl, rfl⟩; exact ⟨rfl, rfl⟩)

theorem compact21_some (g n cap : Nat) (ss : List (List UInt8)) (w : World) (hn : ss.length = n) (hH : Holds encStr w g 0 ss.toArray) (hsz : n ≤ 9223372036854775807) (hcap : n ≤ cap) :
    Calls Tryz.prog 21 #[.slice (some ⟨g, 0, none⟩) n cap] w fun e w' => e = .returned (.slice (some ⟨g, 0, none⟩) (Lib.compact ss).length cap) ∧ (∀ j s, (Lib.compact ss)[j]? = some s → w'.cell? ⟨g, j, none⟩ = some (tx s)) ∧ w.grownBy w' (some g) := by
  subst hn
  have h := AnyG.slices_Compact_string compactL g 0 cap ss w hH hsz hcap
  change Calls Tryz.prog 21 _ _ _ at h
  refine h.mono ?_
  rintro e w' ⟨rfl, q, rfl⟩
  refine ⟨rfl, fun j s hj => ?_, ?_⟩
  · have hle : (Lib.compact ss).length ≤ ss.length := by
      unfold Lib.compact Lib.compactUpTo
      rw [List.length_map]
      exact Nat.le_trans (List.length_filter_le _ _) (by simp)
    have hjl := (List.getElem?_eq_some_iff.1 hj).1
    have hP := holds_putRow encStr (Sort.ahead w q) g 0 ss.toArray (Lib.compact ss ++ List.replicate (ss.length - (Lib.compact ss).length) []).toArray hH (by simp; omega) j (by simp; omega)
    rw [Nat.zero_add] at hP
    rw [hP.1, getElem!_pos _ j (by simp; omega)]
    simp only [List.getElem_toArray]
    rw [List.getElem_append_left hjl]
    obtain ⟨_, rfl⟩ := List.getElem?_eq_some_iff.1 hj
    rfl
  · have := grownBy_sorted (w := w) (g := g) (n := q) (os := #[]) (Lib.compact ss ++ List.replicate (ss.length - (Lib.compact ss).length) []).toArray
    rwa [grow_empty] at this

theorem compact21_none (p : Option Addr) (cap : Nat) (w : World) : Calls Tryz.prog 21 #[.slice p 0 cap] w fun e w' => e = .returned (.slice p 0 cap) ∧ w = w' := by
  have h := AnyG.slices_Compact_string_empty compactL p cap w
  change Calls Tryz.prog 21 _ _ _ at h
  exact h.mono (by rintro e w' ⟨rfl, rfl⟩; exact ⟨rfl, rfl⟩)

theorem srt_nil : srt [] = [] := List.length_eq_zero_iff.1 (Nat.le_zero.1 (srt_length []))

set_option maxRecDepth 100000 in
theorem join_any (a0 : Option Addr) (n0 c0 : Nat) (s0 : List (List UInt8)) (a1 : Option Addr) (n1 c1 : Nat) (s1 : List (List UInt8)) (w : World) (h0 : SR w a0 n0 c0 s0) (h1 : SR w a1 n1 c1 s1) (hn0 : n0 ≤ 100000) (hn1 : n1 ≤ 100000)
    (hb0 : ∀ s ∈ s0, s.length ≤ 281474976710656) (hb1 : ∀ s ∈ s1, s.length ≤ 281474976710656) :
    Calls Tryz.prog 8 #[.slice a0 n0 c0, .slice a1 n1 c1] w fun e w' => ∃ g, e = .returned (.slice (some ⟨g, 0, none⟩) (srt (s0 ++ s1)).length (srt (s0 ++ s1)).length) ∧ w.heap.size ≤ g ∧ Blk w' g 9 ((srt (s0 ++ s1)).map tx) ∧ Below w.heap.size w w' := by
  obtain ⟨w1, HW1, hb1', B1, hs1⟩ := new_one w [.slice a0 n0 c0, .slice a1 n1 c1] 22
  have hl0 := h0.len
  have hl1 := h1.len
  have hW := words_any w.heap.size 2 [⟨a0, n0, c0, s0⟩, ⟨a1, n1, c1, s1⟩] w1 rfl (by omega) (by omega) (fun i x hx => by
    match i, hx with
    | 0, hx => simp at hx; subst hx; exact ⟨B1.cell rfl, h0.on hb1'⟩
    | 1, hx => simp at hx; subst hx; exact ⟨B1.cell rfl, h1.on hb1'⟩) (fun i => by
    have : (cntL [⟨a0, n0, c0, s0⟩, ⟨a1, n1, c1, s1⟩] i).length ≤ s0.length + s1.length := by
      unfold cntL
      match i with
      | 0 => simp
      | 1 => simp
      | i + 2 => simp
    omega)
  have hcnt : cntL [⟨a0, n0, c0, s0⟩, ⟨a1, n1, c1, s1⟩] 2 = s0 ++ s1 := by simp [cntL]
  rw [hcnt] at hW
  have hall : ∀ s ∈ s0 ++ s1, s.length ≤ 281474976710656 := fun s hs => by
    rcases List.mem_append.1 hs with h | h
    · exact hb0 s h
    · exact hb1 s h
  have hlen : (s0 ++ s1).length ≤ 200000 := by simp; omega
  generalize s0 ++ s1 = ss at *
  obtain ⟨N, HN⟩ : ∃ N, Hid (ss.length = N) := ⟨_, rfl⟩
  rw [HN.out] at hW hlen
  have HB : Hid (∀ s ∈ srt ss, s.length ≤ 281474976710656) := fun s hs => hall s ((mem_srt ss s).1 hs)
  obtain ⟨M, HM⟩ : ∃ M, Hid ((srt ss).length = M) := ⟨_, rfl⟩
  have hMN : M ≤ N := by have := srt_length ss; rw [HN.out, HM.out] at this; exact this
  rw [HM.out]
  have HW : Hid (w.alloc (.cells #[.slice a0 n0 c0, .slice a1 n1 c1] 22) = w1) := HW1
  clear h0 h1 hb0 hb1 hcnt hall HW1 hl0 hl1
  by_cases h0 : N = 0
  · subst h0
    have hss : ss = [] := List.length_eq_zero_iff.1 HN.out
    subst hss
    have hM0 : M = 0 := by omega
    subst hM0
    rw [srt_nil]
    go_enter Tryz.func8, Tryz.ntmps8
    go_wp2_with (first
      | (go_at_call 17; rw [HW.out]; refine hW.mono ?_; rintro e w2 ⟨v, rfl, own, bel⟩; obtain ⟨p, cap, rfl⟩ : ∃ p cap, v = .slice p 0 cap := (by rcases own.2 with ⟨h, _⟩ | ⟨_, c, _, h, _⟩; (exact ⟨_, _, h⟩); (exact ⟨_, _, h⟩)); have R2 : SR w2 p 0 cap [] := owns_SR own)
      | (go_at_call 18; refine (sort18_none _ _ _).mono ?_; rintro e w3 ⟨rfl, rfl⟩)
      | (go_at_call 21; refine (compact21_none _ _ _).mono ?_; rintro e w3 ⟨rfl, rfl⟩)
      | (go_at_call 20; refine (each_any _ _ _ _ _ R2 (by omega) (by simp)).mono ?_; rintro e w3 ⟨rfl, B3, bel3⟩))
    go_ret
    have hz2 := bel.size
    exact ⟨_, rfl, by omega, B3, (hb1'.trans (bel.mono (by omega))).trans (bel3.mono (by omega))⟩
  · go_enter Tryz.func8, Tryz.ntmps8
    go_wp2_with (first
      | (go_at_call 17; rw [HW.out]; refine hW.mono ?_; rintro e w2 ⟨v, rfl, own, bel⟩; obtain ⟨g, cap, rfl, hg1, hg2, hcap, hcm⟩ := owns_shape own (by omega); have hz2 := bel.size; have hH2 := holds_of_owns own)
      | (go_at_call 18; refine (sort18_some g N cap ss w2 HN.out hH2 hg2 (by omega)).mono ?_; rintro e w3 ⟨rfl, hH3, gr3⟩; have hz3 := gr3.size)
      | (go_at_call 21; refine (compact21_some g N cap _ w3 (by rw [List.length_mergeSort]; exact HN.out) hH3 (by omega) hcap).mono ?_; rintro e w4 ⟨rfl, hc4, gr4⟩; have hz4 := gr4.size; have e4 : (Lib.compact (ss.mergeSort fun x y => !(ltOf Lib.compareBytes) y x)).length = M := HM.out; rw [e4]; have R4 : SR w4 (some ⟨g, 0, none⟩) M cap (srt ss) := ⟨HM.out, by omega, hcm, fun j s hj => ⟨g, 0, rfl, by omega, by rw [Nat.zero_add]; exact hc4 j s hj⟩⟩)
      | (go_at_call 20; refine (each_any _ _ _ _ _ R4 (by omega) HB.out).mono ?_; rintro e w5 ⟨rfl, B5, bel5⟩))
    go_ret
    exact ⟨_, rfl, by omega, B5, ((hb1'.trans (bel.mono (by omega))).trans ((below_grown gr3 (by omega) (fun k hk => by cases hk; omega)).trans (below_grown gr4 (by omega) (fun k hk => by cases hk; omega)))).trans (bel5.mono (by omega))⟩

theorem sorted_any (a0 : Option Addr) (n0 c0 : Nat) (s0 : List (List UInt8)) (w : World) (h0 : SR w a0 n0 c0 s0) (hn0 : n0 ≤ 100000) (hb0 : ∀ s ∈ s0, s.length ≤ 281474976710656) :
    Calls Tryz.prog 7 #[.slice a0 n0 c0] w fun e w' => ∃ g, e = .returned (.slice (some ⟨g, 0, none⟩) (srt s0).length (srt s0).length) ∧ w.heap.size ≤ g ∧ Blk w' g 9 ((srt s0).map tx) ∧ Below w.heap.size w w' := by
  have h := join_any a0 n0 c0 s0 none 0 0 [] w h0 (SR.nil w) hn0 (by omega) hb0 (by simp)
  rw [List.append_nil] at h
  clear h0 hb0
  go_enter Tryz.func7, Tryz.ntmps7
  go_wp2_with (go_at_call 8; refine h.mono ?_; rintro e w' ⟨g, rfl, h1, h2, h3⟩)
  go_ret
  exact ⟨g, rfl, h1, h2, h3⟩
end Go.Proofs.YtahfaeamjbcepaaGreatDoor
