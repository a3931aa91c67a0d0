/- The walk of the document's Places. No condition. -/
import Derived.Test.YtogfmpjgmabomaaDoorPlcG
import Derived.Deep.CutRange
namespace Go.Proofs.YtogfmpjgmabomaaDoor
open Go.RowKit

theorem q3_cell {w : World} {g k : Nat} (h : Blk w g 3 [.int .i64 0, .int .i64 1, .int .i64 1000]) (hk : k < 3) : w.cell? ⟨g, k, none⟩ = some (.int .i64 (q3 k)) := by
  match k, hk with
  | 0, _ => exact h.cell rfl
  | 1, _ => exact h.cell rfl
  | 2, _ => exact h.cell rfl
theorem info27' : ∃ i, Tryd.prog.info? 27 = some i ∧ i.zero = some (.slice none 0 0) ∧ i.size = 1 ∧ i.bytes = 24 := by
  have h : (Tryd.prog.info? 27).map (fun i => (i.zero, i.size, i.bytes)) = some (some (.slice none 0 0), 1, 24) := by kernel_rfl
  obtain ⟨i, hi, he⟩ := Option.map_eq_some_iff.1 h
  simp only [Prod.mk.injEq] at he
  exact ⟨i, hi, he⟩
def accT (l : List (List Int)) (i : Nat) : List (List Int) := (l.take i).flatMap tri
theorem accT_zero (l : List (List Int)) : accT l 0 = [] := rfl
theorem accT_succ {l : List (List Int)} {i : Nat} {p : List Int} (h : l[i]? = some p) : accT l (i + 1) = accT l i ++ tri p := take_tri h
theorem accT_len (l : List (List Int)) {i : Nat} (h : i ≤ l.length) : (accT l i).length = 3 * i := by unfold accT; rw [tri_len, List.length_take, Nat.min_eq_left h]
theorem accT_all (m : Nat) : accT (pls m) (pls m).length = pls (m + 1) := by unfold accT; rw [List.take_length]; rfl

set_option maxRecDepth 100000 in
set_option maxHeartbeats 4000000 in
theorem rplaces_any (w : World) : Calls Tryd.prog 42 #[] w fun e w' => ∃ a c, e = .returned (.slice a (pls 4).length c) ∧ IL w.heap.size w' (pls 4) a c ∧ Below w.heap.size w w' := by
  obtain ⟨i27, hi27, hz27, hs27, hy27⟩ := info27'
  obtain ⟨w1, hw1, hb1, X1, hs1⟩ := one_new w [.slice none 0 0] 27
  have I0 : IL w.heap.size w1 (pls 0) (some ⟨w.heap.size, 0, none⟩) 1 := ⟨⟨[.slice none 0 0], ⟨rfl, .inr ⟨w.heap.size, 1, _, rfl, Nat.le_refl _, X1, Nat.le_refl _, by decide, rfl, rfl⟩⟩, fun i ps hi => by
    match i, hi with
    | 0, hi => simp [pls] at hi; subst hi; exact ⟨none, 0, 0, rfl, rfl, Nat.le_refl _, by decide, .inl ⟨rfl, rfl, rfl⟩⟩
    | i + 1, hi => simp [pls] at hi⟩, Nat.le_refl _, by decide⟩
  go_enter Tryd.func42, Tryd.ntmps42
  go_wp2_with fail
  go_loopw [1, 2] (fun s1 s2 wr => ∃ (m : Nat) (ao : Option Addr) (capo : Nat), s2 = .int .i64 (m : Int) ∧ m ≤ 4 ∧ s1 = .slice ao (pls m).length capo ∧ IL w.heap.size wr (pls m) ao capo ∧ Below w.heap.size w wr) (fun _ i _ => 4 - (intOf i).toNat)
  case atStart => exact ⟨0, _, 1, rfl, by omega, rfl, I0, hb1⟩
  case round =>
    clear I0 X1
    obtain ⟨m, ao, capo, rfl, hm4, rfl, hIL, hbel⟩ := hrel
    by_cases hlt : m < 4
    · obtain ⟨wo, hwo⟩ : ∃ wo, wo = wr := ⟨_, rfl⟩
      subst hwo
      have hNle : (pls m).length ≤ 27 := by rw [pls_len]; have : 3 ^ m ≤ 3 ^ 3 := Nat.pow_le_pow_right (by decide) (by omega); omega
      obtain ⟨N, hN⟩ : ∃ N, (pls m).length = N := ⟨_, rfl⟩
      rw [hN] at hNle ⊢
      have HN : Hid ((pls m).length = N) := hN
      clear hN
      go_wp2_with fail
      simp only [show decide ((m : Int) < 4) = true from by simp; omega]
      have HLT : Hid (m < 4) := hlt
      clear hlt
      go_loopw [3, 4] (fun s3 s4 wr => ∃ (i : Nat) (no : Option Addr) (ncap : Nat), s4 = .int .i64 (i : Int) ∧ i ≤ N ∧ s3 = .slice no (accT (pls m) i).length ncap ∧ IL w.heap.size wr (accT (pls m) i) no ncap ∧ IL w.heap.size wr (pls m) ao capo ∧ (∀ b, (Value.slice no (accT (pls m) i).length ncap).ownBlock = some b → (Value.slice ao (pls m).length capo).ownBlock ≠ some b) ∧ Below w.heap.size w wr) (fun _ i _ => N - (intOf i).toNat)
      case atStart => exact ⟨0, none, 0, rfl, by omega, rfl, IL.start _ _, hIL, (fun b e => by simp [Value.ownBlock] at e), hbel⟩
      case round =>
        clear hIL hbel
        obtain ⟨i, no, ncap, rfl, hiN, rfl, hNX, hIL, hne, hbel⟩ := hrel
        by_cases hi : i < N
        · obtain ⟨wo2, hwo2⟩ : ∃ wo2, wo2 = wr := ⟨_, rfl⟩
          subst hwo2
          obtain ⟨ps, hps⟩ : ∃ ps, (pls m)[i]? = some ps := ⟨_, List.getElem?_eq_getElem (by rw [HN.out]; exact hi)⟩
          have hpsl : ps.length = m := pls_each m ps (List.mem_of_getElem? hps)
          have HP : Hid ((pls m)[i]? = some ps ∧ ps.length = m) := ⟨hps, hpsl⟩
          have hps3 : ps.length ≤ 3 := by have := HLT.out; omega
          clear hps hpsl
          obtain ⟨acc, hacc⟩ : ∃ acc, accT (pls m) i = acc := ⟨_, rfl⟩
          have hal : acc.length = 3 * i := by rw [← hacc]; exact accT_len _ (by rw [HN.out]; omega)
          have HAL : Hid (acc.length = 3 * i ∧ accT (pls m) i = acc) := ⟨hal, hacc⟩
          have hal78 : acc.length ≤ 78 := by omega
          rw [hacc] at hNX hne ⊢
          clear hal hacc
          go_wp2_with fail
          go_loopw [3, 5] (fun s3 s5 wr => ∃ (k : Nat) (no : Option Addr) (ncap : Nat), s5 = .int .i64 (k : Int) ∧ k ≤ 3 ∧ s3 = .slice no (acc ++ (tri ps).take k).length ncap ∧ IL w.heap.size wr (acc ++ (tri ps).take k) no ncap ∧ IL w.heap.size wr (pls m) ao capo ∧ (∀ b, (Value.slice no (acc ++ (tri ps).take k).length ncap).ownBlock = some b → (Value.slice ao (pls m).length capo).ownBlock ≠ some b) ∧ Below w.heap.size w wr) (fun _ k _ => 3 - (intOf k).toNat)
          case atStart => exact ⟨0, no, ncap, rfl, by omega, by simp, by simpa using hNX, hIL, by simpa using hne, hbel⟩
          case round =>
            clear hNX hIL hne hbel
            obtain ⟨k, no, ncap, rfl, hk, rfl, hNX, hIL, hne, hbel⟩ := hrel
            obtain ⟨nx, hnx⟩ : ∃ nx, acc ++ (tri ps).take k = nx := ⟨_, rfl⟩
            have hnl : nx.length ≤ 81 := by rw [← hnx]; simp [tri]; omega
            rw [hnx] at hNX hne ⊢
            have HNX : Hid (acc ++ (tri ps).take k = nx) := hnx
            clear hnx
            by_cases hk3 : k < 3
            · obtain ⟨go, pa, pm, pc, rfl, hgB, hgo, hcell, hI⟩ := hIL.get HP.out.1
              obtain ⟨xs, hxs, hxi⟩ := hNX.row
              have hBr := hbel.size
              have hpm : pm ≤ 3 := by have := hI.1; omega
              have hgo27 := hIL.cap
              have hgomx := hIL.max
              rw [HN.out] at hgo27
              go_upto_region 12 with fail
              simp only [show decide ((k : Int) < 3) = true from by simp; omega]
              refine wp_region_each (SA := fun u => Below wr.heap.size wr u) (SB := fun u => Keep wr u (fun b => (Value.slice no nx.length ncap).ownBlock = some b)) (c := 14) (isB := fun j => j == 15) (Φ := PcF w.heap.size wr.heap.size go N capo i pa pm pc ps k nx no ncap xs) (D := PcD) (W := PcW) (fin := [15]) (live := PcL) (by kernel_rfl) (by kernel_rfl) (by kernel_rfl) (by kernel_rfl) (by kernel_rfl) (by decide) (by decide) (fun _ _ _ _ hd h => ⟨hd.symm.trans h.1, h.2⟩) (Below.refl _ _).drew ?_ ?_
              · intro f u hB hF
                have h15 : ∃ r, u.ownsRow w.heap.size 27 1 (f 15) (nx.length + 1) (xs ++ [r]) ∧ u.ownsRow wr.heap.size 3 1 r (ps ++ [q3 k]).length (nums (ps ++ [q3 k])) ∧ ((f 15).ownBlock = (Value.slice no nx.length ncap).ownBlock ∨ ∃ b, (f 15).ownBlock = some b ∧ wr.heap.size ≤ b) := hF 15 (by decide)
                obtain ⟨r, ho, hr, hnb⟩ := h15
                obtain ⟨gn, cn, en, hgn1, hgn2, hgn3, hgn4⟩ := owns_shape ho (by omega)
                rw [en] at ho hnb
                have ILn := IL.step hBr hxs hxi hB ho hr (by simp) ⟨hgn3, hgn4⟩
                have ILo := hIL.other hB (fun b e => (owns_block hxs e).2.2) hne
                have hbu : Below w.heap.size w u := hbel.trans (hB.below hBr (fun b e => (owns_block hxs e).1))
                have hne' : ∀ b, (Value.slice (some ⟨gn, 0, none⟩) (nx.length + 1) cn).ownBlock = some b → (Value.slice (some ⟨go, 0, none⟩) (pls m).length capo).ownBlock ≠ some b := fun b e e' => by
                  rcases hnb with h | ⟨c, h, hc⟩
                  · exact hne b (by rw [← h]; exact e) e'
                  · rw [h] at e; simp [Value.ownBlock] at e e'; omega
                simp only [putAll, Act.put, List.setIfInBounds_toArray, List.set_cons_succ, List.set_cons_zero, Nat.zero_add, Nat.reduceAdd, List.contains_nil, Bool.false_eq_true, if_false, en]
                go_wp2_with fail
                go_roundw
                case rel =>
                  have e : acc ++ (tri ps).take (k + 1) = nx ++ [ps ++ [q3 k]] := by rw [tri_take ps hk3, ← List.append_assoc, HNX.out]
                  exact ⟨k + 1, some ⟨gn, 0, none⟩, cn, by go_num, by omega, by rw [e]; simp, by rw [e]; exact ILn, ILo, by rw [e]; simpa using hne', hbu⟩
                case measure => simp [intOf]; omega
              · refine EachSteps.cons (fun f u hS hF K hK => ?_) ?_
                · have hA : Below wr.heap.size wr u := hS
                  refine ⟨?_⟩
                  simp only [putAll, Act.put, List.setIfInBounds_toArray, List.set_cons_succ, List.set_cons_zero, Nat.zero_add, Nat.reduceAdd, show PcW 0 = [15] from rfl, List.contains_nil, List.contains_cons, Nat.reduceBEq, Bool.or_false, Bool.false_eq_true, if_true, if_false] at hK ⊢
                  go_simp
                  (try go_wp2_with fail)
                  exact hK _ _ hA (fun _ _ h => h) ⟨rfl, owns_below hxs hA⟩
                refine EachSteps.cons (fun f u hS hF K hK => ?_) ?_
                · have hA : Below wr.heap.size wr u := hS
                  refine ⟨?_⟩
                  simp only [putAll, Act.put, List.setIfInBounds_toArray, List.set_cons_succ, List.set_cons_zero, Nat.zero_add, Nat.reduceAdd, show PcW 1 = [] from rfl, List.contains_nil, Bool.false_eq_true, if_false] at hK ⊢
                  go_simp
                  (try go_wp2_with fail)
                  exact hK _ _ (hA.alloc hA.size _) (fun j _ h => PcF.on _ _ _ _ _ _ _ _ _ _ _ _ _ _ _ j _ u _ ((Below.refl _ _).alloc (Nat.le_refl _) _) h) ⟨_, rfl, hA.size, heap_alloc_new u _⟩
                refine EachSteps.cons (fun f u hS hF K hK => ?_) ?_
                · have hA : Below wr.heap.size wr u := hS
                  refine ⟨?_⟩
                  simp only [putAll, Act.put, List.setIfInBounds_toArray, List.set_cons_succ, List.set_cons_zero, Nat.zero_add, Nat.reduceAdd, show PcW 2 = [] from rfl, List.contains_nil, Bool.false_eq_true, if_false] at hK ⊢
                  go_simp
                  (try go_wp2_with fail)
                  exact hK _ _ hA (fun _ _ h => h) rfl
                refine EachSteps.cons (fun f u hS hF K hK => ?_) ?_
                · have hA : Below wr.heap.size wr u := hS
                  refine ⟨?_⟩
                  simp only [putAll, Act.put, List.setIfInBounds_toArray, List.set_cons_succ, List.set_cons_zero, Nat.zero_add, Nat.reduceAdd, show PcW 3 = [] from rfl, List.contains_nil, Bool.false_eq_true, if_false] at hK ⊢
                  go_simp
                  (try go_wp2_with fail)
                  exact hK _ _ hA (fun _ _ h => h) rfl
                refine EachSteps.cons (fun f u hS hF K hK => ?_) ?_
                · have hA : Below wr.heap.size wr u := hS
                  have e2 : f 2 = .slice (some ⟨go, 0, none⟩) N capo := hF 2 (by decide)
                  have e3 : f 3 = .int .i64 (i : Int) := hF 3 (by decide)
                  refine ⟨?_⟩
                  simp only [putAll, Act.put, List.setIfInBounds_toArray, List.set_cons_succ, List.set_cons_zero, Nat.zero_add, Nat.reduceAdd, show PcW 4 = [] from rfl, List.contains_nil, Bool.false_eq_true, if_false, e2, e3] at hK ⊢
                  go_simp
                  (try go_wp2_with fail)
                  exact hK _ _ hA (fun _ _ h => h) rfl
                refine EachSteps.cons (fun f u hS hF K hK => ?_) ?_
                · have hA : Below wr.heap.size wr u := hS
                  have e4 : f 4 = .pointer (some ⟨go, i, none⟩) := hF 4 (by decide)
                  have hc := (bcell' hA _ _ hgo).trans hcell
                  refine ⟨?_⟩
                  simp only [putAll, Act.put, List.setIfInBounds_toArray, List.set_cons_succ, List.set_cons_zero, Nat.zero_add, Nat.reduceAdd, show PcW 5 = [] from rfl, List.contains_nil, Bool.false_eq_true, if_false, e4] at hK ⊢
                  go_simp
                  (try go_wp2_with fail)
                  exact hK _ _ hA (fun _ _ h => h) rfl
                refine EachSteps.cons (fun f u hS hF K hK => ?_) ?_
                · have hA : Below wr.heap.size wr u := hS
                  have h1 : ∃ g, f 1 = .slice (some ⟨g, 0, none⟩) 0 0 ∧ wr.heap.size ≤ g ∧ u.heap[g]? = some (.cells #[] 3 (0, 0)) := hF 1 (by decide)
                  obtain ⟨g, e1, hgR, hg⟩ := h1
                  have e5 : f 5 = .slice pa pm pc := hF 5 (by decide)
                  have hI6 := hI.carry (w' := u) (fun b _ _ hlt _ => hA.block b hlt)
                  refine ⟨?_⟩
                  simp only [putAll, Act.put, List.setIfInBounds_toArray, List.set_cons_succ, List.set_cons_zero, Nat.zero_add, Nat.reduceAdd, show PcW 6 = [] from rfl, List.contains_nil, Bool.false_eq_true, if_false, e1, e5] at hK ⊢
                  refine Eq.mpr (if_pos (by rfl)) ?_
                  refine wp_append_ints (by rfl) (.tmp 22) (.tmp 26) (by rfl) wr.heap.size w.heap.size (.slice (some ⟨g, 0, none⟩) 0 0) 0 [] (by rfl) ⟨by simp, .inr ⟨g, 0, #[], rfl, hgR, hg, Nat.le_refl _, by decide, by simp, by simp⟩⟩ pa pm pc ps (by rfl) hI6 (by omega) hA.size ?_
                  intro v6 w6 ho hgr
                  have hA6 : Below wr.heap.size wr w6 := ⟨hgr.os.trans hA.os, hgr.tape.trans hA.tape, hgr.output.trans hA.output, Nat.le_trans hA.size hgr.size, fun b hb => (hgr.block b (Nat.lt_of_lt_of_le hb hA.size) (fun e => by simp [Value.ownBlock] at e; omega)).trans (hA.block b hb)⟩
                  have ho6 : w6.ownsRow wr.heap.size 3 1 v6 ps.length (nums ps) := by rw [Nat.zero_add, List.nil_append, hI.1] at ho; exact ho
                  simp only [Act.put, List.setIfInBounds_toArray, List.set_cons_succ, List.set_cons_zero]
                  exact hK _ _ hA6 (fun j hj h => PcF.at6 _ _ _ _ _ _ _ _ _ _ _ _ _ _ _ j hj _ u _ hg hgr h) ho6
                refine EachSteps.cons (fun f u hS hF K hK => ?_) ?_
                · have hA : Below wr.heap.size wr u := hS
                  refine ⟨?_⟩
                  simp only [putAll, Act.put, List.setIfInBounds_toArray, List.set_cons_succ, List.set_cons_zero, Nat.zero_add, Nat.reduceAdd, show PcW 7 = [] from rfl, List.contains_nil, Bool.false_eq_true, if_false] at hK ⊢
                  go_simp
                  (try go_wp2_with fail)
                  exact hK _ _ (hA.alloc hA.size _) (fun j _ h => PcF.on _ _ _ _ _ _ _ _ _ _ _ _ _ _ _ j _ u _ ((Below.refl _ _).alloc (Nat.le_refl _) _) h) ⟨_, rfl, Blk.new _ _ _⟩
                refine EachSteps.cons (fun f u hS hF K hK => ?_) ?_
                · have hA : Below wr.heap.size wr u := hS
                  refine ⟨?_⟩
                  simp only [putAll, Act.put, List.setIfInBounds_toArray, List.set_cons_succ, List.set_cons_zero, Nat.zero_add, Nat.reduceAdd, show PcW 8 = [] from rfl, List.contains_nil, Bool.false_eq_true, if_false] at hK ⊢
                  go_simp
                  (try go_wp2_with fail)
                  exact hK _ _ hA (fun _ _ h => h) rfl
                refine EachSteps.cons (fun f u hS hF K hK => ?_) ?_
                · have hA : Below wr.heap.size wr u := hS
                  have h7 : ∃ g, f 7 = .slice (some ⟨g, 0, none⟩) 3 3 ∧ Blk u g 3 [.int .i64 0, .int .i64 1, .int .i64 1000] := hF 7 (by decide)
                  obtain ⟨g, e7, h7⟩ := h7
                  have e8 : f 8 = .int .i64 (k : Int) := hF 8 (by decide)
                  refine ⟨?_⟩
                  simp only [putAll, Act.put, List.setIfInBounds_toArray, List.set_cons_succ, List.set_cons_zero, Nat.zero_add, Nat.reduceAdd, show PcW 9 = [] from rfl, List.contains_nil, Bool.false_eq_true, if_false, e7, e8] at hK ⊢
                  go_simp
                  (try go_wp2_with fail)
                  exact hK _ _ hA (fun _ _ h => h) ⟨g, rfl, h7⟩
                refine EachSteps.cons (fun f u hS hF K hK => ?_) ?_
                · have hA : Below wr.heap.size wr u := hS
                  have h9 : ∃ g, f 9 = .pointer (some ⟨g, k, none⟩) ∧ Blk u g 3 [.int .i64 0, .int .i64 1, .int .i64 1000] := hF 9 (by decide)
                  obtain ⟨g, e9, h9⟩ := h9
                  have hc := q3_cell h9 hk3
                  refine ⟨?_⟩
                  simp only [putAll, Act.put, List.setIfInBounds_toArray, List.set_cons_succ, List.set_cons_zero, Nat.zero_add, Nat.reduceAdd, show PcW 10 = [] from rfl, List.contains_nil, Bool.false_eq_true, if_false, e9] at hK ⊢
                  go_simp
                  (try go_wp2_with fail)
                  exact hK _ _ hA (fun _ _ h => h) rfl
                refine EachSteps.cons (fun f u hS hF K hK => ?_) ?_
                · have hA : Below wr.heap.size wr u := hS
                  have e10 : f 10 = .int .i64 (q3 k) := hF 10 (by decide)
                  refine ⟨?_⟩
                  simp only [putAll, Act.put, List.setIfInBounds_toArray, List.set_cons_succ, List.set_cons_zero, Nat.zero_add, Nat.reduceAdd, show PcW 11 = [] from rfl, List.contains_nil, Bool.false_eq_true, if_false, e10] at hK ⊢
                  go_simp
                  (try go_wp2_with fail)
                  exact hK _ _ (hA.alloc hA.size _) (fun j _ h => PcF.on _ _ _ _ _ _ _ _ _ _ _ _ _ _ _ j _ u _ ((Below.refl _ _).alloc (Nat.le_refl _) _) h) ⟨_, rfl, Blk.new _ _ _⟩
                refine EachSteps.cons (fun f u hS hF K hK => ?_) ?_
                · have hA : Below wr.heap.size wr u := hS
                  have h6 : u.ownsRow wr.heap.size 3 1 (f 6) ps.length (nums ps) := hF 6 (by decide)
                  have h11 : ∃ g, f 11 = .slice (some ⟨g, 0, none⟩) 1 1 ∧ Blk u g 3 [.int .i64 (q3 k)] := hF 11 (by decide)
                  obtain ⟨g, e11, h11⟩ := h11
                  have hI12 : IntsT u 0 (some ⟨g, 0, none⟩) 1 1 [q3 k] := ⟨rfl, Nat.le_refl _, by decide, .inr ⟨by simp, g, _, rfl, Nat.zero_le _, h11, fun j z hz => by match j, hz with | 0, hz => (simp at hz; subst hz; rfl) | j + 1, hz => simp at hz⟩⟩
                  have hown : ∀ b, (f 6).ownBlock = some b → wr.heap.size ≤ b ∧ ∃ cur, u.heap[b]? = some (.cells cur 3 (0, 0)) := fun b e => by rcases h6.2 with ⟨e0, _⟩ | ⟨g', c', cur, e0, hb0, hcur, _⟩; (rw [e0] at e; cases e); (rw [e0] at e; simp [Value.ownBlock] at e; subst e; exact ⟨hb0, cur, hcur⟩)
                  refine ⟨?_⟩
                  simp only [putAll, Act.put, List.setIfInBounds_toArray, List.set_cons_succ, List.set_cons_zero, Nat.zero_add, Nat.reduceAdd, show PcW 12 = [] from rfl, List.contains_nil, Bool.false_eq_true, if_false, e11] at hK ⊢
                  refine Eq.mpr (if_pos (by rfl)) ?_
                  refine wp_append_ints (by rfl) (.tmp 27) (.tmp 32) (by rfl) wr.heap.size 0 (f 6) ps.length (nums ps) (by rfl) h6 (some ⟨g, 0, none⟩) 1 1 [q3 k] (by rfl) hI12 (by omega) hA.size ?_
                  intro v12 w12 ho hgr
                  have hA12 : Below wr.heap.size wr w12 := ⟨hgr.os.trans hA.os, hgr.tape.trans hA.tape, hgr.output.trans hA.output, Nat.le_trans hA.size hgr.size, fun b hb => (hgr.block b (Nat.lt_of_lt_of_le hb hA.size) (fun e => by have := (hown b e.symm).1; omega)).trans (hA.block b hb)⟩
                  have ho12 : w12.ownsRow wr.heap.size 3 1 v12 (ps ++ [q3 k]).length (nums (ps ++ [q3 k])) := by rw [show (ps ++ [q3 k]).length = ps.length + 1 by simp, show nums (ps ++ [q3 k]) = nums ps ++ nums [q3 k] by simp [nums]]; exact ho
                  simp only [Act.put, List.setIfInBounds_toArray, List.set_cons_succ, List.set_cons_zero]
                  exact hK _ _ hA12 (fun j hj h => PcF.at12 _ _ _ _ _ _ _ _ _ _ _ _ _ _ _ j hj _ u _ (fun b e => (hown b e).2) hgr h) ho12
                refine EachSteps.cons (fun f u hS hF K hK => ?_) ?_
                · have hA : Below wr.heap.size wr u := hS
                  have h12 : u.ownsRow wr.heap.size 3 1 (f 12) (ps ++ [q3 k]).length (nums (ps ++ [q3 k])) := hF 12 (by decide)
                  have hpos : 0 < (ps ++ [q3 k]).length := by simp
                  obtain ⟨L, hL⟩ : ∃ L, (ps ++ [q3 k]).length = L := ⟨_, rfl⟩
                  rw [hL] at h12 hpos
                  have HL : Hid ((ps ++ [q3 k]).length = L) := hL
                  clear hL
                  obtain ⟨g, cp, e12, -⟩ := owns_shape h12 hpos
                  rw [e12] at h12
                  clear hpos
                  refine ⟨?_⟩
                  simp only [putAll, Act.put, List.setIfInBounds_toArray, List.set_cons_succ, List.set_cons_zero, Nat.zero_add, Nat.reduceAdd, show PcW 13 = [] from rfl, List.contains_nil, Bool.false_eq_true, if_false, e12] at hK ⊢
                  go_simp
                  (try go_wp2_with fail)
                  exact hK _ _ (hA.alloc hA.size _) (fun j _ h => PcF.on _ _ _ _ _ _ _ _ _ _ _ _ _ _ _ j _ u _ ((Below.refl _ _).alloc (Nat.le_refl _) _) h) ⟨_, _, rfl, Blk.new _ _ _, by rw [HL.out]; exact owns_below h12 ((Below.refl _ _).alloc (Nat.le_refl _) _)⟩
                refine EachSteps.cons (fun f u hS hF K hK => ?_) ?_
                · have hA : Below wr.heap.size wr u := hS
                  have h0 : f 0 = .slice no nx.length ncap ∧ u.ownsRow w.heap.size 27 1 (.slice no nx.length ncap) nx.length xs := hF 0 (by decide)
                  obtain ⟨e0, h0⟩ := h0
                  have h13 : ∃ g r, f 13 = .slice (some ⟨g, 0, none⟩) 1 1 ∧ Blk u g 27 [r] ∧ u.ownsRow wr.heap.size 3 1 r (ps ++ [q3 k]).length (nums (ps ++ [q3 k])) := hF 13 (by decide)
                  obtain ⟨g, r, e13, hB13, hr⟩ := h13
                  obtain ⟨gr, cr, er, -⟩ := owns_shape hr (by simp)
                  refine ⟨?_⟩
                  simp only [putAll, Act.put, List.setIfInBounds_toArray, List.set_cons_succ, List.set_cons_zero, Nat.zero_add, Nat.reduceAdd, show PcW 14 = [] from rfl, List.contains_nil, Bool.false_eq_true, if_false, e0, e13] at hK ⊢
                  refine Eq.mpr (if_pos (by rfl)) ?_
                  refine wp_append_list (by rfl) (.tmp 21) (.tmp 34) 63 (by rfl) w.heap.size 27 i27 _ 1 24 Tryd.underlying63 hi27 hz27 hs27 hy27 (by rfl) (by decide) (.slice no nx.length ncap) nx.length xs (by rfl) h0 ⟨g, 0, none⟩ 1 1 [r] (by rfl) (by rfl) (fun j u hu => by rw [Addr.add_lit, Nat.zero_add]; exact hB13.cell hu) (by intro u hu; simp at hu; subst hu; rw [er]; rfl) (by unfold maxLen; omega) (by omega) (Nat.le_trans hBr hA.size) (by decide) ?_
                  intro v14 w14 ho hgr hnb
                  have hK14 : Keep wr w14 (fun b => (Value.slice no nx.length ncap).ownBlock = some b) := ⟨hgr.os.trans hA.os, hgr.tape.trans hA.tape, hgr.output.trans hA.output, Nat.le_trans hA.size hgr.size, fun b hb hn => (hgr.block b (Nat.lt_of_lt_of_le hb hA.size) (fun e => hn e.symm)).trans (hA.block b hb)⟩
                  have hr14 := owns_any (w' := w14) hr (fun b cur hb _ => hgr.block b (Array.getElem?_eq_some_iff.1 hb).1 (fun e => by obtain ⟨_, _, c, hc⟩ := owns_block h0 e.symm; rw [hb] at hc; simp at hc))
                  have hnb14 : v14.ownBlock = (Value.slice no nx.length ncap).ownBlock ∨ ∃ b, v14.ownBlock = some b ∧ wr.heap.size ≤ b := hnb.imp id (fun ⟨b, e, h⟩ => ⟨b, e, Nat.le_trans hA.size h⟩)
                  simp only [Act.put, List.setIfInBounds_toArray, List.set_cons_succ, List.set_cons_zero]
                  exact hK _ _ hK14 (fun j hj => by simp [PcL] at hj) ⟨r, ho, hr14, hnb14⟩
                refine EachSteps.cons (fun f u hS hF K hK => ?_) ?_
                · have hB : Keep wr u (fun b => (Value.slice no nx.length ncap).ownBlock = some b) := hS
                  have h14 : ∃ r, u.ownsRow w.heap.size 27 1 (f 14) (nx.length + 1) (xs ++ [r]) ∧ u.ownsRow wr.heap.size 3 1 r (ps ++ [q3 k]).length (nums (ps ++ [q3 k])) ∧ ((f 14).ownBlock = (Value.slice no nx.length ncap).ownBlock ∨ ∃ b, (f 14).ownBlock = some b ∧ wr.heap.size ≤ b) := hF 14 (by decide)
                  refine ⟨?_⟩
                  simp only [putAll, Act.put, List.setIfInBounds_toArray, List.set_cons_succ, List.set_cons_zero, Nat.zero_add, Nat.reduceAdd, show PcW 15 = [] from rfl, List.contains_nil, Bool.false_eq_true, if_false] at hK ⊢
                  go_simp
                  (try go_wp2_with fail)
                  exact hK _ _ hB (fun _ _ h => h) h14
                exact EachSteps.nil
            · obtain rfl : k = 3 := by omega
              go_wp2_with fail
              go_roundw
              case rel =>
                have e : accT (pls m) (i + 1) = nx := by rw [accT_succ HP.out.1, HAL.out.2, ← HNX.out]; rfl
                exact ⟨i + 1, no, ncap, by go_num, by omega, by rw [e], by rw [e]; exact hNX, hIL, by rw [e]; exact hne, hbel⟩
              case measure => simp [intOf]; omega
        · obtain rfl : i = N := by omega
          go_wp2_with fail
          go_roundw
          case rel =>
            have e : accT (pls m) i = pls (m + 1) := by rw [← HN.out]; exact accT_all m
            rw [e] at hNX
            exact ⟨m + 1, no, ncap, by go_num, by have := HLT.out; omega, by rw [e], hNX, hbel⟩
          case measure => have := HLT.out; simp [intOf]; omega
    · obtain rfl : m = 4 := by omega
      go_wp2_with fail
      refine bodyPost_ret (v := .slice ao (pls 4).length capo) (by simp [results, Tryd.results42, go_sem]) rfl ⟨ao, capo, rfl, hIL, hbel⟩
end Go.Proofs.YtogfmpjgmabomaaDoor
