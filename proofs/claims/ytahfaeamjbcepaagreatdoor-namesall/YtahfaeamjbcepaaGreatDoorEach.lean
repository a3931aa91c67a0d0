/- The walks of a word's fresh and of names.each with it: the same texts in a new row. No condition but that the list can be read and is not too great. -/
import Derived.Test.YtahfaeamjbcepaaGreatDoorShelf
import Derived.Test.YtahfaeamjbcepaaGreatDoorWds
import Derived.OwnWalk
namespace Go.Proofs.YtahfaeamjbcepaaGreatDoor
open Go.RowKit

theorem clone48 (s : ByteArray) (w : World) (h : s.size ≤ 281474976710656) : Calls Tryz.prog 48 #[.string s] w fun e w' => e = .returned (.string s) ∧ Below w.heap.size w w' := Any.stringslite_Clone laysM316 s w h

theorem clone29 (s : ByteArray) (w : World) (h : s.size ≤ 281474976710656) : Calls Tryz.prog 29 #[.string s] w fun e w' => e = .returned (.string s) ∧ Below w.heap.size w w' := by
  go_enter Tryz.func29, Tryz.ntmps29
  go_wp2_with (go_at_call 48; refine (clone48 s w h).mono ?_; rintro e w' ⟨rfl, hb⟩)
  go_ret
  exact ⟨rfl, hb⟩

theorem fresh_any (s : ByteArray) (w : World) (h : s.size ≤ 281474976710656) : Calls Tryz.prog 22 #[.string s] w fun e w' => e = .returned (.string s) ∧ Below w.heap.size w w' := by
  go_enter Tryz.func22, Tryz.ntmps22
  go_wp2_with (go_at_call 29; refine (clone29 s w h).mono ?_; rintro e w' ⟨rfl, hb⟩)
  go_ret
  exact ⟨rfl, hb⟩

theorem info9 : ∃ i, Tryz.prog.info? 9 = some i ∧ i.zero = some (.string ⟨#[]⟩) ∧ i.size = 1 ∧ i.bytes = 16 := by
  have h : (Tryz.prog.info? 9).map (fun i => (i.zero, i.size, i.bytes)) = some (some (.string ⟨#[]⟩), 1, 16) := by kernel_rfl
  obtain ⟨i, hi, he⟩ := Option.map_eq_some_iff.1 h
  simp only [Prod.mk.injEq] at he
  exact ⟨i, hi, he⟩

theorem owns_at {w : World} {base : Nat} {e : TypeId} {n : Nat} {g : Nat} {xs : List Value} (h : w.ownsRow base e 1 (.slice (some ⟨g, 0, none⟩) n n) n xs) : Blk w g e xs ∧ xs.length = n := by
  have hl : xs.length = n := by have := h.1; simpa using this
  refine ⟨?_, hl⟩
  rcases h.2 with ⟨h1, _⟩ | ⟨g', c, cur, h1, _, h2, _, _, h3, h4⟩
  · cases h1
  · simp only [Value.slice.injEq, Option.some.injEq, Addr.mk.injEq] at h1
    obtain ⟨⟨rfl, _⟩, _, rfl⟩ := h1
    have : cur = xs.toArray := by
      apply Array.toList_inj.1
      rw [← h4, List.take_of_length_le (by simp; omega)]
    unfold Blk
    rw [h2, this]

set_option maxRecDepth 100000 in
theorem each_any (ao : Option Addr) (n cap : Nat) (ss : List (List UInt8)) (w : World) (hR : SR w ao n cap ss) (hn : n ≤ 1000000000) (hb : ∀ s ∈ ss, s.length ≤ 281474976710656) :
    Calls Tryz.prog 20 #[.slice ao n cap, .func (.func 22) #[] #[]] w fun e w' => e = .returned (.slice (some ⟨w.heap.size, 0, none⟩) n n) ∧ Blk w' w.heap.size 9 (ss.map tx) ∧ Below w.heap.size w w' := by
  obtain ⟨i9, hi9, hz9, hs9, hb9⟩ := info9
  have HL : Hid (ss.length = n) := hR.len
  go_enter Tryz.func20, Tryz.ntmps20
  go_wp2_with (refine wpList_make_full w (by rfl) (.tmp 9) (.tmp 9) 22 (by rfl) w.heap.size 9 i9 _ 1 Tryz.underlying22 hi9 hz9 hs9 .i64 .i64 (n : Int) (n : Int) n (by rfl) (by rfl) rfl rfl (by rw [hb9]; omega) (by unfold maxLen; omega) (Nat.le_refl _) ?_; intro w1 o1 g1)
  have hb1 : Below w.heap.size w w1 := below_grown g1 (Nat.le_refl _) (fun _ h => by cases h)
  have hs1 := (owns_own o1 (g := w.heap.size) rfl).2
  generalize (madeCells (Value.string ⟨#[]⟩).cells (n * 1)).toList = xs1 at o1
  go_loopw [13] (fun s13 wr => ∃ (k : Nat) (xs : List Value), k ≤ n ∧ s13 = .int .i64 (k : Int) ∧ wr.ownsRow w.heap.size 9 1 (.slice (some ⟨w.heap.size, 0, none⟩) n n) n xs ∧ (∀ i s, i < k → ss[i]? = some s → xs[i]? = some (tx s)) ∧ Below w.heap.size w wr) (fun s13 _ => n - (intOf s13).toNat)
  case atStart => exact ⟨0, xs1, Nat.zero_le _, rfl, o1, fun i s hi => absurd hi (Nat.not_lt_zero _), hb1⟩
  case round =>
    obtain ⟨k, xs, hk, rfl, own, hxs, bel⟩ := hrel
    clear o1 g1
    by_cases hlt : k < n
    · obtain ⟨s, hs⟩ : ∃ s, ss[k]? = some s := ⟨_, List.getElem?_eq_getElem (by rw [HL.out]; exact hlt)⟩
      obtain ⟨b, off, rfl, hbl, hcell⟩ := (hR.on bel).cells k s hs
      have hsz : s.length ≤ 281474976710656 := hb s (List.mem_of_getElem? hs)
      have hd : decide ((k : Int) < (n : Int)) = true := by simpa using hlt
      obtain ⟨bk, hxl⟩ := owns_at own
      have hkx : k < xs.length := by omega
      have hbg := bk.lt
      have HX : Hid (∀ i s, i < k → ss[i]? = some s → xs[i]? = some (tx s)) := hxs
      have HS : Hid (ss[k]? = some s) := hs
      unfold tx at hcell
      clear hR hxs hs hb
      go_wp2_with (go_at_call 22; refine (fresh_any ⟨s.toArray⟩ wr (by simpa [ByteArray.size] using hsz)).mono ?_; rintro e w2 ⟨rfl, hb2⟩; have bk2 := bk.below hb2 hbg; have c2 := bk2.cell (List.getElem?_eq_getElem hkx); have f2 := bk2.frozen k)
      go_roundw
      case measure => simp [intOf]; omega
      case rel =>
        have own2 := owns_below own hb2
        refine ⟨k + 1, xs.set k (tx s), by omega, rfl, owns_set own2 k _, fun i s' hi hs' => ?_, ?_⟩
        · by_cases e : i = k
          · subst e
            rw [HS.out] at hs'
            cases hs'
            simp [hkx]
          · rw [List.getElem?_set_ne (fun h => e h.symm)]
            exact HX.out i s' (by omega) hs'
        · exact (bel.trans (hb2.mono (Nat.le_of_lt hbg))).setCell (p := ⟨w.heap.size, k, none⟩) (Nat.le_refl _) _
    · have hke : k = n := by omega
      subst hke
      have hd : decide ((k : Int) < (k : Int)) = false := by simp
      obtain ⟨bk, hxl⟩ := owns_at own
      have hxe : xs = ss.map tx := by
        apply List.ext_getElem?
        intro i
        by_cases hi : i < k
        · have hil : i < ss.length := by rw [HL.out]; exact hi
          rw [hxs i _ hi (List.getElem?_eq_getElem hil), List.getElem?_map, List.getElem?_eq_getElem hil]
          rfl
        · rw [List.getElem?_eq_none (by omega), List.getElem?_eq_none (by rw [List.length_map, HL.out]; omega)]
      have HB : Hid (Blk wr w.heap.size 9 (ss.map tx)) := by rw [← hxe]; exact bk
      clear hR hxs hb own bk hxl hxe
      go_wp2_with fail
      go_ret
      exact ⟨rfl, HB.out, bel⟩
end Go.Proofs.YtahfaeamjbcepaaGreatDoor
