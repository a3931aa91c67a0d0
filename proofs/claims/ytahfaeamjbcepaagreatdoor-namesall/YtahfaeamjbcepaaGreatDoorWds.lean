/- The walk of names.words: the texts of two lists, one behind the other, in a row of the call's own. No condition but that the lists can be read and are short. -/
import Derived.Test.YtahfaeamjbcepaaGreatDoorProg
import Derived.Test.YtahfaeamjbcepaaGreatDoorSl
namespace Go.Proofs.YtahfaeamjbcepaaGreatDoor
open Go.RowKit

theorem info36 : ∃ i, Tryz.prog.info? 36 = some i ∧ i.zero = some (.string ⟨#[]⟩) ∧ i.size = 1 ∧ i.bytes = 16 := by
  have h : (Tryz.prog.info? 36).map (fun i => (i.zero, i.size, i.bytes)) = some (some (.string ⟨#[]⟩), 1, 16) := by kernel_rfl
  obtain ⟨i, hi, he⟩ := Option.map_eq_some_iff.1 h
  simp only [Prod.mk.injEq] at he
  exact ⟨i, hi, he⟩

/-- A list as it lies in a row of lists. -/
structure Lst where
  a : Option Addr
  n : Nat
  c : Nat
  ss : List (List UInt8)

/-- How many texts the first i lists have. -/
def cntL (L : List Lst) (i : Nat) : List (List UInt8) := (L.take i).flatMap (·.ss)

theorem cntL_succ {L : List Lst} {i : Nat} {x : Lst} (h : L[i]? = some x) : cntL L (i + 1) = cntL L i ++ x.ss := by
  unfold cntL
  rw [List.take_add_one, h]
  simp

theorem Keep.grown {w w' : World} {row : Option Nat} (hg : w.grownBy w' row) : Keep w w' (fun k => row = some k) := ⟨hg.os, hg.tape, hg.output, hg.size, fun k hk hn => hg.block k hk (fun e => hn e.symm)⟩

theorem take_succ' {α : Type} {l : List α} {j : Nat} {x : α} (h : l[j]? = some x) : l.take (j + 1) = l.take j ++ [x] := by
  rw [List.take_add_one, h]; rfl

set_option maxRecDepth 100000 in
set_option maxHeartbeats 1000000 in
theorem words_any (g m : Nat) (L : List Lst) (w : World) (hm : L.length = m) (hmx : m ≤ 100) (hg : g < w.heap.size)
    (hc : ∀ i x, L[i]? = some x → w.cell? ⟨g, i, none⟩ = some (.slice x.a x.n x.c) ∧ SR w x.a x.n x.c x.ss) (hs : ∀ i, (cntL L i).length ≤ 1000000000) :
    Calls Tryz.prog 17 #[.slice (some ⟨g, 0, none⟩) m m] w fun e w' => ∃ v, e = .returned v ∧ w'.ownsRow w.heap.size 36 1 v (cntL L m).length ((cntL L m).map tx) ∧ Below w.heap.size w w' := by
  obtain ⟨i36, hi36, hz36, hs36, hb36⟩ := info36
  have HS : Hid (∀ i, (cntL L i).length ≤ 1000000000) := hs
  have HM : Hid (L.length = m) := hm
  clear hs hm
  go_enter Tryz.func17, Tryz.ntmps17
  go_wp2_with fail
  go_loopw [2, 9] (fun s2 s9 wr => ∃ (i : Nat) (v : Value), i ≤ m ∧ s9 = .int .i64 (i : Int) ∧ v = s2 ∧ wr.ownsRow w.heap.size 36 1 v (cntL L i).length ((cntL L i).map tx) ∧ Below w.heap.size w wr) (fun _ s9 _ => m - (intOf s9).toNat)
  case atStart => exact ⟨0, _, Nat.zero_le _, rfl, rfl, ⟨rfl, .inl ⟨rfl, rfl⟩⟩, Below.refl _ _⟩
  case round =>
    obtain ⟨i, v2, him, rfl, rfl, hrow, hbel⟩ := hrel
    by_cases hlt : i < m
    · have hL : i < L.length := by rw [HM.out]; exact hlt
      obtain ⟨x, hx⟩ : ∃ x, L[i]? = some x := ⟨_, List.getElem?_eq_getElem hL⟩
      obtain ⟨cx, rx⟩ := hc i x hx
      obtain ⟨a, n, c, ss⟩ := x
      simp only at cx rx
      have c0 : wr.cell? ⟨g, i, none⟩ = some (.slice a n c) := ((bcell hbel).1 g i hg).trans cx
      have R0 : SR wr a n c ss := rx.on hbel
      have hnx := R0.len
      have hsm := HS.out (i + 1)
      have hcs := cntL_succ hx
      rw [hcs] at hsm
      simp only [List.length_append] at hsm
      have hn : n ≤ 1000000000 := by omega
      have HN : Hid (ss.length = n) := hnx
      have hd : decide ((i : Int) < (m : Int)) = true := by simpa using hlt
      obtain ⟨l, hl⟩ : ∃ l, cntL L i = l := ⟨_, rfl⟩
      have HC' : Hid (cntL L (i + 1) = l ++ ss) := by rw [← hl]; exact hcs
      have HSM' : Hid (l.length + ss.length ≤ 1000000000) := by rw [← hl]; exact hsm
      rw [hl] at hrow
      clear hcs hsm hnx cx hc hl hx R0
      go_wp2_with fail
      obtain ⟨wo, hwo⟩ : ∃ wo, wo = wr := ⟨_, rfl⟩
      subst hwo
      go_loopw [2, 15] (fun s2 s15 wr => ∃ (j : Nat) (v : Value), j ≤ n ∧ s15 = .int .i64 (j : Int) ∧ v = s2 ∧ wr.ownsRow w.heap.size 36 1 v (l ++ ss.take j).length ((l ++ ss.take j).map tx) ∧ Below w.heap.size w wr) (fun _ s15 _ => n - (intOf s15).toNat)
      case atStart => exact ⟨0, _, Nat.zero_le _, rfl, rfl, by simpa using hrow, hbel⟩
      case round =>
        obtain ⟨j, v3, hjn, rfl, rfl, hrowj, hbelj⟩ := hrel
        by_cases hj : j < n
        · have Rj := rx.on hbelj
          obtain ⟨s, hs⟩ : ∃ s, ss[j]? = some s := ⟨_, List.getElem?_eq_getElem (by rw [HN.out]; exact hj)⟩
          obtain ⟨b, off, rfl, hb, hcell⟩ := Rj.cells j s hs
          have hdj : decide ((j : Int) < (n : Int)) = true := by simpa using hj
          have ht := take_succ' hs
          have HT : Hid (ss.take (j + 1) = ss.take j ++ [s]) := ht
          have hlen : (l ++ ss.take j).length ≤ 1000000000 := by have := HSM'.out; simp only [List.length_append, List.length_take]; omega
          have hsz := hbelj.size
          have hB1 : Below wr.heap.size wr (wr.alloc (.cells #[.string ⟨s.toArray⟩] 36)) := (Below.refl _ _).alloc (Nat.le_refl _) _
          have B1 : Blk (wr.alloc (.cells #[.string ⟨s.toArray⟩] 36)) wr.heap.size 36 [.string ⟨s.toArray⟩] := Blk.new wr 36 _
          have hown1 := owns_below hrowj hB1
          have hbel1 := hbelj.trans (hB1.mono hsz)
          unfold tx at hcell
          clear ht hrow hs Rj rx
          go_wp2_with (refine wpList_append_two (by rfl) (.tmp 19) (.tmp 21) 33 (by rfl) w.heap.size 36 i36 _ 1 16 Tryz.underlying33 hi36 hz36 hs36 hb36 (by rfl) (by decide) v3 _ _ (by rfl) hown1 ⟨wr.heap.size, 0, none⟩ 1 1 [.string ⟨s.toArray⟩] (by rfl) (by rfl) (fun i u hu => by rw [Addr.add_lit, Nat.zero_add]; exact B1.cell hu) (by simp [Value.oneCell']) (by unfold maxLen; omega) (by omega) (by simp; omega) (by decide) ?_; intro v4 w4 o4 g4 nb4)
          go_roundw
          case measure => simp [intOf]; omega
          case rel =>
            have hg4 : Below w.heap.size (wr.alloc (.cells #[.string ⟨s.toArray⟩] 36)) w4 := below_grown g4 (by simp; omega) (fun g' hg' => (owns_own hown1 hg').1)
            refine ⟨j + 1, v4, by omega, rfl, rfl, ?_, hbel1.trans hg4⟩
            rw [HT.out, ← List.append_assoc]
            simpa [tx, Nat.add_assoc] using o4
        · have hje : j = n := by omega
          subst hje
          have hdj : decide ((j : Int) < (j : Int)) = false := by simp
          have hjl : ss.take j = ss := by rw [← HN.out]; exact List.take_length
          rw [hjl, ← HC'.out] at hrowj
          clear hrow rx hjl
          go_wp2_with fail
          go_roundw
          case measure => simp [intOf]; omega
          case rel => exact ⟨i + 1, v3, by omega, rfl, rfl, hrowj, hbelj⟩
    · have hie : i = m := by omega
      subst hie
      have hd : decide ((i : Int) < (i : Int)) = false := by simp
      clear hc
      go_wp2_with fail
      go_ret
      exact ⟨_, rfl, hrow, hbel⟩
end Go.Proofs.YtahfaeamjbcepaaGreatDoor
