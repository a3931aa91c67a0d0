/- The walk of asked: those of a row of which a law's question is true. No condition but sizes. -/
import Derived.Test.YtgimpolgagkffaaDr3
import Derived.Test.YtgimpolgagkffaaSo9
namespace Go.Proofs.Ytgimpolgagkffaa
open Go.RowKit

/-- Those of which the question is true. -/
def yes (rest : Int) (L : List En) : List En := L.filter (fun x => par rest x.num)

/-- What asked has, i of the served ones asked. -/
structure As (w : World) (rest : Int) (aoS : Option Addr) (capS : Nat) (L2 : List En) (i : Nat) (v : Value) (G : List En) (wr : World) : Prop where
  served : NRow wr aoS capS L2
  out : wr.ownsRow w.heap.size 57 3 v G.length (flat G)
  is : G = yes rest (L2.take i)
  ap : ∀ k, v.ownBlock = some k → (Value.slice aoS L2.length capS).ownBlock ≠ some k
  bel : Below w.heap.size w wr

theorem As.low {w : World} {rest : Int} {aoS : Option Addr} {capS : Nat} {L2 : List En} {i : Nat} {v : Value} {G : List En} {wr w' : World} (h : As w rest aoS capS L2 i v G wr) (hb : Below wr.heap.size wr w') : As w rest aoS capS L2 i v G w' :=
  ⟨owns_below h.served hb, owns_below h.out hb, h.is, h.ap, h.bel.trans (hb.mono h.bel.size)⟩

/-- What asked tells. -/
structure Asked (w w' : World) (rest : Int) (L : List En) (v : Value) (G : List En) : Prop where
  out : w'.ownsRow w.heap.size 57 3 v G.length (flat G)
  is : ∀ x, x ∈ G ↔ x ∈ L ∧ par rest x.num = true
  len : G.length ≤ L.length
  bel : Below w.heap.size w w'

theorem As.done {w : World} {rest : Int} {aoS : Option Addr} {capS : Nat} {L L2 : List En} {v : Value} {G : List En} {wr : World} (h : As w rest aoS capS L2 L2.length v G wr) (hp : L2.Perm L) : Asked w wr rest L v G := by
  have hi := h.is
  rw [List.take_length] at hi
  refine ⟨h.out, fun x => ?_, ?_, h.bel⟩
  · rw [hi, yes, List.mem_filter, hp.mem_iff]
  · rw [hi, ← hp.length_eq]; exact List.length_filter_le _ _

theorem yes_take {rest : Int} {L : List En} {i : Nat} (h : i < L.length) : yes rest (L.take (i + 1)) = yes rest (L.take i) ++ (if par rest (nth L i).num = true then [nth L i] else []) := by
  have e : L.take (i + 1) = L.take i ++ [nth L i] := by rw [List.take_add_one, nth_get h]; rfl
  unfold yes
  rw [e, List.filter_append, List.filter_cons]
  split <;> rfl

theorem slice_of {w : World} {base : Nat} {e : TypeId} {size n : Nat} {v : Value} {xs : List Value} (h : w.ownsRow base e size v n xs) : ∃ ao cap, v = .slice ao n cap := by
  rcases h.2 with ⟨h0, h1⟩ | ⟨g, cap, cur, rfl, _⟩
  · exact ⟨none, 0, by rw [h0, h1]⟩
  · exact ⟨_, _, rfl⟩

set_option maxRecDepth 100000 in
set_option maxHeartbeats 4000000 in
theorem asked_any (rest : Int) (v : Value) (L : List En) (w : World) (h : w.ownsRow 0 57 3 v L.length (flat L)) (hm : L.length ≤ 256) :
    Calls Try.prog 18 #[v, .func (.func 19) #[.agg #[askF rest]] #[]] w fun e w' => ∃ v', e = .returned v' ∧ ∃ G, Asked w w' rest L v' G := by
  have cC := clone_any v L w h (by omega)
  unfold askF
  have e19 : ∀ args w, (callFunc 19 args).run Try.prog w = .ok (.enter 19 args) w := enter_of Try.func19 (by kernel_rfl) rfl
  go_enter Try.func18, Try.ntmps18
  go_wp2_with fail
  refine cC.mono ?_
  rintro e w1 ⟨ao1, n1, cap1, rfl, hC⟩
  clear cC h
  obtain rfl : n1 = L.length := by
    obtain ⟨a', c', e'⟩ := slice_of hC.row
    simp at e'; exact e'.2.1
  have cS := sort_any ao1 cap1 L w1 hC.row hm
  go_wp2_with fail
  refine cS.mono ?_
  rintro e w2 ⟨rfl, L2, hS⟩
  clear cS
  have hl2 := hS.perm.length_eq
  have ST : As w rest ao1 cap1 L2 0 (.slice none 0 0) [] w2 := ⟨hS.row, ⟨rfl, .inl ⟨rfl, rfl⟩⟩, rfl, (fun k e => by cases e), hC.bel.trans (hS.keep.below hC.bel.size (fun k e => hC.own k e))⟩
  have HP : Hid _ := hS.perm
  have HL : Hid _ := hl2
  have hap : ∀ k, (Value.slice ao1 L2.length cap1).ownBlock = some k → w.heap.size ≤ k := fun k e => hC.own k (by rw [← hl2]; exact e)
  clear hS hC
  rw [← hl2]
  rw [← hl2] at hm
  clear hl2
  obtain ⟨n, HN⟩ : ∃ n, Hid (L2.length = n) := ⟨_, rfl⟩
  rw [HN.out] at hm ⊢
  go_wp2_with fail
  go_loopw [4, 15] (fun v4 vi wr => ∃ (i : Nat) (G : List En), vi = .int .i64 (i : Int) ∧ i ≤ n ∧ G.length ≤ i ∧ As w rest ao1 cap1 L2 i v4 G wr) (fun _ vi _ => n - (intOf vi).toNat)
  case atStart => exact ⟨0, [], rfl, Nat.zero_le _, Nat.le_refl _, ST⟩
  case round =>
    clear ST
    obtain ⟨i, G, rfl, hi, hGi, hA⟩ := hrel
    by_cases hin : i < n
    · obtain ⟨b, cap', e1, hR⟩ := row_of hA.served (by have := HN.out; omega)
      have e2 : ao1 = some ⟨b, 0, none⟩ ∧ cap1 = cap' := by simpa using e1
      obtain ⟨rfl, rfl⟩ := e2
      clear e1
      obtain ⟨y0, y1, y2⟩ := hR.cells (i := i) (by have := HN.out; omega)
      have hle := hR.le
      rw [HN.out] at hle
      have TK : Hid _ := yes_take (rest := rest) (L := L2) (i := i) (by have := HN.out; omega)
      obtain ⟨y, hy⟩ : ∃ y, nth L2 i = y := ⟨_, rfl⟩
      rw [hy] at y0 y1 y2 TK
      clear hy
      have lb := hR.lt
      obtain ⟨yw, yn, yt⟩ := y
      obtain ⟨ao4, cap4, rfl⟩ := slice_of hA.out
      obtain ⟨w6, hw6, hb6, P6, hs6⟩ := one_new wr [.int .i64 yw, .int .i64 yn, .int .i64 (yt : Int)] 57
      have z0 := P6.cell (j := 0) rfl
      have z1 := P6.cell (j := 1) rfl
      have z2 := P6.cell (j := 2) rfl
      have c19 := isTrue_any rest ⟨yw, yn, yt⟩ w6
      unfold En.val askF at c19
      have HW : Hid _ := hw6
      clear hw6 hR
      go_wp2_with fail
      rw [HW.out]
      go_wp2_with fail
      refine c19.mono ?_
      rintro e w7 ⟨rfl, hb7⟩
      simp only
      have hA7 : As w rest (some ⟨b, 0, none⟩) cap1 L2 i (.slice ao4 G.length cap4) G w7 := (hA.low hb6).low hb7
      have P7 := P6.below hb7 P6.lt
      clear c19 z0 z1 z2 P6 hA y0 y1 y2
      have z0 := P7.cell (j := 0) rfl
      have z1 := P7.cell (j := 1) rfl
      have z2 := P7.cell (j := 2) rfl
      cases hr : par rest yn with
      | false =>
        have REL : Hid (As w rest (some ⟨b, 0, none⟩) cap1 L2 (i + 1) (.slice ao4 G.length cap4) G w7) := by
          refine ⟨hA7.served, hA7.out, ?_, hA7.ap, hA7.bel⟩
          have := TK.out
          simp only [hr, Bool.false_eq_true, if_false, List.append_nil] at this
          rw [this]; exact hA7.is
        clear hr hA7 TK
        go_wp2_with fail
        go_roundw
        case rel => exact ⟨i + 1, G, by go_num, hin, by omega, REL.out⟩
        case measure => simp [intOf]; omega
      | true =>
        have hfl : flat (G ++ [⟨yw, yn, yt⟩]) = flat G ++ [.int .i64 yw, .int .i64 yn, .int .i64 (yt : Int)] := by rw [flat_append]; rfl
        have hb8 : Below w7.heap.size w7 (w7.alloc (.cells #[.int .i64 yw, .int .i64 yn, .int .i64 (yt : Int)] 57)) := (Below.refl _ _).alloc (Nat.le_refl _) _
        have hA8 := hA7.low hb8
        have X8 := Blk.new w7 57 [.int .i64 yw, .int .i64 yn, .int .i64 (yt : Int)]
        have l7 : w.heap.size ≤ w7.heap.size := hA7.bel.size
        have hGis : G ++ [⟨yw, yn, yt⟩] = yes rest (L2.take (i + 1)) := by
          have := TK.out
          simp only [hr, if_true] at this
          rw [this, ← hA7.is]
        have HF : Hid _ := hfl
        have HG : Hid _ := hGis
        have HO8 : Hid _ := hA8.out
        have HA8 : Hid _ := hA8
        obtain ⟨i57, hi57, hz57, hs57, hb57⟩ := info57
        clear hr hA7 TK hfl hGis hA8
        obtain ⟨m, HM⟩ : ∃ m, Hid (G.length = m) := ⟨_, rfl⟩
        rw [HM.out] at HO8 hGi ⊢
        go_wp2_with (at_builtin; refine wpList_append_two (P := Try.prog) (by rfl) (.tmp 22) (.tmp 24) 49 (by rfl) w.heap.size 57 i57 _ 3 24 Try.underlying49 hi57 hz57 hs57 hb57 (by rfl) (by decide) (.slice ao4 m cap4) m (flat G) (by rfl) HO8.out ⟨w7.heap.size, 0, none⟩ 1 1 [.int .i64 yw, .int .i64 yn, .int .i64 (yt : Int)] (by rfl) (by rfl) (fun i u hu => by rw [Addr.add_lit, Nat.zero_add]; exact X8.cell hu) (by simp [Value.oneCell']) (by unfold maxLen; omega) (by omega) (by simp; omega) (by decide) ?_; intro v' w9 ho9 hg9 hn9)
        have REL : Hid (As w rest (some ⟨b, 0, none⟩) cap1 L2 (i + 1) v' (G ++ [⟨yw, yn, yt⟩]) w9) := by
          have hA8 := HA8.out
          have h9 : w.heap.size ≤ w9.heap.size := Nat.le_trans hA8.bel.size hg9.size
          refine ⟨owns_block hA8.served (fun k e => hg9.block k (owns_own hA8.served e).2 (fun e' => ?_)), ?_, HG.out, fun k e => ?_, hA8.bel.trans ⟨hg9.os, hg9.tape, hg9.output, hg9.size, fun k hk => hg9.block k (Nat.lt_of_lt_of_le hk hA8.bel.size) (fun e => ?_)⟩⟩
          · exact hA8.ap k (by rw [HM.out]; exact e'.symm) e
          · rw [HF.out, List.length_append, HM.out]; exact ho9
          · rcases hn9 with e1 | ⟨k1, e1, hk1⟩
            · exact hA8.ap k (by rw [HM.out, ← e1]; exact e)
            · intro e2
              have := (owns_own hA8.served e2).2
              rw [e1] at e; simp at e; omega
          · have := (owns_own HO8.out e.symm).1; omega
        have hlen : (G ++ [(⟨yw, yn, yt⟩ : En)]).length ≤ i + 1 := by rw [List.length_append, HM.out]; simp; omega
        clear ho9 hg9 hn9 HO8 HA8 X8 hb8
        go_wp2_with fail
        go_roundw
        case rel => exact ⟨i + 1, _, by go_num, hin, hlen, REL.out⟩
        case measure => simp [intOf]; omega
    · obtain ⟨ao4, cap4, rfl⟩ := slice_of hA.out
      have FF : Hid (∃ G', Asked w wr rest L (.slice ao4 G.length cap4) G') := ⟨G, (show As w rest ao1 cap1 L2 L2.length (.slice ao4 G.length cap4) G wr by rw [show L2.length = i by have := HN.out; omega]; exact hA).done HP.out⟩
      clear hA
      go_wp2_with fail
      go_ret
      exact ⟨_, rfl, FF.out⟩
end Go.Proofs.Ytgimpolgagkffaa
