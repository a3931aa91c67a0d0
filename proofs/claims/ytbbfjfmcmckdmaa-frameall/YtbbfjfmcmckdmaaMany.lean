/- append of a list of frames onto a list of one's own; what stays beside a Put and an append. No condition. -/
import Derived.Test.YtbbfjfmcmckdmaaFrame
namespace Go.Proofs.Ytbbfjfmcmckdmaa
open Go.RowKit

section
variable {P : Program} (w : World)
theorem run_append_vals (t tx ty e : TypeId) (i : TypeInfo) (z : Value) (ht : P.underlying t = some (.slice e)) (hi : P.info? e = some i) (hz : i.zero = some z) (hs1 : i.size = 1) (hzc : z.cells.size = 1) (hb1 : i.bytes ≤ 24)
    (B : Nat) (hB : B ≤ w.heap.size) {ao : Option Addr} {n cap : Nat} {vs : List Value} (hA : AppV e B w ao n cap vs) (x : Value) (m : Nat) (us : List Value) (hs : Src P 1 tx x m us w) (hm : 0 < m ∨ ∃ g, ao = some ⟨g, 0, none⟩) (hle : n + m ≤ 1099511627776) :
    ∃ g cap' w', (Builtin.append_ #[t, tx] ty #[.slice ao n cap, x]).run P w = .ok (.slice (some ⟨g, 0, none⟩) (n + m) cap') w' ∧ OwnV e B w' g (n + m) cap' (vs ++ us) ∧
      Below B w w' ∧ w.grownBy w' (Value.ownBlock (.slice ao n cap)) := by
  have hs' : Src P i.size tx x m us w := by rw [hs1]; exact hs
  have hul : us.length = m := by have := hs.newsLen; simpa using this
  by_cases hroom : n + m ≤ cap
  · obtain ⟨g, rfl, ho⟩ : ∃ g, ao = some ⟨g, 0, none⟩ ∧ OwnV e B w g n cap vs := by
      rcases hA with ⟨h0, h1, h, _⟩ | h
      · rcases hm with hm | ⟨g, hm⟩
        · omega
        · rw [h0] at hm; cases hm
      · exact h
    obtain ⟨cur, hg, hcs, htk⟩ := ho.row
    have hlen := ho.len
    have hr := run_append_room_row (P := P) w t tx ty e i ht hi g n cap cur hg x m us hs' hroom (by rw [hs1, hcs]; omega)
    rw [hs1, Nat.mul_one] at hr
    refine ⟨g, cap, _, hr, ⟨by simp [hlen, hul], hroom, ho.max, ho.new, _, setRow_heap w g cur _ e _ hg, ?_, ?_⟩, ⟨rfl, rfl, rfl, by simp, fun k hk => setRow_other w g k _ (by have := ho.new; omega)⟩,
      ⟨rfl, rfl, rfl, by simp, fun k _ hk => setRow_other w g k _ (fun e => hk (by simp [Value.ownBlock, e]))⟩⟩
    · simp only [List.size_toArray, List.length_append, List.length_take, List.length_drop, Array.length_toList]
      omega
    · rw [htk]
      have hL : (vs ++ us).length = n + m := by simp [hlen, hul]
      rw [← hL]
      exact List.take_left
  · have hlen : vs.length = n := by
      rcases hA with ⟨_, h1, _, h2⟩ | ⟨g, _, ho⟩
      · subst h1 h2; rfl
      · exact ho.len
    have hold : (Builtin.firstCells i.size n (.slice ao n cap)).run P w.drew = .ok vs.toArray w.drew := by
      rcases hA with ⟨rfl, rfl, rfl, rfl⟩ | ⟨g, rfl, ho⟩
      · exact run_firstCells_none w.drew i.size 0 0 0
      · refine run_firstCells_some w.drew i.size n ⟨g, 0, none⟩ n cap vs (by rw [hs1]; simpa using hlen) (fun j u hu => ?_)
        rw [Addr.add_lit, Nat.zero_add]
        simpa using ho.cell hu
    have hg : cap < n + m := by omega
    have hmul : (n + m) * i.bytes ≤ (n + m) * 24 := Nat.mul_le_mul_left _ hb1
    have hrun := run_append_grow_src (P := P) w t tx ty e i z ht hi hz ao n cap vs hold x m us hs' hg (by omega) (growslice_fits hg (by omega))
    have hge := grownCap_ge w (n + m) cap e
    have hcm := grownCap_le_maxLen w (n + m) cap e (by unfold maxLen; omega)
    refine ⟨w.heap.size, grownCap w (n + m) cap e, _, hrun, ⟨by simp [hlen, hul], hge, hcm, hB, _, heap_alloc_new w.drew _, ?_, ?_⟩, ⟨rfl, rfl, rfl, by simp, fun k hk => Below.heap_alloc w.drew _ k (Nat.lt_of_lt_of_le hk hB)⟩,
      ⟨rfl, rfl, rfl, by simp, fun k hk _ => Below.heap_alloc w.drew _ k hk⟩⟩
    · rw [Array.size_append, List.size_toArray, List.length_append, size_zeroCells, hzc, hlen, hul]
      omega
    · have hL : (vs ++ us).length = n + m := by simp [hlen, hul]
      rw [Array.toList_append, List.toList_toArray, ← hL]
      exact List.take_left

/-- A list of one's own, as a source. -/
theorem AppV.src {e tx e' : TypeId} {B : Nat} (hk : P.underlying tx = some (.slice e')) {ao : Option Addr} {n cap : Nat} {vs : List Value} (h : AppV e B w ao n cap vs) (h1 : ∀ v ∈ vs, v.oneCell' = true) : Src P 1 tx (.slice ao n cap) n vs w := by
  rcases h with ⟨rfl, rfl, rfl, rfl⟩ | ⟨g, rfl, ho⟩
  · exact Src.ofNil w hk 0
  · exact Src.ofSlice w hk ⟨g, 0, none⟩ n cap _ (by simpa using ho.len) (fun j u hu => by rw [Addr.add_lit, Nat.zero_add]; exact ho.cell hu) h1

theorem wpList_append_vals {ops : Array Oper} {rest : List Oper} {o : Oper} {a : Act} {Q : Exit → Act → World → Prop} (hgd : o.guard = none) (s x : Operand) (t tx : TypeId)
    (ho : o.op = .call { callee := .builtin .append, args := #[s, x], argTypes := #[t, tx] })
    (e : TypeId) (i : TypeInfo) (z : Value) (ht : P.underlying t = some (.slice e)) (htx : P.underlying tx = some (.slice e)) (hi : P.info? e = some i) (hz : i.zero = some z) (hs1 : i.size = 1) (hzc : z.cells.size = 1) (hb1 : i.bytes ≤ 24)
    (B : Nat) (hB : B ≤ w.heap.size) {ao : Option Addr} {n cap : Nat} {vs : List Value} (hv : a.eval s = .slice ao n cap) (hA : AppV e B w ao n cap vs)
    {B' : Nat} {bo : Option Addr} {m c : Nat} {us : List Value} (hx : a.eval x = .slice bo m c) (hU : AppV e B' w bo m c us) (h1 : ∀ v ∈ us, v.oneCell' = true) (hle : n + m ≤ 1099511627776)
    (hK : ∀ ao' cap' w', AppV e B w' ao' (n + m) cap' (vs ++ us) → Below B w w' → w.grownBy w' (Value.ownBlock (.slice ao n cap)) → wpList P ops Q rest (a.put o.dst (.slice ao' (n + m) cap')) w') : wpList P ops Q (o :: rest) a w := by
  by_cases hm : 0 < m ∨ ∃ g, ao = some ⟨g, 0, none⟩
  · refine wpList_plain hgd fun K hK' => ?_
    obtain ⟨g, cap', w', hrun, h1, h2, h3⟩ := run_append_vals (P := P) w t tx o.type e i z ht hi hz hs1 hzc hb1 B hB hA _ m us (hU.src w htx h1) hm hle
    unfold Oper.wp
    simp [execOp, ho, resolve, invoke, builtin, hv, hx, hrun, Result.andThen]
    exact hK' _ _ (hK _ cap' w' (.inr ⟨g, rfl, h1⟩) h2 h3)
  · have hm0 : m = 0 := by
      cases m with
      | zero => rfl
      | succ m => exact absurd (.inl (Nat.succ_pos _)) hm
    subst hm0
    have hul : us = [] := by
      rcases hU with ⟨_, _, _, h⟩ | ⟨g, _, h⟩
      · exact h
      · exact List.eq_nil_of_length_eq_zero h.len
    subst hul
    rcases hA with ⟨rfl, rfl, rfl, rfl⟩ | ⟨g, h, _⟩
    · exact wpList_append_none w hgd s x t tx ho e e i ht htx hi hv hx (hK none 0 w (.inl ⟨rfl, rfl, rfl, rfl⟩) (Below.refl _ _) (grown_refl _ _))
    · exact absurd (.inr ⟨g, h⟩) hm
end

theorem FV.one {w : World} {L : Nat} {vs : List Value} {fs : List (List UInt8)} (h : FV w L vs fs) : ∀ v ∈ vs, v.oneCell' = true := by
  intro v hv
  obtain ⟨j, hj⟩ := List.getElem?_of_mem hv
  have hl := (List.getElem?_eq_some_iff.1 hj).1
  obtain ⟨ao, n, cap, h1, _⟩ := h.2 j _ (List.getElem?_eq_getElem (by rw [← h.1]; exact hl))
  rw [hj] at h1
  simp at h1
  subst h1
  rfl
theorem FV.app {w : World} {L : Nat} {vs us : List Value} {fs gs : List (List UInt8)} (h : FV w L vs fs) (k : FV w L us gs) : FV w L (vs ++ us) (fs ++ gs) :=
  ⟨by simp [h.1, k.1], fun j l hl => by
    by_cases hj : j < fs.length
    · rw [List.getElem?_append_left hj] at hl
      obtain ⟨ao, n, cap, h1, h2⟩ := h.2 j l hl
      exact ⟨ao, n, cap, by rw [List.getElem?_append_left (by rw [h.1]; exact hj)]; exact h1, h2⟩
    · rw [List.getElem?_append_right (by omega)] at hl
      obtain ⟨ao, n, cap, h1, h2⟩ := k.2 _ l hl
      exact ⟨ao, n, cap, by rw [List.getElem?_append_right (by rw [h.1]; omega), h.1]; exact h1, h2⟩⟩
theorem NotIn.app {q : Option Nat} {vs us : List Value} (h : NotIn q vs) (k : NotIn q us) : NotIn q (vs ++ us) := fun j a n c hj => by
  by_cases hl : j < vs.length
  · rw [List.getElem?_append_left hl] at hj; exact h j a n c hj
  · rw [List.getElem?_append_right (by omega)] at hj; exact k _ a n c hj
theorem FV.put {w w' : World} {B : Nat} {vs : List Value} {fs : List (List UInt8)} {g : Nat} {q : Option Nat} (h : FV w B vs fs) (hg : g < B) (hN : NotIn q vs) (hk : Keep w w' (fun k => k = g ∨ q = some k)) : FV w' B vs fs :=
  ⟨h.1, fun j l hl => by
    obtain ⟨ao, n, cap, h1, h2⟩ := h.2 j l hl
    refine ⟨ao, n, cap, h1, ?_⟩
    obtain ⟨h3, h4⟩ := h2
    rcases h4 with ⟨rfl, rfl, rfl⟩ | ⟨b, rfl, ho⟩
    · obtain rfl : l = [] := List.eq_nil_of_length_eq_zero h3.len
      exact ⟨Rd.none' w' none, .inl ⟨rfl, rfl, rfl⟩⟩
    · refine (ho.carry (hk.block b ho.lt (fun e => ?_))).res
      have hb := ho.new
      rcases e with e | e
      · omega
      · exact hN j _ _ _ h1 e⟩
theorem FR.neV {w : World} {g b B : Nat} {q : Option Nat} {s : RS} {gl n c : Nat} {vs : List Value} (h : FR w g q s) (hq : q = some b) (ho : OwnV 28 B w gl n c vs) : gl ≠ b := by
  obtain ⟨_, _, _, _, h1⟩ := h.row
  rcases h1 with ⟨e, _⟩ | ⟨b', e, _, ho'⟩
  · rw [e] at hq; cases hq
  · rw [e] at hq
    obtain rfl : b' = b := by simpa using hq
    exact fun e => ho'.ne ho e.symm
theorem AppV.put {w w' : World} {B : Nat} {a : Option Addr} {n c : Nat} {vs : List Value} {g : Nat} {q : Option Nat} {s : RS} (h : AppV 28 B w a n c vs) (hg : g < B) (hF : FR w g q s) (hk : Keep w w' (fun k => k = g ∨ q = some k)) : AppV 28 B w' a n c vs :=
  h.imp id fun ⟨gl, h1, ho⟩ => ⟨gl, h1, ho.carry (hk.block gl ho.lt (fun e => by
    have := ho.new
    rcases e with e | e
    · omega
    · exact hF.neV e ho rfl))⟩
theorem FR.grown {w w' : World} {B : Nat} {a : Option Addr} {n c : Nat} {vs : List Value} {g : Nat} {q : Option Nat} {s : RS} (hF : FR w g q s) (h : AppV 28 B w a n c vs) (hg : g < B) (hk : w.grownBy w' (Value.ownBlock (.slice a n c))) : FR w' g q s := by
  rcases h with ⟨rfl, rfl, rfl, rfl⟩ | ⟨gl, rfl, ho⟩
  · exact hF.carry (hk.block g hF.lt (by simp [Value.ownBlock])) (fun b _ hl => hk.block b hl (by simp [Value.ownBlock]))
  · have := ho.new
    refine hF.carry (hk.block g hF.lt (by simp [Value.ownBlock]; omega)) (fun b hb hl => hk.block b hl ?_)
    have := hF.neV hb ho
    simp [Value.ownBlock]
    omega
theorem FV.grown {w w' : World} {B L : Nat} {a : Option Addr} {n c : Nat} {vs us : List Value} {fs : List (List UInt8)} (hF : FV w L us fs) (h : AppV 28 B w a n c vs) (hk : w.grownBy w' (Value.ownBlock (.slice a n c))) : FV w' L us fs :=
  hF.carry fun k _ _ _ ho => hk.block k ho.lt (ho.neApp h)
theorem NotIn.later {w : World} {B : Nat} {vs : List Value} {fs : List (List UInt8)} {q q' : Option Nat} (h : NotIn q vs) (hF : FV w B vs fs) (hn : ∀ b, q' = some b → q = some b ∨ w.heap.size ≤ b) : NotIn q' vs := fun j a n c hj e => by
  rcases hn _ e with h1 | h1
  · exact h j a n c hj h1
  · exact hF.notIn (q := some a.block) (fun b hb => .inr (by simp at hb; omega)) j a n c hj rfl
end Go.Proofs.Ytbbfjfmcmckdmaa
