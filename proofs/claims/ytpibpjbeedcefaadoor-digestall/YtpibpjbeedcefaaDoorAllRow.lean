/- DigestAll returns true for every input: the sum of any parts, and the first half of one's, are the document's; the listed table of round words is as the program's text lays it (the card ties it). No other condition. -/
import Derived.Test.YtpibpjbeedcefaaDoorRows
import Derived.WalkKit
import Derived.ProofKit
import Derived.OpenShut
import Derived.ShutString
import Derived.ChangeOld
import Derived.Below
import Derived.Test.YtpibpjbeedcefaaDoorAll
import Derived.Deep.Slices
import Derived.Test.YtpibpjbeedcefaaDoorOpen
import Derived.Test.YtpibpjbeedcefaaDoorCards
import Derived.Test.YtpibpjbeedcefaaDoorTie
import Derived.SevenTiedAt
namespace Go.Proofs.YtpibpjbeedcefaaDoor.digestAll
open Go.ChangeShapes Go.WideShapes Go.ChangeAt Go.RowKit
open Go.ChangeMaps (open_string shut_string)
set_option linter.unusedVariables false

theorem own : ownKnob Tryd.prog.godebug = none := by kernel_rfl
theorem laidOut : laidOutB Tryd.prog = true := by kernel_rfl

def IsRow (k : IntKind) (w : World) (a : Option Addr) (len cap : Nat) (zs : List Int) : Prop :=
  (a = none ∧ len = 0 ∧ cap = 0 ∧ zs = []) ∨
  ∃ x, a = some x ∧ len ≤ cap ∧ cap ≤ maxLen ∧ zs.length = cap ∧ (∀ i, i < zs.length → w.cell? (x.add i) = some (.int k (zs.getD i 0))) ∧ ∀ n ∈ zs, (Lit.int k n).wf = true

theorem walk (a0 : Option Addr) (len0 cap0 : Nat) (ls : List (List UInt8)) (a1 : Option Addr) (len1 cap1 : Nat) (z1 : List Int) (w : World) (w0 : Parts w w.heap.size a0 len0 cap0 ls) (w1 : IsRow .u8 w a1 len1 cap1 z1) (hK : Keys w) :
    Calls Tryd.prog 3 #[.slice a0 len0 cap0, .slice a1 len1 cap1] w fun e w' => e = .returned (.bool true) ∧ Below w.heap.size w w' := by
  obtain ⟨bs, hb⟩ := rd_of_row w1
  exact all_walk a0 len0 cap0 ls a1 len1 cap1 bs w w0 hb hK

set_option maxRecDepth 100000 in
theorem lifted (os : Os) (started : os.Started) (H : Type) (enc : TypeId × Value → H) :
    ReturnsInHanded {} Tryd.checked os 3 .any (fun w args => (Rows.digestAllSpec.pre enc Tryd.prog Tryd.f3 [] false w args ∧ laidMetH Tryd.prog laid w) ∧ sizedMet enc Tryd.prog Tryd.f3 (OpenSpec.ofChange Rows.digestAllSpec) false w args) (Rows.digestAllSpec.post enc Tryd.prog Tryd.f3 false true false false) := by
  refine returnsInHanded_of_change_and (C := Tryd.checked) (X := fun w _ => laidMetH Tryd.prog laid w) (fun _ _ _ hh h => h.of_heap hh) own started (by kernel_rfl) Tryd.func3
    (ChangeSpec.witness_shaped (enc := enc) (C := Tryd.checked) (os := os) (X := fun w _ => laidMetH Tryd.prog laid w) false (World.doorLaid Tryd.prog 14 os) #[.slice none 0 0, .slice none 0 0] 8 rfl (World.shaped_of_RefB (by kernel_rfl) (by kernel_rfl)) (by kernel_rfl) (by kernel_rfl) (by kernel_rfl) (door_met os _)) ?_
  intro W base args ds gs before hval0 hW _ _ hL _
  have hval : ∀ (j : Nat) t v, Tryd.f3.params[j]? = some t → args[j]? = some v → Value.okWide Tryd.prog W .any base t v := hval0
  have hW' := hW
  obtain ⟨p, q, hA0, hV, rfl, hfz, hnd⟩ := hW
  have hA : DataW.TrodAll enc Tryd.prog W 0 (fun _ => true) true Tryd.f3.params.toList args.toList ds p := hA0
  rw [Tryd.params3] at hA hval
  obtain ⟨v0, vs0, d0, ds0, p0, q0, hargs, rfl, rfl, h0, r0⟩ := trodAll_cons hA
  obtain ⟨v1, vs1, d1, ds1, p1, q1, rfl, rfl, rfl, h1, r1⟩ := trodAll_cons r0
  obtain ⟨rfl, rfl, rfl⟩ := trodAll_nil r1
  obtain rfl : args = #[v0, v1] := by cases args; simp_all
  obtain ⟨rfl, rfl⟩ := trodVars_none hV
  obtain ⟨a0, len0, cap0, rfl⟩ := okWide_slice Tryd.underlying22 (hval 0 22 v0 rfl rfl)
  have k0 := h0
  have lt0 : ∀ x ∈ p0, x.block < W.heap.size := by obtain ⟨m, hm⟩ := k0; exact DataW.trod_lt m _ _ _ hm
  obtain ⟨ls, w0⟩ : ∃ ls, Parts W W.heap.size a0 len0 cap0 ls := by
    obtain ⟨fuel, hf⟩ := h0
    rcases Go.Deep.open_slice1 Tryd.underlying22 (by kernel_rfl) hf with ⟨hcs, _⟩ | ⟨a, l, c, m, n, V, D, Pl, hcs, _, hl, hm, hmm, _, hx⟩
    · simp [Value.cells] at hcs
      obtain ⟨rfl, rfl, rfl⟩ := hcs
      exact ⟨[], parts_nil _ _⟩
    · simp [Value.cells] at hcs
      obtain ⟨rfl, rfl, rfl⟩ := hcs
      have hmc : len0 ≤ m := by rw [hmm]; split <;> omega
      obtain ⟨f, hff⟩ := Go.Deep.choose_lt (α := Option Addr × Nat × Nat × List UInt8) (n := len0) (p := fun i t => W.cell? (a.add i) = some (.slice t.1 t.2.1 t.2.2.1) ∧ Rd W t.1 t.2.1 t.2.2.1 t.2.2.2) (fun i hi => by
        obtain ⟨hc, htr⟩ := hx i (by omega)
        rcases open_ints Tryd.underlying23 Tryd.underlying5 (by kernel_rfl) htr with ⟨hcs, _⟩ | ⟨x, l', c', zs, hcs, _, hl', hm', hz', _, hcell, hwz⟩
        · simp at hcs
          exact ⟨(none, 0, 0, []), by rw [hc, hcs], Rd.none' W none⟩
        · simp at hcs
          obtain ⟨bs, hbs⟩ := rd_of_row (w := W) (a := some x) (len := l') (cap := c') (zs := zs) (.inr ⟨x, rfl, hl', hm', by simpa using hz', hcell, hwz⟩)
          exact ⟨(some x, l', c', bs), by rw [hc, hcs], hbs⟩)
      refine ⟨(List.range len0).map fun i => (f i).2.2.2, ⟨by simp, hl, hm, fun i l hil => ?_⟩⟩
      by_cases hi : i < len0
      · rw [List.getElem?_map, List.getElem?_range hi] at hil
        simp only [Option.map_some, Option.some.injEq] at hil
        subst hil
        have h2 := World.cell?_spot (hff 0 (by omega)).1
        obtain ⟨b, off, spot⟩ := a
        have h3 : spot = none := by simpa [Addr.add] using h2
        subst h3
        obtain ⟨hc, hr⟩ := hff i hi
        rw [Addr.add_lit] at hc
        exact ⟨b, off, _, rfl, World.block_lt_of_cell? W _ hc, hc, part_of hr hr.lowSize⟩
      · rw [List.getElem?_eq_none (by simp; omega)] at hil
        cases hil
  obtain ⟨a1, len1, cap1, rfl⟩ := okWide_slice Tryd.underlying23 (hval 1 23 v1 rfl rfl)
  have k1 := h1
  have lt1 : ∀ x ∈ p1, x.block < W.heap.size := by obtain ⟨m, hm⟩ := k1; exact DataW.trod_lt m _ _ _ hm
  obtain ⟨z1, w1⟩ : ∃ zs, IsRow .u8 W a1 len1 cap1 zs := by
    obtain ⟨fuel, hf⟩ := h1
    rcases open_ints Tryd.underlying23 Tryd.underlying5 (by kernel_rfl) hf with ⟨hcs, _⟩ | ⟨x, l, c, zs, hcs, _, hl, hm, hz, _, hcell, hwz⟩
    · simp [Value.cells] at hcs
      obtain ⟨rfl, rfl, rfl⟩ := hcs
      exact ⟨[], .inl ⟨rfl, rfl, rfl, rfl⟩⟩
    · simp [Value.cells] at hcs
      obtain ⟨rfl, rfl, rfl⟩ := hcs
      exact ⟨zs, .inr ⟨_, rfl, hl, hm, by simpa using hz, hcell, hwz⟩⟩
  clear hA0 hval0
  refine (walk a0 len0 cap0 ls a1 len1 cap1 z1 W w0 w1 (keys_of_laid hL)).mono fun e W' ⟨he, bel⟩ => ?_
  subst he
  exact ⟨_, rfl, _, _, _, [], _, [], hW', trodAll_mk1 (shut_bool Tryd.underlying4 _), (trodAll_cons_mk (Below.trod laidOut (by kernel_rfl) (of_decide_eq_true (by kernel_rfl)) k0 bel lt0) (trodAll_cons_mk (Below.trod laidOut (by kernel_rfl) (of_decide_eq_true (by kernel_rfl)) k1 bel lt1) trodAll_mk0)), rfl, bel.frame _, fun h => by cases h⟩

theorem over : Rows.digestAllRow.holds Tryd.pinned (OpenSpec.ofChange Rows.digestAllSpec) :=
  OpenClaim.holds_of_wide 3 Tryd.f3 rfl rfl rfl rfl rfl rfl rfl ⟨rfl, rfl, rfl, rfl, rfl⟩ rfl rfl rfl rfl rfl (by kernel_rfl) Tryd.func3 (by kernel_rfl)
    (of_decide_eq_true (by kernel_rfl)) (by unfold Func.isWrapper; first | (rw [if_pos (by decide +kernel)]; kernel_rfl) | (rw [if_neg (by decide +kernel)]; exact ⟨rfl, rfl⟩))
    (fun os started H enc _ => lifted os started H enc)

end Go.Proofs.YtpibpjbeedcefaaDoor.digestAll

namespace Go.Proofs.YtpibpjbeedcefaaDoor
theorem digestAll_row : Rows.DigestAllSaid := digestAll.over

theorem digestAll_holds : Rows.DigestAllCardSaid :=
  Claim7.holds_tied_plain_at .later [] [.data] true (true, "d7db571ab0b86cc4fe67695cea8b476c36154871bba3faa02d8eea7dcc82f675") false
    digestAll_row (fun _ h => by cases h) (by kernel_rfl) (fun _ h => by cases h) digestAll_row_tie rfl ⟨rfl, rfl⟩ (by kernel_rfl) rfl
    (fun f fn hf hfn => by
      obtain rfl : f = 3 := Option.some.inj ((show Tryd.prog.funcNamed "touchstone/touchstonelaw2.DigestAll" = some 3 by kernel_rfl).symm.trans hf) |>.symm
      obtain rfl : fn = Tryd.f3 := (Option.some.inj (Tryd.func3.symm.trans hfn)).symm
      exact ⟨by kernel_rfl, fun j t ht => by
        rw [Tryd.params3] at ht
        have hm := Array.mem_of_getElem? ht
        have hall : ([22, 23].all fun u => !Tryd.prog.wantsStandIn u) = true := by kernel_rfl
        have hm' : t ∈ [22, 23] := by simpa using hm
        exact (show Tryd.prog.wantsStandIn t = false by simpa using List.all_eq_true.1 hall t hm')⟩)
    (by kernel_rfl)
end Go.Proofs.YtpibpjbeedcefaaDoor
