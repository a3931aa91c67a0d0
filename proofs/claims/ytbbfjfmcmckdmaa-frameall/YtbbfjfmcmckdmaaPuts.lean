/- The walk of (*Reader).Put: what a Reader that bytes are put to tells, and what it has come to. No condition but that what waits and what comes are no longer than 2^30 together. -/
import Derived.Test.YtbbfjfmcmckdmaaPut
import Derived.BigQuiet
import Derived.Deep.QuietTactic
namespace Go.Proofs.Ytbbfjfmcmckdmaa
open Go.RowKit

section
variable {P : Program} (w : World)
/-- append of bytes onto what waits. -/
theorem wpList_append_wt {ops : Array Oper} {rest : List Oper} {o : Oper} {a : Act} {Q : Exit → Act → World → Prop} (hgd : o.guard = none) (s x : Operand) (t tx : TypeId)
    (ho : o.op = .call { callee := .builtin .append, args := #[s, x], argTypes := #[t, tx] })
    (i : TypeInfo) (ht : P.underlying t = some (.slice 5)) (htx : P.underlying tx = some (.slice 5)) (hi : P.info? 5 = some i) (hz : i.zero = some (.int .u8 0)) (hs1 : i.size = 1) (hb1 : i.bytes = 1)
    {q : Option Nat} {ao : Option Addr} {n cap : Nat} {ws : List UInt8} (hv : a.eval s = .slice ao n cap) (hW : Wt w q ao n cap ws)
    {bo : Option Addr} {m c : Nat} {bs : List UInt8} (hx : a.eval x = .slice bo m c) (hR : Rd w bo m c bs) (hle : n + m ≤ 1073741824)
    (hK : ∀ q1 ao1 cap1 w1, Wt w1 q1 ao1 (n + m) cap1 (ws ++ bs) → Keep w w1 (fun k => q = some k) → (∀ b, q1 = some b → q = some b ∨ w.heap.size ≤ b) → wpList P ops Q rest (a.put o.dst (.slice ao1 (n + m) cap1)) w1) : wpList P ops Q (o :: rest) a w := by
  rcases hW with ⟨rfl, rfl, rfl, rfl, rfl⟩ | ⟨q, rfl, rfl, hO⟩
  · by_cases hm : m = 0
    · subst hm
      obtain rfl : bs = [] := List.eq_nil_of_length_eq_zero hR.len
      refine wpList_append_none w hgd s x t tx ho 5 5 i ht htx hi hv hx (hK none none 0 w (.inl ⟨rfl, rfl, rfl, rfl, rfl⟩) (Keep.refl _ _) (fun b hb => .inl hb))
    · refine wpList_append_bytes w hgd s x t tx ho 5 i ht hi hz hs1 hb1 w.heap.size (Nat.le_refl _) hv (App.nil 5 _ _) bs hx (hR.src w htx) (.inl (by omega)) (by omega) (fun g cap' w' h1 h2 h3 h4 => ?_)
      exact hK (some g) _ cap' w' (.inr ⟨g, rfl, rfl, h1.mono (Nat.zero_le _)⟩) (Keep.of_below h2 (Nat.le_refl _)) (fun b hb => .inr (by have := h1.new; simp at hb; omega))
  · refine wpList_append_bytes w hgd s x t tx ho 5 i ht hi hz hs1 hb1 0 (Nat.zero_le _) hv hO.app bs hx (hR.src w htx) (.inr ⟨q, rfl, hO⟩) (by omega) (fun g cap' w' h1 h2 h3 h4 => ?_)
    refine hK (some g) _ cap' w' (.inr ⟨g, rfl, rfl, h1⟩) (Keep.of_grown h3 (fun k hk => ?_)) (fun b hb => ?_)
    · simpa [Value.ownBlock] using hk
    · rcases h4 with h4 | h4
      · exact .inr (by simp at hb; omega)
      · simp at h4
        exact .inl (by rw [h4]; exact hb)
end

theorem AppV.mono {e : TypeId} {B B' : Nat} {w : World} {ao : Option Addr} {n cap : Nat} {vs : List Value} (h : AppV e B w ao n cap vs) (hB : B' ≤ B) : AppV e B' w ao n cap vs :=
  h.imp id fun ⟨g, h1, h2⟩ => ⟨g, h1, h2.len, h2.le, h2.max, Nat.le_trans hB h2.new, h2.row⟩

/-- What Put leaves. -/
structure PutDone (w w' : World) (g : Nat) (q : Option Nat) (s : RS) (bs : List UInt8) (a : Option Addr) (k c : Nat) (vs : List Value) (q' : Option Nat) : Prop where
  num : k = (putF s bs).length
  own : AppV 28 w.heap.size w' a k c vs
  fv : FV w' w.heap.size vs (putF s bs)
  not : NotIn q' vs
  fr : FR w' g q' (putS s bs)
  new : ∀ b, q' = some b → q = some b ∨ w.heap.size ≤ b
  keep : Keep w w' (fun k => k = g ∨ q = some k)

set_option maxRecDepth 100000 in
set_option maxHeartbeats 1000000 in
theorem put_spoilt (g : Nat) (q : Option Nat) (s : RS) (bo : Option Addr) (m c : Nat) (bs : List UInt8) (w : World) (h : FR w g q s) (h0 : s.2 ≠ 0) :
    Calls Try.prog 12 #[.pointer (some ⟨g, 0, none⟩), .slice bo m c] w fun e w' => ∃ a k c, e = .returned (.tuple #[.slice a k c, .int .i64 (putE s bs : Int)]) ∧ ∃ vs q', PutDone w w' g q s bs a k c vs q' := by
  have hE : putE s bs = s.2 := by unfold putE; rw [if_neg h0]
  have hF : putF s bs = [] := by unfold putF; rw [if_neg h0]
  have hS : putS s bs = s := by unfold putS; rw [if_neg h0]
  rw [hE]
  have HF : Hid _ := hF
  have HS : Hid _ := hS
  clear hE hF hS
  obtain ⟨ao, n, cap, hB, _⟩ := h.row
  have hc0 := hB.cell (j := 0) rfl
  have hc2 := hB.cell (j := 2) rfl
  have hd : ((s.2 : Int) == 0) = false := by rw [beq_eq_false_iff_ne]; omega
  go_enter Try.func12, Try.ntmps12
  go_wp2_with fail
  go_quiet (fail)
  go_wp2_with fail
  go_ret2
  refine ⟨none, 0, 0, rfl, [], q, by rw [HF.out]; rfl, .inl ⟨rfl, rfl, rfl, rfl⟩, by rw [HF.out]; exact FV.nil _ _, fun j a n c hj => by simp at hj, ?_, fun b hb => .inl hb, (Keep.refl w _).drewN _⟩
  rw [HS.out]
  exact h.carry rfl (fun _ _ _ => rfl)

theorem put_facts {ws bs : List UInt8} (hl : ws.length + bs.length ≤ 1073741824) : (rd (ws ++ bs)).2.1.length ≤ 1073741824 := by
  have := (rd_rest (ws ++ bs)).2
  rw [List.length_append] at this
  omega

set_option maxRecDepth 100000 in
set_option maxHeartbeats 2000000 in
theorem put_good (g : Nat) (q : Option Nat) (ws : List UInt8) (bo : Option Addr) (m c : Nat) (bs : List UInt8) (w : World) (h : FR w g q (ws, 0)) (hb : Rd w bo m c bs) (hl : ws.length + m ≤ 1073741824) :
    Calls Try.prog 12 #[.pointer (some ⟨g, 0, none⟩), .slice bo m c] w fun e w' => ∃ a k c, e = .returned (.tuple #[.slice a k c, .int .i64 (putE (ws, 0) bs : Int)]) ∧ ∃ vs q', PutDone w w' g q (ws, 0) bs a k c vs q' := by
  obtain ⟨i5, hi, hz0, hz1, hz2⟩ := info_parts Try.info5
  have hmf : ∀ (fn : Fn) (first cap : Array Value) (w : World), (Instr.makeFunc fn first cap).run Try.prog w = .ok (.func fn first cap) w := fun _ _ _ _ => rfl
  obtain ⟨ao, n, cap, hB, hW⟩ := h.row
  have hne := h.ne
  have hg := hB.lt
  have hc0 := hB.cell (j := 0) rfl
  have hc1 := hB.cell (j := 1) rfl
  have hc2 := hB.cell (j := 2) rfl
  have hnl := hW.rd.len
  simp only at hnl hW hB
  have HLB : Hid _ := hb.len
  obtain ⟨fs, rs, er, hr⟩ : ∃ fs rs er, rd (ws ++ bs) = (fs, rs, er) := ⟨_, _, _, rfl⟩
  have hlr := put_facts (ws := ws) (bs := bs) (by rw [HLB.out]; exact hl)
  have her := rd_err (ws ++ bs)
  rw [hr] at hlr her
  simp only at hlr her
  rw [hnl] at hl
  clear hnl h
  have HF : Hid (putF (ws, 0) bs = fs) := by unfold Hid putF; rw [if_pos rfl, hr]
  have HE : Hid (putE (ws, 0) bs = if er = 2 then 0 else er) := by unfold Hid putE; rw [if_pos rfl, hr]
  have HS : Hid (putS (ws, 0) bs = if er = 2 then (rs, 0) else ([], er)) := by unfold Hid putS; rw [if_pos rfl, hr]
  go_enter Try.func12, Try.ntmps12
  go_wp2_with (at_builtin; refine wpList_append_wt (P := Try.prog) _ (by rfl) (.tmp 28) (.tmp 29) 28 28 (by rfl) i5 Try.underlying28 Try.underlying28 hi hz0 hz1 hz2 (by rfl) hW (by rfl) hb hl ?_; intro q1 ao1 cap1 w1 hW1 hK1 hq1; have hB1 := hB.carry (hK1.block g hg hne); have hd1 := hB1.cell (j := 1) rfl; have hf1 := hB1.frozen 1)
  have hq1g : q1 ≠ some g := fun e => by
    rcases hq1 g e with h | h
    · exact hne h
    · omega
  have hB2 : Blk (w1.setCell ⟨g, 1, none⟩ (.slice ao1 (n + m) cap1)) g 48 (rcells ao1 (n + m) cap1 0) := hB1.set 1 _
  have hW2 : Wt (w1.setCell ⟨g, 1, none⟩ (.slice ao1 (n + m) cap1)) q1 ao1 (n + m) cap1 (ws ++ bs) := hW1.carry (fun b hb _ => Below.heap_setCell w1 _ _ b (fun e => hq1g (by rw [hb, e])))
  have hK2 : Keep w (w1.setCell ⟨g, 1, none⟩ (.slice ao1 (n + m) cap1)) (fun k => k = g ∨ q = some k) := Keep.setCell (S := fun k => k = g ∨ q = some k) (g := g) (hK1.mono (fun i e => Or.inr e)) (fun _ => Or.inl rfl) 1 _
  generalize w1.setCell ⟨g, 1, none⟩ (.slice ao1 (n + m) cap1) = w2 at hB2 hW2 hK2 ⊢
  clear hW1 hK1 hB1 hd1 hf1 hB hc0 hc1 hc2 hW hb
  refine (until_at hB2 hW2.rd (hW2.wa hq1g) hl hr).mono ?_
  rintro e w3 ⟨a, k, cc, rfl, vs, ao2, n2, cap2, hU⟩
  have hs2 := hK2.size
  have hs3 := hU.keep.size
  have hK3 : Keep w w3 (fun k => k = g ∨ q = some k) := hK2.trans hU.keep (fun i _ e => .inl e)
  by_cases h2 : er = 2
  · subst h2
    rw [if_pos rfl] at HS HE
    by_cases h0 : fs = []
    · subst h0
      obtain rfl : k = 0 := hU.num
      obtain rfl := rd_none hr
      obtain ⟨rfl, rfl, rfl⟩ := hU.same rfl
      go_wp2_with fail
      go_ret2
      rw [HE.out]
      refine ⟨a, 0, cc, rfl, vs, q1, by rw [HF.out]; rfl, hU.own.mono hs2, ?_, ?_, ?_, hq1, hK3⟩
      · rw [HF.out]; exact hU.fv.low hs2
      · have : vs = [] := List.eq_nil_of_length_eq_zero hU.fv.1
        subst this
        exact fun j a n c hj => by simp at hj
      · rw [HS.out]
        exact ⟨hq1g, hlr, by simp, _, _, _, hU.blk, hW2.carry (fun b hb hl => hU.keep.block b hl (fun e => hq1g (by rw [hb, e])))⟩
    · have hk : 0 < k := by
        rw [hU.num]
        exact List.length_pos_iff.2 h0
      have hn2 : n2 ≤ 1073741824 := by have := hU.le; omega
      go_wp2_with fail
      refine (tidy_any g ao2 n2 cap2 rs w3 hU.blk hU.rd hn2).mono ?_
      rintro e w4 ⟨rfl, q4, ao4, cap4, hB4, hq4, hW4, hK4⟩
      go_wp2_with fail
      go_ret2
      have hF4 := (hU.fv.low hs2).keep hK4 (fun k e => by omega)
      have hs4 := hK4.size
      rw [HE.out]
      refine ⟨a, k, cc, rfl, vs, q4, by rw [HF.out]; exact hU.num, (hU.own.mono hs2).keep hK4 (fun k e => by omega), by rw [HF.out]; exact hF4, ?_, ?_, fun b hb => .inr (by have := hq4 b hb; omega), hK3.trans hK4 (fun i _ e => .inl e)⟩
      · exact FV.notIn (hU.fv) (fun b hb => .inr (hq4 b hb))
      · rw [HS.out]
        exact ⟨fun e => by have := hq4 g e; omega, hlr, by simp, _, _, _, hB4, hW4⟩
  · rw [if_neg h2] at HS HE
    have he2 : ((er : Int) == 2) = false := by rw [beq_eq_false_iff_ne]; omega
    go_wp2_with fail
    refine (spoil_r g ao2 n2 cap2 er w3 hU.blk).mono ?_
    rintro e w4 ⟨rfl, hB4, hK4⟩
    go_wp2_with fail
    go_ret2
    rw [HE.out]
    refine ⟨a, k, cc, rfl, vs, none, by rw [HF.out]; exact hU.num, (hU.own.mono hs2).keep hK4 (fun k e => by omega), by rw [HF.out]; exact (hU.fv.low hs2).keep hK4 (fun k e => by omega), (fun j a n c _ e => by cases e), ?_, (fun b hb => by cases hb), hK3.trans hK4 (fun i _ e => .inl e)⟩
    rw [HS.out]
    exact ⟨by simp, by simp, her.2, _, _, _, hB4, .inl ⟨rfl, rfl, rfl, rfl, rfl⟩⟩

theorem put_any (g : Nat) (q : Option Nat) (s : RS) (bo : Option Addr) (m c : Nat) (bs : List UInt8) (w : World) (h : FR w g q s) (hb : Rd w bo m c bs) (hl : s.1.length + m ≤ 1073741824) :
    Calls Try.prog 12 #[.pointer (some ⟨g, 0, none⟩), .slice bo m c] w fun e w' => ∃ a k c, e = .returned (.tuple #[.slice a k c, .int .i64 (putE s bs : Int)]) ∧ ∃ vs q', PutDone w w' g q s bs a k c vs q' := by
  obtain ⟨ws, er⟩ := s
  by_cases h0 : er = 0
  · subst h0
    exact put_good g q ws bo m c bs w h hb hl
  · exact put_spoilt g q _ bo m c bs w h h0
end Go.Proofs.Ytbbfjfmcmckdmaa
