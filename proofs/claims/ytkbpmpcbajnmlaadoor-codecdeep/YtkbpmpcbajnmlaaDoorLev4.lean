/- The walks of the program's several: so many of what is read, one behind the other. No condition but that what is read keeps to its contract. -/
import Derived.Test.YtkbpmpcbajnmlaaDoorPr
import Derived.Test.YtkbpmpcbajnmlaaDoorRw
namespace Go.Proofs.YtkbpmpcbajnmlaaDoor
open Go.RowKit

def it {σ : Type} (nx : σ → σ) : Nat → σ → σ
  | 0, s => s
  | n + 1, s => nx (it nx n s)

theorem info27s : ∃ i, Tryd.prog.info? 27 = some i ∧ i.zero = some (.agg #[.int .i64 0, .int .i64 0, .slice none 0 0]) ∧ i.size = 3 ∧ i.bytes = 40 := by
  have h : (Tryd.prog.info? 27).map (fun i => (i.zero, i.size, i.bytes)) = some (some (.agg #[.int .i64 0, .int .i64 0, .slice none 0 0]), 3, 40) := by kernel_rfl
  obtain ⟨i, hi, he⟩ := Option.map_eq_some_iff.1 h
  simp only [Prod.mk.injEq] at he
  exact ⟨i, hi, he⟩

theorem enter49s (args : Array Value) (w : World) : (callFunc 49 args).run Tryd.prog w = .ok (.enter 49 args) w := enter_of Tryd.func49 (by kernel_rfl) rfl args w

set_option maxRecDepth 100000 in
set_option maxHeartbeats 2000000 in
theorem sevL49 {σ : Type} (R : σ → World → Prop) (nx : σ → σ) (out : σ → Option Lv) (F : Nat → Prop) (p q : Value) (n : Nat) (hn : n ≤ 1000) (s0 : σ) (w : World)
    (hF : ∀ k, F k → k < w.heap.size)
    (hcar : ∀ (s : σ) (u u' : World), R s u → u.heap.size ≤ u'.heap.size → (∀ k, k < w.heap.size → u'.heap[k]? = u.heap[k]?) → R s u')
    (hstep : ∀ (s : σ) (u : World), 0 < n → R s u → w.heap.size ≤ u.heap.size → Calls Tryd.prog 49 #[p, q] u fun x u' => ∃ (L : Lv) (k m : Int) (ao1 : Option Addr) (l1 cap1 : Nat), x = .returned (.agg #[.int .i64 k, .int .i64 m, .slice ao1 l1 cap1]) ∧ R (nx s) u' ∧ (∀ L0, out s = some L0 → L = L0) ∧ LIs u' (fun b => u.heap.size ≤ b ∧ b < u'.heap.size) L [.int .i64 k, .int .i64 m, .slice ao1 l1 cap1] ∧ Keep u u' F)
    (h0 : R s0 w) :
    Calls Tryd.prog 48 #[.int .i64 (n : Int), .func (.func 49) #[] #[p, q]] w fun x w' => ∃ v ls cs, x = .returned v ∧ ls.length = n ∧ GR 3 LIs w' w.heap.size 27 v ls cs ∧ R (it nx n s0) w' ∧ (∀ i, i < n → ∀ L0, out (it nx i s0) = some L0 → ls[i]? = some L0) ∧ Keep w w' F := by
  obtain ⟨i27, hi27, hz27, hs27, hb27⟩ := info27s
  have HS : Hid _ := hstep
  have HC : Hid _ := hcar
  clear hstep hcar
  go_enter Tryd.func48, Tryd.ntmps48
  go_wp2_with fail
  go_loopw [4, 6] (fun v i wr => ∃ (j : Nat) (ls : List Lv) (cs : List (List Value)), j ≤ n ∧ i = .int .i64 (j : Int) ∧ ls.length = j ∧ GR 3 LIs wr w.heap.size 27 v ls cs ∧ R (it nx j s0) wr ∧ (∀ i, i < j → ∀ L0, out (it nx i s0) = some L0 → ls[i]? = some L0) ∧ Keep w wr F) (fun _ i _ => n - (intOf i).toNat)
  case atStart => exact ⟨0, [], [], by omega, rfl, rfl, GR.nil _ _ _ _ _, h0, fun i hi => by omega, Keep.refl _ _⟩
  case round =>
    obtain ⟨j, ls, cs, hj, rfl, hlen, hG, hR, hout, hK⟩ := hrel
    have hwr := hK.size
    obtain ⟨ao, cap, hv, hle, hmx⟩ := hG.slice
    rw [hlen] at hv hle
    subst hv
    have HL : Hid (ls.length = j) := hlen
    by_cases hlt : j < n
    · have hd : decide ((j : Int) < (n : Int)) = true := decide_eq_true (by omega)
      have hcall := HS.out _ wr (by omega) hR hwr
      have hown := hG.2.2.1
      rw [hlen] at hown
      have HO : Hid _ := hown
      have HG : Hid _ := hG
      clear hown hG hR hlen
      go_wp2_with fail
      refine hcall.mono ?_
      rintro x w6 ⟨L, k, m, ao1, l1, cap1, rfl, R6, O6, I6, K6⟩
      clear hcall
      obtain ⟨w7, hw7, hb7, X7, hs7⟩ := one_newG w6 [.int .i64 k, .int .i64 m, .slice ao1 l1 cap1] 27
      have s6 := K6.size
      have s7 := hb7.size
      have hk6 : ∀ b, w.heap.size ≤ b → b < wr.heap.size → w6.heap[b]? = wr.heap[b]? := fun b h1 h2 => K6.block b h2 (fun hf => by have := hF b hf; omega)
      have hown6 : w6.ownsRow w.heap.size 27 3 (.slice ao j cap) j cs.flatten := owns_block HO.out (fun g hg => hk6 g (owns_own HO.out hg).1 (owns_own HO.out hg).2)
      have HO7 : Hid _ := owns_below hown6 hb7
      clear hown6
      go_wp2_with (at_builtin; refine wpList_append_two (P := Tryd.prog) (by rfl) (.tmp 8) (.tmp 11) 25 (by rfl) w.heap.size 27 i27 _ 3 40 Tryd.underlying25 hi27 hz27 hs27 hb27 (by rfl) (by decide) (.slice ao j cap) j cs.flatten (by rfl) HO7.out ⟨w6.heap.size, 0, none⟩ 1 1 [.int .i64 k, .int .i64 m, .slice ao1 l1 cap1] (by rfl) (by rfl) (fun i u hu => by rw [Addr.add_lit, Nat.zero_add]; exact X7.cell hu) (by simp [Value.oneCell']) (by unfold maxLen; omega) (by omega) (by omega) (by decide) ?_; intro v' w8 ho8 hg8 hn8)
      have hG8 := GR.push (c := [.int .i64 k, .int .i64 m, .slice ao1 l1 cap1]) (x := L) LIs.car HG.out hwr s6 hk6 I6 rfl hb7 (by rw [HL.out]; exact ho8) hg8 hn8
      have hob : ∀ b, some b = (Value.slice ao j cap).ownBlock → w.heap.size ≤ b := fun b hb => (owns_own HO.out hb.symm).1
      have s8 := hg8.size
      have hk8 : ∀ k, k < w.heap.size → w8.heap[k]? = w6.heap[k]? := fun k hk => (hg8.block k (by omega) (fun e => by have := hob k e; omega)).trans (hb7.block k (by omega))
      have K8 : Keep w w8 F := ⟨hg8.os.trans (hb7.os.trans (K6.os.trans hK.os)), hg8.tape.trans (hb7.tape.trans (K6.tape.trans hK.tape)), hg8.output.trans (hb7.output.trans (K6.output.trans hK.output)), by omega, fun k hk hf => (hk8 k hk).trans ((K6.block k (by omega) hf).trans (hK.block k hk hf))⟩
      go_roundw
      case rel =>
        refine ⟨j + 1, ls ++ [L], cs ++ [[.int .i64 k, .int .i64 m, .slice ao1 l1 cap1]], by omega, by go_num, by simp [HL.out], hG8, HC.out _ _ _ R6 (by omega) hk8, fun i hi L0 hL0 => ?_, K8⟩
        by_cases h1 : i < j
        · rw [List.getElem?_append_left (by rw [HL.out]; exact h1)]; exact hout i h1 L0 hL0
        · obtain rfl : i = j := by omega
          rw [List.getElem?_append_right (by rw [HL.out]; omega), HL.out, Nat.sub_self, O6 L0 hL0]; rfl
      case measure => simp [intOf]; omega
    · obtain rfl : j = n := by omega
      go_wp2_with fail
      go_ret
      exact ⟨_, ls, cs, rfl, HL.out, hG, hR, hout, hK⟩

theorem enter29s (args : Array Value) (w : World) : (callFunc 29 args).run Tryd.prog w = .ok (.enter 29 args) w := enter_of Tryd.func29 (by kernel_rfl) rfl args w

set_option maxRecDepth 100000 in
set_option maxHeartbeats 2000000 in
theorem sevL29 {σ : Type} (R : σ → World → Prop) (nx : σ → σ) (out : σ → Option Lv) (F : Nat → Prop) (p : Value) (n : Nat) (hn : n ≤ 1000) (s0 : σ) (w : World)
    (hF : ∀ k, F k → k < w.heap.size)
    (hcar : ∀ (s : σ) (u u' : World), R s u → u.heap.size ≤ u'.heap.size → (∀ k, k < w.heap.size → u'.heap[k]? = u.heap[k]?) → R s u')
    (hstep : ∀ (s : σ) (u : World), 0 < n → R s u → w.heap.size ≤ u.heap.size → Calls Tryd.prog 29 #[p] u fun x u' => ∃ (L : Lv) (k m : Int) (ao1 : Option Addr) (l1 cap1 : Nat), x = .returned (.agg #[.int .i64 k, .int .i64 m, .slice ao1 l1 cap1]) ∧ R (nx s) u' ∧ (∀ L0, out s = some L0 → L = L0) ∧ LIs u' (fun b => u.heap.size ≤ b ∧ b < u'.heap.size) L [.int .i64 k, .int .i64 m, .slice ao1 l1 cap1] ∧ Keep u u' F)
    (h0 : R s0 w) :
    Calls Tryd.prog 48 #[.int .i64 (n : Int), .func (.func 29) #[p] #[]] w fun x w' => ∃ v ls cs, x = .returned v ∧ ls.length = n ∧ GR 3 LIs w' w.heap.size 27 v ls cs ∧ R (it nx n s0) w' ∧ (∀ i, i < n → ∀ L0, out (it nx i s0) = some L0 → ls[i]? = some L0) ∧ Keep w w' F := by
  obtain ⟨i27, hi27, hz27, hs27, hb27⟩ := info27s
  have HS : Hid _ := hstep
  have HC : Hid _ := hcar
  clear hstep hcar
  go_enter Tryd.func48, Tryd.ntmps48
  go_wp2_with fail
  go_loopw [4, 6] (fun v i wr => ∃ (j : Nat) (ls : List Lv) (cs : List (List Value)), j ≤ n ∧ i = .int .i64 (j : Int) ∧ ls.length = j ∧ GR 3 LIs wr w.heap.size 27 v ls cs ∧ R (it nx j s0) wr ∧ (∀ i, i < j → ∀ L0, out (it nx i s0) = some L0 → ls[i]? = some L0) ∧ Keep w wr F) (fun _ i _ => n - (intOf i).toNat)
  case atStart => exact ⟨0, [], [], by omega, rfl, rfl, GR.nil _ _ _ _ _, h0, fun i hi => by omega, Keep.refl _ _⟩
  case round =>
    obtain ⟨j, ls, cs, hj, rfl, hlen, hG, hR, hout, hK⟩ := hrel
    have hwr := hK.size
    obtain ⟨ao, cap, hv, hle, hmx⟩ := hG.slice
    rw [hlen] at hv hle
    subst hv
    have HL : Hid (ls.length = j) := hlen
    by_cases hlt : j < n
    · have hd : decide ((j : Int) < (n : Int)) = true := decide_eq_true (by omega)
      have hcall := HS.out _ wr (by omega) hR hwr
      have hown := hG.2.2.1
      rw [hlen] at hown
      have HO : Hid _ := hown
      have HG : Hid _ := hG
      clear hown hG hR hlen
      go_wp2_with fail
      refine hcall.mono ?_
      rintro x w6 ⟨L, k, m, ao1, l1, cap1, rfl, R6, O6, I6, K6⟩
      clear hcall
      obtain ⟨w7, hw7, hb7, X7, hs7⟩ := one_newG w6 [.int .i64 k, .int .i64 m, .slice ao1 l1 cap1] 27
      have s6 := K6.size
      have s7 := hb7.size
      have hk6 : ∀ b, w.heap.size ≤ b → b < wr.heap.size → w6.heap[b]? = wr.heap[b]? := fun b h1 h2 => K6.block b h2 (fun hf => by have := hF b hf; omega)
      have hown6 : w6.ownsRow w.heap.size 27 3 (.slice ao j cap) j cs.flatten := owns_block HO.out (fun g hg => hk6 g (owns_own HO.out hg).1 (owns_own HO.out hg).2)
      have HO7 : Hid _ := owns_below hown6 hb7
      clear hown6
      go_wp2_with (at_builtin; refine wpList_append_two (P := Tryd.prog) (by rfl) (.tmp 8) (.tmp 11) 25 (by rfl) w.heap.size 27 i27 _ 3 40 Tryd.underlying25 hi27 hz27 hs27 hb27 (by rfl) (by decide) (.slice ao j cap) j cs.flatten (by rfl) HO7.out ⟨w6.heap.size, 0, none⟩ 1 1 [.int .i64 k, .int .i64 m, .slice ao1 l1 cap1] (by rfl) (by rfl) (fun i u hu => by rw [Addr.add_lit, Nat.zero_add]; exact X7.cell hu) (by simp [Value.oneCell']) (by unfold maxLen; omega) (by omega) (by omega) (by decide) ?_; intro v' w8 ho8 hg8 hn8)
      have hG8 := GR.push (c := [.int .i64 k, .int .i64 m, .slice ao1 l1 cap1]) (x := L) LIs.car HG.out hwr s6 hk6 I6 rfl hb7 (by rw [HL.out]; exact ho8) hg8 hn8
      have hob : ∀ b, some b = (Value.slice ao j cap).ownBlock → w.heap.size ≤ b := fun b hb => (owns_own HO.out hb.symm).1
      have s8 := hg8.size
      have hk8 : ∀ k, k < w.heap.size → w8.heap[k]? = w6.heap[k]? := fun k hk => (hg8.block k (by omega) (fun e => by have := hob k e; omega)).trans (hb7.block k (by omega))
      have K8 : Keep w w8 F := ⟨hg8.os.trans (hb7.os.trans (K6.os.trans hK.os)), hg8.tape.trans (hb7.tape.trans (K6.tape.trans hK.tape)), hg8.output.trans (hb7.output.trans (K6.output.trans hK.output)), by omega, fun k hk hf => (hk8 k hk).trans ((K6.block k (by omega) hf).trans (hK.block k hk hf))⟩
      go_roundw
      case rel =>
        refine ⟨j + 1, ls ++ [L], cs ++ [[.int .i64 k, .int .i64 m, .slice ao1 l1 cap1]], by omega, by go_num, by simp [HL.out], hG8, HC.out _ _ _ R6 (by omega) hk8, fun i hi L0 hL0 => ?_, K8⟩
        by_cases h1 : i < j
        · rw [List.getElem?_append_left (by rw [HL.out]; exact h1)]; exact hout i h1 L0 hL0
        · obtain rfl : i = j := by omega
          rw [List.getElem?_append_right (by rw [HL.out]; omega), HL.out, Nat.sub_self, O6 L0 hL0]; rfl
      case measure => simp [intOf]; omega
    · obtain rfl : j = n := by omega
      go_wp2_with fail
      go_ret
      exact ⟨_, ls, cs, rfl, HL.out, hG, hR, hout, hK⟩
end Go.Proofs.YtkbpmpcbajnmlaaDoor

/- The walk of the program's reader of levels: what it tells is what the plain function tells. No condition but that the bytes can be read, are no longer than 2^40, and that the tables are laid. -/
namespace Go.Proofs.YtkbpmpcbajnmlaaDoor
open Go.RowKit

/-- The tables hold what the program's text lays. -/
structure Tabs (w : World) : Prop where
  lv : ∀ i, i < 5 → w.cell? ⟨0, i, none⟩ = some (.int .i64 ((argL i : Nat) : Int))
  tm : ∀ i, i < 7 → w.cell? ⟨1, i, none⟩ = some (.int .i64 ((argT i : Nat) : Int))

theorem Tabs.carry {w w' : World} (h : Tabs w) (hb : ∀ k, k < 2 → w'.heap[k]? = w.heap[k]?) : Tabs w' :=
  ⟨fun i hi => (World.cell?_of_block (hb 0 (by omega))).trans (h.lv i hi), fun i hi => (World.cell?_of_block (hb 1 (by omega))).trans (h.tm i hi)⟩
theorem Tabs.lt {w : World} (h : Tabs w) : 2 ≤ w.heap.size := World.block_lt_of_cell? w _ (h.tm 0 (by decide))
theorem Tabs.keep {w w' : World} {S : Nat → Prop} (h : Tabs w) (hk : Keep w w' S) (hS : ∀ k, S k → 2 ≤ k) : Tabs w' :=
  h.carry fun k hk' => hk.block k (by have := h.lt; omega) (fun s => by have := hS k s; omega)

def Er.snd {α σ : Type} : Er (α × σ) → Er σ
  | .bad c => .bad c
  | .ok x => .ok x.2

/-- The closures' cells, and where the reading of a level stands. -/
structure LS (w : World) (B g gb gp gf : Nat) (st : Er (Nat × Bs)) : Prop where
  tabs : Tabs w
  two : 2 ≤ B
  box : Blk w gb 58 [.pointer (some ⟨g, 0, none⟩)]
  fn : Blk w gf 84 [.func (.func 44) #[] #[.pointer (some ⟨gb, 0, none⟩), .pointer (some ⟨gp, 0, none⟩), .pointer (some ⟨gf, 0, none⟩)]]
  lowb : B ≤ gb
  lowp : B ≤ gp
  lowf : B ≤ gf
  n1 : g ≠ gb
  n2 : g ≠ gp
  n3 : g ≠ gf
  n4 : gp ≠ gb
  n5 : gp ≠ gf
  cnt : ∃ p : Int, -9223372036854775808 ≤ p ∧ p ≤ 9223372036854775807 ∧ Blk w gp 3 [.int .i64 p] ∧ ∀ x, st = .ok x → p = (x.1 : Int) ∧ x.1 ≤ 64
  rd : RSx w B g st.snd

theorem LS.keep {w w' : World} {B g gb gp gf : Nat} {st : Er (Nat × Bs)} {S : Nat → Prop} (h : LS w B g gb gp gf st) (hk : Keep w w' S) (hS : ∀ k, S k → B ≤ k) (s1 : ¬ S g) (s2 : ¬ S gb) (s3 : ¬ S gp) (s4 : ¬ S gf) : LS w' B g gb gp gf st := by
  obtain ⟨p, p0, p1, hp, hst⟩ := h.cnt
  have := h.two
  exact ⟨h.tabs.keep hk (fun k s => by have := hS k s; omega), h.two, h.box.keep hk s2, h.fn.keep hk s4, h.lowb, h.lowp, h.lowf, h.n1, h.n2, h.n3, h.n4, h.n5, ⟨p, p0, p1, hp.keep hk s3, hst⟩, h.rd.keep hk s1 hS⟩

theorem RSx.low {w : World} {B g : Nat} {st : Er Bs} (h : RSx w B g st) : B ≤ g ∧ g < w.heap.size := by
  cases st with
  | bad c => obtain ⟨_, bs, ao, n, cap, h1, _, h3, _⟩ := h; exact ⟨h3, h1.lt⟩
  | ok bs => obtain ⟨ao, n, cap, h1, _, h3, _⟩ := h; exact ⟨h3, h1.lt⟩

/-- .. with the reader elsewhere, and the count. -/
theorem LS.move {w w' : World} {B g gb gp gf : Nat} {st st' : Er (Nat × Bs)} (h : LS w B g gb gp gf st) (hk : Keep w w' (fun k => k = g ∨ k = gp)) (hr : RSx w' B g st'.snd) (hc : ∃ p : Int, -9223372036854775808 ≤ p ∧ p ≤ 9223372036854775807 ∧ Blk w' gp 3 [.int .i64 p] ∧ ∀ x, st' = .ok x → p = (x.1 : Int) ∧ x.1 ≤ 64) : LS w' B g gb gp gf st' := by
  have h2 := h.two
  have hl := h.rd.low.1
  have hp := h.lowp
  exact ⟨h.tabs.keep hk (fun k s => by rcases s with rfl | rfl <;> omega), h.two, h.box.keep hk (by rintro (e | e); exact h.n1 e.symm; exact h.n4 e.symm), h.fn.keep hk (by rintro (e | e); exact h.n3 e.symm; exact h.n5 e.symm), h.lowb, h.lowp, h.lowf, h.n1, h.n2, h.n3, h.n4, h.n5, hc, hr⟩

/-- What readOn tells. -/
def ROP (w : World) (B g gb gp gf : Nat) (res : Er (Lv × Nat × Bs)) (x : Ending) (w' : World) : Prop :=
  ∃ (L : Lv) (k m : Int) (ao : Option Addr) (l cap : Nat), x = .returned (.agg #[.int .i64 k, .int .i64 m, .slice ao l cap]) ∧ LS w' B g gb gp gf res.snd ∧ (∀ y, res = .ok y → L = y.1) ∧
    LIs w' (fun b => w.heap.size ≤ b ∧ b < w'.heap.size) L [.int .i64 k, .int .i64 m, .slice ao l cap] ∧ Keep w w' (fun k => k = g ∨ k = gp)

def RO (f : Nat) : Prop := ∀ (B g gb gp gf : Nat) (st : Er (Nat × Bs)) (w : World), LS w B g gb gp gf st →
  Calls Tryd.prog 44 #[.int .i64 (33 - (f : Int)), .pointer (some ⟨gb, 0, none⟩), .pointer (some ⟨gp, 0, none⟩), .pointer (some ⟨gf, 0, none⟩)] w (ROP w B g gb gp gf (st.bind (rLv f)))

theorem Keep.kcell {W w1 : World} {S : Nat → Prop} (hk : Keep W w1 S) (b o : Nat) (h : b < W.heap.size) (hn : ¬ S b) : w1.cell? ⟨b, o, none⟩ = W.cell? ⟨b, o, none⟩ := World.cell?_of_block (w := W) (hk.block b h hn)

set_option maxRecDepth 100000 in
set_option maxHeartbeats 2000000 in
/-- The closure that reads an arg. -/
theorem lev49 (f : Nat) (hf : f ≤ 31) (hro : RO f) (B g gb gp gf gd : Nat) (st : Er (Nat × Bs)) (w : World) (h : LS w B g gb gp gf st) (hd : Blk w gd 3 [.int .i64 (32 - (f : Int))]) :
    Calls Tryd.prog 49 #[.pointer (some ⟨gf, 0, none⟩), .pointer (some ⟨gd, 0, none⟩)] w (ROP w B g gb gp gf (st.bind (rLv f))) := by
  obtain ⟨w1, hw1, hb1, P1, hs1⟩ := one_newG w [.int .i64 0, .int .i64 0, .slice none 0 0] 27
  have K1 : Keep w w1 (fun _ => False) := Keep.of_below hb1 (Nat.le_refl _)
  have h1 := h.keep K1 (fun _ s => s.elim) id id id id
  have c0 := h1.fn.cell (j := 0) rfl
  have c1 := (hd.keep K1 id).cell (j := 0) rfl
  have e1 : (32 : Int) - (f : Int) + 1 = 33 - (f : Int) := by omega
  have hcall := hro B g gb gp gf st w1 h1
  have hg := h.rd.low.2
  have hgp : gp < w.heap.size := by obtain ⟨_, _, _, hp, _⟩ := h.cnt; exact hp.lt
  rw [← e1] at hcall
  clear e1
  go_enter Tryd.func49, Tryd.ntmps49
  go_wp2_with fail
  refine hcall.mono ?_
  rintro x w2 ⟨L, k, m, ao, l, cap, rfl, S2, O2, I2, K2⟩
  have Q2 := P1.keep K2 (by omega)
  have q0 := Q2.cell (j := 0) rfl
  have q1 := Q2.cell (j := 1) rfl
  have q2 := Q2.cell (j := 2) rfl
  have f0 := Q2.frozen 0
  have f1 := Q2.frozen 1
  have f2 := Q2.frozen 2
  clear hcall
  go_wp2_with fail
  obtain ⟨Q3, K3⟩ := st3G Q2 (.int .i64 k) (.int .i64 m) (.slice ao l cap)
  have d0 := Q3.cell (j := 0) rfl
  have d1 := Q3.cell (j := 1) rfl
  have d2 := Q3.cell (j := 2) rfl
  have z1 := K1.size
  have z2 := K2.size
  have z3 := K3.size
  have hgb : gb < w.heap.size := h.box.lt
  have hgf : gf < w.heap.size := h.fn.lt
  refine bodyPost_ret (v := .agg #[.int .i64 k, .int .i64 m, .slice ao l cap]) (by simp [results, Tryd.results49, go_sem, d0, d1, d2]) rfl ⟨L, k, m, ao, l, cap, rfl, ?_, O2, ?_, ?_⟩
  · exact S2.keep K3 (fun k hk => by have := h.rd.low.1; omega) (by omega) (by omega) (by omega) (by omega)
  · exact LIs.car _ _ _ _ _ _ (fun b hb => K3.block b hb.2 (by omega)) (fun b hb => ⟨by omega, by omega⟩) I2
  · exact ((K1.mono (fun _ s => s.elim)).trans K2 (fun _ _ s => s)).trans K3 (fun i hi s => by omega)
end Go.Proofs.YtkbpmpcbajnmlaaDoor

/- The walk of the program's reader of levels, its closure: what it tells is what the plain function tells. -/
namespace Go.Proofs.YtkbpmpcbajnmlaaDoor
open Go.RowKit

/-- Behind the Kind. -/
def lvX (f : Nat) (st : Er (Nat × Bs)) (p : Int) : Er (Nat × Bs) := (st.snd.fail (beg (p == 64) (decide (32 < 33 - (f : Int))))).bind (rKind 0 4)

theorem kind_told (x : Er Bs) (lo hi : Nat) : (x.bind (rKind lo hi)).told 0 ≤ hi := by
  have : x.bind (rKind lo hi) = chk (fun v => decide (lo ≤ v) && decide (v ≤ hi)) 5 (x.bind rWide) := bind_chk x _ _ _
  rw [this, chk_told]
  split
  · rename_i h; simp at h; exact h.2
  · omega

theorem lv_begin {f : Nat} {st : Er (Nat × Bs)} {p : Int} (hp : ∀ x, st = .ok x → p = (x.1 : Int)) :
    (∃ c, st = .bad c ∧ lvX f st p = .bad c) ∨ (∃ q bs c, st = .ok (q, bs) ∧ rLv f (q, bs) = .bad c ∧ lvX f st p = .bad c ∧ (q = 64 ∨ f = 0)) ∨
    (∃ q bs f', st = .ok (q, bs) ∧ f = f' + 1 ∧ q ≠ 64 ∧ lvX f st p = rKind 0 4 bs) := by
  cases st with
  | bad c => refine .inl ⟨c, rfl, ?_⟩; simp only [lvX, Er.snd, Er.fail]; split <;> rfl
  | ok x =>
    obtain ⟨q, bs⟩ := x
    have h1 := hp _ rfl
    simp only at h1
    by_cases h64 : q = 64
    · refine .inr (.inl ⟨q, bs, 3, rfl, by cases f <;> simp [rLv, h64], ?_, .inl h64⟩)
      simp [lvX, Er.snd, Er.fail, beg, h1, h64, Er.bind]
    · cases f with
      | zero =>
        refine .inr (.inl ⟨q, bs, 6, rfl, by simp [rLv, h64], ?_, .inr rfl⟩)
        have e1 : ((q : Int) == 64) = false := beq_eq_false_iff_ne.2 (by omega)
        simp [lvX, Er.snd, Er.fail, beg, h1, e1, Er.bind]
      | succ f' =>
        refine .inr (.inr ⟨q, bs, f', rfl, rfl, h64, ?_⟩)
        have e1 : ((q : Int) == 64) = false := beq_eq_false_iff_ne.2 (by omega)
        have e2 : decide (32 < 33 - ((f' + 1 : Nat) : Int)) = false := decide_eq_false (by omega)
        simp only [lvX, Er.snd, Er.fail, beg, h1, e1, e2]
        rfl

/-- The state behind the Kind, one part more. -/
def lvS (X : Er (Nat × Bs)) (q : Nat) : Er (Nat × Bs) := X.bind fun x => .ok (q + 1, x.2)

theorem lv_other {f : Nat} {st : Er (Nat × Bs)} {p : Int} (hp : ∀ x, st = .ok x → p = (x.1 : Int)) (h4 : (lvX f st p).told 0 ≠ 4) :
    st.bind (rLv f) = ((lvS (lvX f st p) p.toNat).bind (rMany (rLv (f - 1)) (argL ((lvX f st p).told 0)))).bind fun y => .ok (.mk (((lvX f st p).told 0 : Nat) : Int) 0 y.1, y.2) := by
  rcases lv_begin hp (f := f) with ⟨c, rfl, hX⟩ | ⟨q, bs, c, rfl, hr, hX, _⟩ | ⟨q, bs, f', rfl, rfl, hq, hX⟩
  · rw [hX]; rfl
  · rw [hX]; exact hr
  · have h1 := hp _ rfl
    simp only at h1
    rw [hX] at h4 ⊢
    subst h1
    show rLv (f' + 1) (q, bs) = _
    rw [rLv, if_neg hq]
    cases hk : rKind 0 4 bs with
    | bad c => rfl
    | ok x =>
      obtain ⟨k, r⟩ := x
      rw [hk] at h4
      simp only [Er.told] at h4
      simp only [Er.bind, lvS, Er.told, if_neg h4, Int.toNat_natCast, Nat.add_sub_cancel]

theorem lv_four {f : Nat} {st : Er (Nat × Bs)} {p : Int} (hp : ∀ x, st = .ok x → p = (x.1 : Int)) (h4 : (lvX f st p).told 0 = 4) :
    st.bind (rLv f) = ((lvX f st p).rest.bind (rUpTo 3 7)).bind fun y => .ok (.mk 4 y.1 [], p.toNat + 1, y.2) := by
  rcases lv_begin hp (f := f) with ⟨c, rfl, hX⟩ | ⟨q, bs, c, rfl, hr, hX, _⟩ | ⟨q, bs, f', rfl, rfl, hq, hX⟩
  · rw [hX]; rfl
  · rw [hX]; exact hr
  · have h1 := hp _ rfl
    simp only at h1
    rw [hX] at h4 ⊢
    subst h1
    show rLv (f' + 1) (q, bs) = _
    rw [rLv, if_neg hq]
    cases hk : rKind 0 4 bs with
    | bad c => rfl
    | ok x =>
      obtain ⟨k, r⟩ := x
      rw [hk] at h4
      simp only [Er.told] at h4
      simp only [Er.bind, if_pos h4, Er.rest, Int.toNat_natCast]

/-- So many steps of a reading, as one. -/
theorem it_many {σ β : Type} (rd : σ → Er (β × σ)) (n : Nat) : ∀ s : Er σ, it (fun s => (s.bind rd).snd) n s = (s.bind (rMany rd n)).snd := by
  induction n with
  | zero => intro s; cases s <;> rfl
  | succ n ih =>
    intro s
    have shift : ∀ (n : Nat) (s : Er σ), it (fun s => (s.bind rd).snd) (n + 1) s = it (fun s => (s.bind rd).snd) n ((s.bind rd).snd) := by
      intro n
      induction n with
      | zero => intro s; rfl
      | succ n ih => intro s; exact congrArg (fun x : Er σ => (x.bind rd).snd) (ih s)
    rw [shift, ih]
    cases s with
    | bad c => rfl
    | ok x =>
      show (((rd x).snd).bind (rMany rd n)).snd = (rMany rd (n + 1) x).snd
      rw [rMany]
      cases rd x with
      | bad c => rfl
      | ok y =>
        show (rMany rd n y.2).snd = ((rMany rd n y.2).bind _).snd
        cases rMany rd n y.2 <;> rfl

def outR {σ β : Type} (rd : σ → Er (β × σ)) (s : Er σ) : Option β := match s.bind rd with | .ok x => some x.1 | .bad _ => none

theorem it_outs {σ β : Type} (rd : σ → Er (β × σ)) (n : Nat) : ∀ (s : Er σ) (y : List β × σ), s.bind (rMany rd n) = .ok y → y.1.length = n ∧ ∀ i, i < n → outR rd (it (fun s => (s.bind rd).snd) i s) = y.1[i]? := by
  induction n with
  | zero =>
    intro s y h
    cases s with
    | bad c => cases h
    | ok x => simp only [Er.bind, rMany, Er.ok.injEq] at h; subst h; exact ⟨rfl, fun i hi => by omega⟩
  | succ n ih =>
    intro s y h
    have shift : ∀ (n : Nat) (s : Er σ), it (fun s => (s.bind rd).snd) (n + 1) s = it (fun s => (s.bind rd).snd) n ((s.bind rd).snd) := by
      intro n
      induction n with
      | zero => intro s; rfl
      | succ n ih => intro s; exact congrArg (fun x : Er σ => (x.bind rd).snd) (ih s)
    cases s with
    | bad c => cases h
    | ok x =>
      simp only [Er.bind, rMany] at h
      cases hx : rd x with
      | bad c => rw [hx] at h; cases h
      | ok z =>
        rw [hx] at h
        simp only at h
        cases hm : rMany rd n z.2 with
        | bad c => rw [hm] at h; cases h
        | ok u =>
          rw [hm] at h
          simp only [Er.ok.injEq] at h
          subst h
          obtain ⟨h1, h2⟩ := ih (.ok z.2) u hm
          refine ⟨by simp [h1], fun i hi => ?_⟩
          cases i with
          | zero => simp [it, outR, Er.bind, hx]
          | succ i =>
            rw [shift]
            have : ((Er.ok x : Er σ).bind rd).snd = .ok z.2 := by simp [Er.bind, hx, Er.snd]
            rw [this, h2 i (by omega)]
            simp

theorem many_list {σ β : Type} (rd : σ → Er (β × σ)) (n : Nat) (s : Er σ) (ls : List β) (hl : ls.length = n) (ho : ∀ i, i < n → ∀ L0, outR rd (it (fun s => (s.bind rd).snd) i s) = some L0 → ls[i]? = some L0) (y : List β × σ) (h : s.bind (rMany rd n) = .ok y) : ls = y.1 := by
  obtain ⟨h1, h2⟩ := it_outs rd n s y h
  apply List.ext_getElem?
  intro i
  by_cases hi : i < n
  · have e : y.1[i]? = some (y.1[i]'(by omega)) := List.getElem?_eq_getElem _
    rw [e]
    exact ho i hi _ ((h2 i hi).trans e)
  · rw [List.getElem?_eq_none (by omega), List.getElem?_eq_none (by omega)]
end Go.Proofs.YtkbpmpcbajnmlaaDoor

/- The walk of the program's reader of levels, its closure: what it tells is what the plain function tells. -/
namespace Go.Proofs.YtkbpmpcbajnmlaaDoor
open Go.RowKit

theorem RdB.carry {w w' : World} {B : Nat} {ao : Option Addr} {n cap : Nat} {bs : Bs} (h : RdB w B ao n cap bs) (hb : ∀ k, k < B → w'.heap[k]? = w.heap[k]?) : RdB w' B ao n cap bs :=
  ⟨⟨h.rd.len, h.rd.le, h.rd.max, h.rd.nil, fun a ha j u hu => by
    have h1 := h.rd.cells a ha j u hu
    have h2 := h.low a ha
    have h4 : (a.add j).block = a.block := by unfold Addr.add; split <;> rfl
    exact (World.cell?_of_block (hb _ (by omega))).trans h1⟩, h.low, h.le⟩

theorem RSx.carry {w w' : World} {B g : Nat} {st : Er Bs} (h : RSx w B g st) (hb : ∀ k, k < B → w'.heap[k]? = w.heap[k]?) (hg : w'.heap[g]? = w.heap[g]?) : RSx w' B g st := by
  cases st with
  | bad c => obtain ⟨h0, bs, ao, n, cap, h1, h2, h3, h4⟩ := h; exact ⟨h0, bs, ao, n, cap, h1.carry hg, h2.carry hb, h3, h4⟩
  | ok bs => obtain ⟨ao, n, cap, h1, h2, h3, h4⟩ := h; exact ⟨ao, n, cap, h1.carry hg, h2.carry hb, h3, h4⟩

theorem LS.lts {w : World} {B g gb gp gf : Nat} {st : Er (Nat × Bs)} (h : LS w B g gb gp gf st) : g < w.heap.size ∧ gb < w.heap.size ∧ gp < w.heap.size ∧ gf < w.heap.size ∧ B ≤ g := by
  obtain ⟨_, _, _, hp, _⟩ := h.cnt
  exact ⟨h.rd.low.2, h.box.lt, hp.lt, h.fn.lt, h.rd.low.1⟩

theorem LS.carry {w w' : World} {B g gb gp gf : Nat} {st : Er (Nat × Bs)} (h : LS w B g gb gp gf st) (N : Nat) (h1 : g < N) (h2 : gb < N) (h3 : gp < N) (h4 : gf < N) (hb : ∀ k, k < N → w'.heap[k]? = w.heap[k]?) : LS w' B g gb gp gf st := by
  obtain ⟨p, p0, p1, hp, hst⟩ := h.cnt
  have hB := h.rd.low.1
  have h2' := h.two
  exact ⟨h.tabs.carry (fun k hk => hb k (by omega)), h.two, h.box.carry (hb _ h2), h.fn.carry (hb _ h4), h.lowb, h.lowp, h.lowf, h.n1, h.n2, h.n3, h.n4, h.n5, ⟨p, p0, p1, hp.carry (hb _ h3), hst⟩, h.rd.carry (fun k hk => hb k (by omega)) (hb _ h1)⟩

theorem snd_map {α β σ : Type} (x : Er (α × σ)) (g : α → β) : (x.bind fun y => .ok (g y.1, y.2)).snd = x.snd := by cases x <;> rfl

/-- several of nothing, and of the args. -/
theorem sev_args (f : Nat) (n : Nat) (hn : n ≤ 2) (hf : f ≤ 32) (hro : ∀ f', f = f' + 1 → RO f') (hpos : 0 < n → 0 < f) (B g gb gp gf gd : Nat) (st : Er (Nat × Bs)) (w : World) (h : LS w B g gb gp gf st) (hd : Blk w gd 3 [.int .i64 (33 - (f : Int))]) (hdg : gd ≠ g) (hdp : gd ≠ gp) :
    Calls Tryd.prog 48 #[.int .i64 (n : Int), .func (.func 49) #[] #[.pointer (some ⟨gf, 0, none⟩), .pointer (some ⟨gd, 0, none⟩)]] w fun x w' => ∃ v ls cs, x = .returned v ∧ ls.length = n ∧ GR 3 LIs w' w.heap.size 27 v ls cs ∧
      LS w' B g gb gp gf (st.bind (rMany (rLv (f - 1)) n)).snd ∧ (∀ y, st.bind (rMany (rLv (f - 1)) n) = .ok y → ls = y.1) ∧ Keep w w' (fun k => k = g ∨ k = gp) := by
  obtain ⟨l1, l2, l3, l4, l5⟩ := h.lts
  have ld := hd.lt
  have := sevL49 (fun (s : Er (Nat × Bs)) u => LS u B g gb gp gf s ∧ Blk u gd 3 [.int .i64 (33 - (f : Int))]) (fun s => (s.bind (rLv (f - 1))).snd) (outR (rLv (f - 1))) (fun k => k = g ∨ k = gp) (.pointer (some ⟨gf, 0, none⟩)) (.pointer (some ⟨gd, 0, none⟩)) n (by omega) st w
    (fun k hk => by rcases hk with rfl | rfl <;> assumption)
    (fun s u u' hR _ hb => ⟨hR.1.carry w.heap.size l1 l2 l3 l4 hb, hR.2.carry (hb _ ld)⟩)
    (fun s u h0 hR hu => by
      obtain ⟨f', rfl⟩ : ∃ f', f = f' + 1 := ⟨f - 1, by have := hpos h0; omega⟩
      have e1 : (33 : Int) - ((f' + 1 : Nat) : Int) = 32 - (f' : Int) := by omega
      have hd' := hR.2
      rw [e1] at hd'
      refine (lev49 f' (by omega) (hro f' rfl) B g gb gp gf gd s u hR.1 hd').mono ?_
      rintro x u' ⟨L, k, m, ao, l, cap, rfl, S2, O2, I2, K2⟩
      refine ⟨L, k, m, ao, l, cap, rfl, ⟨S2, ?_⟩, fun L0 hL0 => ?_, I2, K2⟩
      · exact hR.2.keep K2 (by rintro (e | e); exact hdg e; exact hdp e)
      · simp only [Nat.add_sub_cancel] at hL0
        unfold outR at hL0
        split at hL0
        · rename_i y hy; simp at hL0; rw [← hL0]; exact O2 y hy
        · cases hL0)
    ⟨h, hd⟩
  refine this.mono ?_
  rintro x w' ⟨v, ls, cs, rfl, hl, hG, ⟨hR, _⟩, hout, hK⟩
  rw [it_many] at hR
  exact ⟨v, ls, cs, rfl, hl, hG, hR, fun y hy => many_list _ n st ls hl hout y hy, hK⟩

theorem lvS_rest {w : World} {B g q : Nat} {X : Er (Nat × Bs)} (h : RSx w B g X.rest) : RSx w B g (lvS X q).snd := by cases X <;> exact h

theorem lvS_cnt {w : World} {gp f : Nat} {st : Er (Nat × Bs)} {p : Int} (hst : ∀ x, st = .ok x → p = (x.1 : Int) ∧ x.1 ≤ 64) (hp : Blk w gp 3 [.int .i64 (wrap64 (p + 1))]) :
    ∃ p' : Int, -9223372036854775808 ≤ p' ∧ p' ≤ 9223372036854775807 ∧ Blk w gp 3 [.int .i64 p'] ∧ ∀ x, lvS (lvX f st p) p.toNat = .ok x → p' = (x.1 : Int) ∧ x.1 ≤ 64 := by
  refine ⟨_, by unfold wrap64; omega, by unfold wrap64; omega, hp, fun x hx => ?_⟩
  rcases lv_begin (f := f) (fun x hx => (hst x hx).1) with ⟨c, _, hX⟩ | ⟨q, bs, c, _, _, hX, _⟩ | ⟨q, bs, f', hs, _, hq, hX⟩
  · rw [hX] at hx; cases hx
  · rw [hX] at hx; cases hx
  · obtain ⟨h1, h2⟩ := hst _ hs
    simp only at h1 h2
    rw [hX] at hx
    cases hk : rKind 0 4 bs with
    | bad c => rw [hk] at hx; cases hx
    | ok y =>
      rw [hk] at hx
      simp only [lvS, Er.bind, Er.ok.injEq] at hx
      subst hx
      simp only
      rw [h1, wrap64_smallG _ (by omega) (by omega)]
      omega

set_option maxRecDepth 100000 in
set_option maxHeartbeats 2000000 in
theorem lev44_other (f : Nat) (hf : f ≤ 32) (hro : ∀ f', f = f' + 1 → RO f') (B g gb gp gf : Nat) (st : Er (Nat × Bs)) (w : World) (h : LS w B g gb gp gf st) (p : Int) (hp : Blk w gp 3 [.int .i64 p]) (hst : ∀ x, st = .ok x → p = (x.1 : Int) ∧ x.1 ≤ 64) (h4 : (lvX f st p).told 0 ≠ 4) :
    Calls Tryd.prog 44 #[.int .i64 (33 - (f : Int)), .pointer (some ⟨gb, 0, none⟩), .pointer (some ⟨gp, 0, none⟩), .pointer (some ⟨gf, 0, none⟩)] w (ROP w B g gb gp gf (st.bind (rLv f))) := by
  obtain ⟨l1, l2, l3, l4, l5⟩ := h.lts
  obtain ⟨w1, hw1, hb1, P1, Q1, hs1⟩ := two_newG w [.int .i64 (33 - (f : Int))] [.int .i64 0, .int .i64 0, .slice none 0 0] 3 27
  have K1 : Keep w w1 (fun _ => False) := Keep.of_below hb1 (Nat.le_refl _)
  have h1 := h.keep K1 (fun _ s => s.elim) id id id id
  have hp1 := hp.keep K1 id
  have b0 := h1.box.cell (j := 0) rfl
  have pc := hp1.cell (j := 0) rfl
  have dc := P1.cell (j := 0) rfl
  have hB := begin_any B g st.snd (p == 64) (decide (32 < 33 - (f : Int))) w1 h1.rd
  go_enter Tryd.func44, Tryd.ntmps44
  go_wp2_with fail
  refine hB.mono ?_
  rintro x w2 ⟨rfl, R2, K2⟩
  have h2p := hp1.keep K2 (fun e => h.n2 e.symm)
  have pc2 := h2p.cell (j := 0) rfl
  have pf2 := h2p.frozen 0
  have b2 := (h1.box.keep K2 (fun e => h.n1 e.symm)).cell (j := 0) rfl
  have K3 : Keep w2 (w2.setCell ⟨gp, 0, none⟩ (.int .i64 (wrap64 (p + 1)))) (· = gp) := (Keep.refl w2 (· = gp)).setCell (fun _ => rfl) 0 _
  have h3p := h2p.set 0 (.int .i64 (wrap64 (p + 1)))
  have R3 := R2.keep K3 h.n2 (fun k hk => by rw [hk]; exact h.lowp)
  have b3 := ((h1.box.keep K2 (fun e => h.n1 e.symm)).keep K3 (fun e => h.n4 e.symm)).cell (j := 0) rfl
  have hKd := kind_any B g _ 0 4 (by omega) (by omega) _ R3
  have hk4 := kind_told (st.snd.fail (beg (p == 64) (decide (32 < 33 - (f : Int))))) 0 4
  change (lvX f st p).told 0 ≤ 4 at hk4
  change Calls Tryd.prog 46 _ _ (fun x w' => x = .returned (.int .i64 (((lvX f st p).told 0 : Nat) : Int)) ∧ RSx w' B g (lvX f st p).rest ∧ _) at hKd
  clear hB
  go_wp2_with fail
  refine hKd.mono ?_
  rintro x w4 ⟨rfl, R4, K4⟩
  have K24 : Keep w1 w4 (fun k => k = g ∨ k = gp) := ((K2.mono (fun _ e => .inl e)).trans K3 (fun _ _ e => .inr e)).trans K4 (fun _ _ e => .inl e)
  have h4S : LS w4 B g gb gp gf (lvS (lvX f st p) p.toNat) := h1.move K24 (lvS_rest R4) (lvS_cnt hst (h3p.keep K4 (fun e => h.n2 e.symm)))
  have P4 := P1.keep K24 (by omega)
  have Q4 := Q1.keep K24 (by omega)
  have dc4 := P4.cell (j := 0) rfl
  have HX := lv_other (f := f) (fun x hx => (hst x hx).1) h4
  obtain ⟨kk, hkk⟩ : ∃ kk, (lvX f st p).told 0 = kk := ⟨_, rfl⟩
  rw [hkk] at hk4 h4 HX
  rw [hkk]
  have HX' : Hid _ := HX
  have z1 := K1.size
  have z4 := K24.size
  have hpos : 0 < argL kk → 0 < f := fun h0 => by
    rcases lv_begin (f := f) (fun x hx => (hst x hx).1) with ⟨c, _, hX⟩ | ⟨q, bs, c, _, _, hX, _⟩ | ⟨q, bs, f', _, hf', _⟩
    · rw [hX] at hkk; simp only [Er.told] at hkk; subst hkk; simp [argL] at h0
    · rw [hX] at hkk; simp only [Er.told] at hkk; subst hkk; simp [argL] at h0
    · omega
  have ha2 : argL kk ≤ 2 := by unfold argL; split <;> (try split) <;> omega
  have hd4 : ((kk : Int) == 4) = false := beq_eq_false_iff_ne.2 (by omega)
  have i0 : (0 : Int) ≤ (kk : Int) := by omega
  have i1 : (kk : Int) < 5 := by omega
  have K5 : Keep w4 (w4.alloc (.cells #[.int .i64 (kk : Int), .int .i64 0, .slice none 0 0] 27)) (fun _ => False) := (Keep.refl w4 _).alloc _
  have S5 := h4S.keep K5 (fun _ s => s.elim) id id id id
  have X5 := Blk.new w4 27 [.int .i64 (kk : Int), .int .i64 0, .slice none 0 0]
  have P5 := P4.keep K5 id
  have Q5 := Q4.keep K5 id
  have tc := S5.tabs.lv kk (by omega)
  have hsev := sev_args f (argL kk) ha2 hf hro hpos B g gb gp gf w.heap.size _ _ S5 P5 (by omega) (by omega)
  have zs5 : (w4.alloc (.cells #[.int .i64 (kk : Int), .int .i64 0, .slice none 0 0] 27)).heap.size = w4.heap.size + 1 := by simp
  rw [zs5] at hsev
  clear HX hkk hKd hp1 h2p h3p pc pc2 pf2 b0 b2 b3 dc R2 R3 hw1 R4 P1 Q1
  go_wp2_with fail
  refine hsev.mono ?_
  rintro x w6 ⟨v, ls, cs, rfl, hls, hG, S6, O6, K6⟩
  obtain ⟨ao, cap, rfl, hN⟩ := hG.node
  have HLS : Hid (ls.length = argL kk) := hls
  rw [hls]
  clear hls hG
  have X6 := X5.keep K6 (by omega)
  have Q6 := Q5.keep K6 (by omega)
  have x0 := X6.cell (j := 0) rfl
  have x1 := X6.cell (j := 1) rfl
  have x2 := X6.cell (j := 2) rfl
  have xf := X6.frozen 2
  have K7 : Keep w6 (w6.setCell ⟨w4.heap.size, 2, none⟩ (.slice ao (argL kk) cap)) (· = w4.heap.size) := (Keep.refl w6 (· = w4.heap.size)).setCell (fun _ => rfl) 2 _
  have Q7 := Q6.keep K7 (by omega)
  have q0 := Q7.cell (j := 0) rfl
  have q1 := Q7.cell (j := 1) rfl
  have q2 := Q7.cell (j := 2) rfl
  have qf0 := Q7.frozen 0
  have qf1 := Q7.frozen 1
  have qf2 := Q7.frozen 2
  clear hsev tc
  go_wp2_with fail
  obtain ⟨Q8, K8⟩ := st3G Q7 (.int .i64 (kk : Int)) (.int .i64 0) (.slice ao (argL kk) cap)
  have d0 := Q8.cell (j := 0) rfl
  have d1 := Q8.cell (j := 1) rfl
  have d2 := Q8.cell (j := 2) rfl
  have z5 := K5.size
  have z6 := K6.size
  have z7 := K7.size
  have z8 := K8.size
  have K68 : Keep w6 _ (fun k => k = w4.heap.size ∨ k = w.heap.size + 1) := (K7.mono (fun _ e => .inl e)).trans K8 (fun _ _ e => .inr e)
  refine bodyPost_ret (v := .agg #[.int .i64 (kk : Int), .int .i64 0, .slice ao (argL kk) cap]) (by simp [results, Tryd.results44, go_sem, d0, d1, d2]) rfl ⟨.mk kk 0 ls, kk, 0, ao, argL kk, cap, rfl, ?_, fun y hy => ?_, ?_, ?_⟩
  · rw [HX'.out, snd_map _ (fun l => Lv.mk (kk : Int) 0 l)]
    exact S6.keep K68 (fun k hk => by omega) (by omega) (by omega) (by omega) (by omega)
  · rw [HX'.out] at hy
    cases hm : (lvS (lvX f st p) p.toNat).bind (rMany (rLv (f - 1)) (argL kk)) with
    | bad c => rw [hm] at hy; cases hy
    | ok u =>
      rw [hm] at hy
      simp only [Er.bind, Er.ok.injEq] at hy
      subst hy
      simp only
      rw [O6 u hm]
  · refine ⟨_, _, _, _, _, rfl, ?_⟩
    have hN8 := hN.carry (w' := (((w6.setCell ⟨w4.heap.size, 2, none⟩ (.slice ao (argL kk) cap)).setCell ⟨w.heap.size + 1, 0, none⟩ (.int .i64 (kk : Int))).setCell ⟨w.heap.size + 1, 1, none⟩ (.int .i64 0)).setCell ⟨w.heap.size + 1, 2, none⟩ (.slice ao (argL kk) cap)) (T := fun b => w.heap.size ≤ b ∧ b < w6.heap.size) (fun b hb => K68.block b hb.2 (by omega)) (fun b hb => ⟨by omega, hb.2⟩)
    rw [in_mk]
    refine ⟨ao, cap, by rw [HLS.out], ⟨by omega, by omega⟩, ⟨by omega, by omega⟩, hN8.le, hN8.max, ?_⟩
    rcases hN8.all with h0 | ⟨b, off, ha, hS, hall⟩
    · exact .inl h0
    · exact (Node.carry (T := fun b => w.heap.size ≤ b ∧ b < _) hN8 (fun _ _ => rfl) (fun b hb => ⟨hb.1, by omega⟩)).all
  · exact (((((K1.mono (fun _ s => s.elim)).trans K24 (fun _ _ s => s)).trans K5 (fun _ _ s => s.elim))).trans K6 (fun _ _ s => s)).trans K68 (fun i hi s => by omega)

theorem four_cnt {w w' : World} {B g gb gp gf q : Nat} {X Y : Er (Nat × Bs)} (h : LS w B g gb gp gf (lvS X q)) (hk : Keep w w' (· = g)) (hY : X.rest.bind (rUpTo 3 7) = Y) :
    ∃ p' : Int, -9223372036854775808 ≤ p' ∧ p' ≤ 9223372036854775807 ∧ Blk w' gp 3 [.int .i64 p'] ∧ ∀ x, (Y.bind fun y => .ok (q + 1, y.2)) = .ok x → p' = (x.1 : Int) ∧ x.1 ≤ 64 := by
  obtain ⟨p', h0, h1, h2, h3⟩ := h.cnt
  refine ⟨p', h0, h1, h2.keep hk (fun e => h.n2 e.symm), fun x hx => ?_⟩
  cases X with
  | bad c => subst hY; cases hx
  | ok z =>
    have := h3 _ rfl
    cases Y with
    | bad c => cases hx
    | ok y =>
      simp only [Er.bind, Er.ok.injEq] at hx
      subst hx
      exact this

theorem four_rest {w : World} {B g q : Nat} {Y : Er (Nat × Bs)} (h : RSx w B g Y.rest) : RSx w B g (Y.bind fun y => .ok (q, y.2)).snd := by cases Y <;> exact h

set_option maxRecDepth 100000 in
set_option maxHeartbeats 2000000 in
theorem lev44_four (f : Nat) (hf : f ≤ 32) (hro : ∀ f', f = f' + 1 → RO f') (B g gb gp gf : Nat) (st : Er (Nat × Bs)) (w : World) (h : LS w B g gb gp gf st) (p : Int) (hp : Blk w gp 3 [.int .i64 p]) (hst : ∀ x, st = .ok x → p = (x.1 : Int) ∧ x.1 ≤ 64) (h4 : (lvX f st p).told 0 = 4) :
    Calls Tryd.prog 44 #[.int .i64 (33 - (f : Int)), .pointer (some ⟨gb, 0, none⟩), .pointer (some ⟨gp, 0, none⟩), .pointer (some ⟨gf, 0, none⟩)] w (ROP w B g gb gp gf (st.bind (rLv f))) := by
  obtain ⟨l1, l2, l3, l4, l5⟩ := h.lts
  obtain ⟨w1, hw1, hb1, P1, Q1, hs1⟩ := two_newG w [.int .i64 (33 - (f : Int))] [.int .i64 0, .int .i64 0, .slice none 0 0] 3 27
  have K1 : Keep w w1 (fun _ => False) := Keep.of_below hb1 (Nat.le_refl _)
  have h1 := h.keep K1 (fun _ s => s.elim) id id id id
  have hp1 := hp.keep K1 id
  have b0 := h1.box.cell (j := 0) rfl
  have pc := hp1.cell (j := 0) rfl
  have dc := P1.cell (j := 0) rfl
  have hB := begin_any B g st.snd (p == 64) (decide (32 < 33 - (f : Int))) w1 h1.rd
  go_enter Tryd.func44, Tryd.ntmps44
  go_wp2_with fail
  refine hB.mono ?_
  rintro x w2 ⟨rfl, R2, K2⟩
  have h2p := hp1.keep K2 (fun e => h.n2 e.symm)
  have pc2 := h2p.cell (j := 0) rfl
  have pf2 := h2p.frozen 0
  have b2 := (h1.box.keep K2 (fun e => h.n1 e.symm)).cell (j := 0) rfl
  have K3 : Keep w2 (w2.setCell ⟨gp, 0, none⟩ (.int .i64 (wrap64 (p + 1)))) (· = gp) := (Keep.refl w2 (· = gp)).setCell (fun _ => rfl) 0 _
  have h3p := h2p.set 0 (.int .i64 (wrap64 (p + 1)))
  have R3 := R2.keep K3 h.n2 (fun k hk => by rw [hk]; exact h.lowp)
  have b3 := ((h1.box.keep K2 (fun e => h.n1 e.symm)).keep K3 (fun e => h.n4 e.symm)).cell (j := 0) rfl
  have hKd := kind_any B g _ 0 4 (by omega) (by omega) _ R3
  have hk4 := kind_told (st.snd.fail (beg (p == 64) (decide (32 < 33 - (f : Int))))) 0 4
  change (lvX f st p).told 0 ≤ 4 at hk4
  change Calls Tryd.prog 46 _ _ (fun x w' => x = .returned (.int .i64 (((lvX f st p).told 0 : Nat) : Int)) ∧ RSx w' B g (lvX f st p).rest ∧ _) at hKd
  clear hB
  go_wp2_with fail
  refine hKd.mono ?_
  rintro x w4 ⟨rfl, R4, K4⟩
  have K24 : Keep w1 w4 (fun k => k = g ∨ k = gp) := ((K2.mono (fun _ e => .inl e)).trans K3 (fun _ _ e => .inr e)).trans K4 (fun _ _ e => .inl e)
  have h4S : LS w4 B g gb gp gf (lvS (lvX f st p) p.toNat) := h1.move K24 (lvS_rest R4) (lvS_cnt hst (h3p.keep K4 (fun e => h.n2 e.symm)))
  have P4 := P1.keep K24 (by omega)
  have Q4 := Q1.keep K24 (by omega)
  have dc4 := P4.cell (j := 0) rfl
  have HX := lv_four (f := f) (fun x hx => (hst x hx).1) h4
  have HX' : Hid _ := HX
  rw [h4]
  have z1 := K1.size
  have z4 := K24.size
  have K5 : Keep w4 (w4.alloc (.cells #[.int .i64 4, .int .i64 0, .slice none 0 0] 27)) (fun _ => False) := (Keep.refl w4 _).alloc _
  have S5 := h4S.keep K5 (fun _ s => s.elim) id id id id
  have X5 := Blk.new w4 27 [.int .i64 4, .int .i64 0, .slice none 0 0]
  have P5 := P4.keep K5 id
  have Q5 := Q4.keep K5 id
  have b5 := S5.box.cell (j := 0) rfl
  have hU := upTo_any B g (lvX f st p).rest 3 7 (by omega) (by omega) _ (R4.keep K5 id (fun _ s => s.elim))
  obtain ⟨Y, hY⟩ : ∃ Y, (lvX f st p).rest.bind (rUpTo 3 7) = Y := ⟨_, rfl⟩
  have hN3 : Y.told 0 ≤ 3 := by
    rw [← hY, show (lvX f st p).rest.bind (rUpTo 3 7) = chk (fun v => decide (v ≤ 3)) 7 ((lvX f st p).rest.bind rNum) from bind_chk _ _ _ _, chk_told]
    split
    · rename_i h; simpa using h
    · omega
  rw [hY] at hU HX
  have HY : Hid _ := HX
  have HYe : Hid _ := hY
  obtain ⟨nn, hnn⟩ : ∃ nn, Y.told 0 = nn := ⟨_, rfl⟩
  rw [hnn] at hU hN3
  have HN : Hid _ := hnn
  clear HX HX' hnn hY h4 hKd hp1 h2p h3p pc pc2 pf2 b0 b2 b3 dc R2 R3 hw1 R4 P1 Q1
  go_wp2_with fail
  refine hU.mono ?_
  rintro x w5 ⟨rfl, R5, KU⟩
  clear hU
  have zs5 : (w4.alloc (.cells #[.int .i64 4, .int .i64 0, .slice none 0 0] 27)).heap.size = w4.heap.size + 1 := by simp
  have zU := KU.size
  have X5' := X5.keep KU (by omega)
  have Q5' := Q5.keep KU (by omega)
  have P5' := P5.keep KU (by omega)
  have y0 := X5'.cell (j := 0) rfl
  have y1 := X5'.cell (j := 1) rfl
  have yf := X5'.frozen 1
  have KV : Keep w5 (w5.setCell ⟨w4.heap.size, 1, none⟩ (.int .i64 (nn : Int))) (· = w4.heap.size) := (Keep.refl w5 (· = w4.heap.size)).setCell (fun _ => rfl) 1 _
  have SU := S5.move (st' := Y.bind fun y => .ok (p.toNat + 1, y.2)) (KU.mono (fun _ e => .inl e)) (four_rest R5) (four_cnt S5 KU HYe.out)
  have SV := SU.keep KV (fun k hk => by omega) (by omega) (by omega) (by omega) (by omega)
  have XV := X5'.set 1 (.int .i64 (nn : Int))
  have PV := P5'.keep KV (by omega)
  have QV := Q5'.keep KV (by omega)
  have v0 := XV.cell (j := 0) rfl
  have tc : (w5.setCell ⟨w4.heap.size, 1, none⟩ (.int .i64 (nn : Int))).cell? ⟨0, 4, none⟩ = some (.int .i64 0) := SV.tabs.lv 4 (by omega)
  have hsev := sev_args f 0 (by omega) hf hro (fun h => by omega) B g gb gp gf w.heap.size _ _ SV PV (by omega) (by omega)
  have zs6 : (w5.setCell ⟨w4.heap.size, 1, none⟩ (.int .i64 (nn : Int))).heap.size = w5.heap.size := by simp [World.setCell]
  rw [zs6] at hsev
  change Calls Tryd.prog 48 #[.int .i64 0, _] _ _ at hsev
  clear y0 b5
  go_wp2_with fail
  refine hsev.mono ?_
  rintro x w6 ⟨v, ls, cs, rfl, hls, hG, S6, O6, K6⟩
  obtain ⟨ao, cap, rfl, hN⟩ := hG.node
  obtain rfl : ls = [] := List.eq_nil_of_length_eq_zero hls
  simp only [List.length_nil] at hN ⊢
  clear hls hG
  have X6 := XV.keep K6 (by omega)
  have Q6 := QV.keep K6 (by omega)
  have x0 := X6.cell (j := 0) rfl
  have x1 := X6.cell (j := 1) rfl
  have x2 := X6.cell (j := 2) rfl
  have xf := X6.frozen 2
  have K7 : Keep w6 (w6.setCell ⟨w4.heap.size, 2, none⟩ (.slice ao 0 cap)) (· = w4.heap.size) := (Keep.refl w6 (· = w4.heap.size)).setCell (fun _ => rfl) 2 _
  have Q7 := Q6.keep K7 (by omega)
  have q0 := Q7.cell (j := 0) rfl
  have q1 := Q7.cell (j := 1) rfl
  have q2 := Q7.cell (j := 2) rfl
  have qf0 := Q7.frozen 0
  have qf1 := Q7.frozen 1
  have qf2 := Q7.frozen 2
  clear hsev tc
  go_wp2_with fail
  obtain ⟨Q8, K8⟩ := st3G Q7 (.int .i64 4) (.int .i64 (nn : Int)) (.slice ao 0 cap)
  have d0 := Q8.cell (j := 0) rfl
  have d1 := Q8.cell (j := 1) rfl
  have d2 := Q8.cell (j := 2) rfl
  have z5 := K5.size
  have z6 := K6.size
  have z7 := K7.size
  have z8 := K8.size
  have zV := KV.size
  have K68 : Keep w6 _ (fun k => k = w4.heap.size ∨ k = w.heap.size + 1) := (K7.mono (fun _ e => .inl e)).trans K8 (fun _ _ e => .inr e)
  refine bodyPost_ret (v := .agg #[.int .i64 4, .int .i64 (nn : Int), .slice ao 0 cap]) (by simp [results, Tryd.results44, go_sem, d0, d1, d2]) rfl ⟨.mk 4 nn [], 4, nn, ao, 0, cap, rfl, ?_, fun y hy => ?_, ?_, ?_⟩
  · have e1 : (st.bind (rLv f)).snd = ((Y.bind fun y => .ok (p.toNat + 1, y.2)).bind (rMany (rLv (f - 1)) 0)).snd := by rw [HY.out]; cases Y <;> rfl
    rw [e1]
    exact S6.keep K68 (fun k hk => by omega) (by omega) (by omega) (by omega) (by omega)
  · rw [HY.out] at hy
    have hn := HN.out
    cases Y with
    | bad c => cases hy
    | ok u =>
      simp only [Er.bind, Er.ok.injEq] at hy
      subst hy
      simp only [Er.told] at hn
      simp only [hn]
  · refine ⟨_, _, _, _, _, rfl, ?_⟩
    rw [in_mk]
    exact ⟨ao, cap, rfl, ⟨by omega, by omega⟩, ⟨by omega, by omega⟩, by simp, hN.max, .inl rfl⟩
  · exact ((((((K1.mono (fun _ s => s.elim)).trans K24 (fun _ _ s => s)).trans K5 (fun _ _ s => s.elim)).trans KU (fun _ _ s => .inl s)).trans KV (fun i hi s => by omega)).trans K6 (fun _ _ s => s)).trans K68 (fun i hi s => by omega)

theorem ro_all (f : Nat) (hf : f ≤ 32) : RO f := by
  induction f with
  | zero =>
    intro B g gb gp gf st w h
    obtain ⟨p, _, _, hp, hst⟩ := h.cnt
    by_cases h4 : (lvX 0 st p).told 0 = 4
    · exact lev44_four 0 hf (fun f' e => by omega) B g gb gp gf st w h p hp hst h4
    · exact lev44_other 0 hf (fun f' e => by omega) B g gb gp gf st w h p hp hst h4
  | succ f ih =>
    intro B g gb gp gf st w h
    obtain ⟨p, _, _, hp, hst⟩ := h.cnt
    have hro : ∀ f', f + 1 = f' + 1 → RO f' := fun f' e => by
      obtain rfl : f = f' := by omega
      exact ih (by omega)
    by_cases h4 : (lvX (f + 1) st p).told 0 = 4
    · exact lev44_four (f + 1) hf hro B g gb gp gf st w h p hp hst h4
    · exact lev44_other (f + 1) hf hro B g gb gp gf st w h p hp hst h4
end Go.Proofs.YtkbpmpcbajnmlaaDoor

/- The walk of the program's reader of a level that stands by itself. No condition but that the bytes can be read, are no longer than 2^40, and that the tables are laid. -/
namespace Go.Proofs.YtkbpmpcbajnmlaaDoor
open Go.RowKit

theorem four_newG (w : World) (l0 l1 l2 l3 : List Value) (t0 t1 t2 t3 : TypeId) : ∃ w1, (((w.alloc (.cells l0.toArray t0)).alloc (.cells l1.toArray t1)).alloc (.cells l2.toArray t2)).alloc (.cells l3.toArray t3) = w1 ∧ Below w.heap.size w w1 ∧
    Blk w1 w.heap.size t0 l0 ∧ Blk w1 (w.heap.size + 1) t1 l1 ∧ Blk w1 (w.heap.size + 1 + 1) t2 l2 ∧ Blk w1 (w.heap.size + 1 + 1 + 1) t3 l3 ∧ w1.heap.size = w.heap.size + 4 := by
  obtain ⟨a, ha, hb, p0, p1, p2, hs⟩ := three_newG w l0 l1 l2 t0 t1 t2
  obtain ⟨a', ha', hb', p3, hs'⟩ := one_newG a l3 t3
  subst ha
  rw [hs] at p3
  refine ⟨a', ha', hb.trans (hb'.mono (by omega)), p0.below hb' p0.lt, p1.below hb' p1.lt, p2.below hb' p2.lt, p3, ?_⟩
  rw [← ha']; simp

/-- What reading a level tells. -/
def LvP (w : World) (B g : Nat) (res : Er (Lv × Bs)) (x : Ending) (w' : World) : Prop :=
  ∃ (L : Lv) (k m : Int) (ao : Option Addr) (l cap : Nat), x = .returned (.agg #[.int .i64 k, .int .i64 m, .slice ao l cap]) ∧ RSx w' B g res.rest ∧ (∀ y, res = .ok y → L = y.1) ∧
    LIs w' (fun b => w.heap.size ≤ b ∧ b < w'.heap.size) L [.int .i64 k, .int .i64 m, .slice ao l cap] ∧ Keep w w' (· = g)

theorem level_bind (st : Er Bs) : st.bind rLevel = ((st.bind fun bs => .ok (0, bs)).bind (rLv 32)).bind fun x => .ok (x.1, x.2.2) := by cases st <;> rfl

set_option maxRecDepth 100000 in
set_option maxHeartbeats 2000000 in
theorem level_any (B g : Nat) (st : Er Bs) (w : World) (ht : Tabs w) (h2 : 2 ≤ B) (h : RSx w B g st) : Calls Tryd.prog 29 #[.pointer (some ⟨g, 0, none⟩)] w (LvP w B g (st.bind rLevel)) := by
  have hrs : ∀ (w : World) (a : Addr) (f : Nat) (x y : Array Value), (store a (Value.func (Fn.func f) x y)).run Tryd.prog w = _ := fun w a f x y => run_store Tryd.prog w a (.func (.func f) x y) .plain rfl
  obtain ⟨hBg, hg⟩ := h.low
  obtain ⟨w1, hw1, hb1, P0, P1, P2, P3, hs1⟩ := four_newG w [.pointer (some ⟨g, 0, none⟩)] [.int .i64 0, .int .i64 0, .slice none 0 0] [.int .i64 0] [.func (.func 44) #[] #[.pointer (some ⟨w.heap.size, 0, none⟩), .pointer (some ⟨w.heap.size + 1 + 1, 0, none⟩), .pointer (some ⟨w.heap.size + 1 + 1 + 1, 0, none⟩)]] 58 27 3 84
  have K1 : Keep w w1 (fun _ => False) := Keep.of_below hb1 (Nat.le_refl _)
  have S1 : LS w1 B g w.heap.size (w.heap.size + 1 + 1) (w.heap.size + 1 + 1 + 1) (st.bind fun bs => .ok (0, bs)) :=
    ⟨ht.keep K1 (fun _ s => s.elim), h2, P0, P3, by omega, by omega, by omega, by omega, by omega, by omega, by omega, by omega, ⟨0, by omega, by omega, P2, fun x hx => by cases st with | bad c => cases hx | ok bs => simp only [Er.bind, Er.ok.injEq] at hx; subst hx; exact ⟨rfl, by simp⟩⟩, by
      have := h.keep K1 id (fun _ s => s.elim)
      cases st <;> exact this⟩
  have hro := ro_all 32 (by omega) B g _ _ _ _ w1 S1
  change Calls Tryd.prog 44 #[.int .i64 1, _, _, _] _ _ at hro
  have HW : Hid _ := hw1
  clear hw1
  go_enter Tryd.func29, Tryd.ntmps29
  go_wp2_with fail
  have hw1 := HW.out
  rw [hw1]
  refine hro.mono ?_
  rintro x w2 ⟨L, k, m, ao, l, cap, rfl, S2, O2, I2, K2⟩
  have Q2 := P1.keep K2 (by omega)
  have q0 := Q2.cell (j := 0) rfl
  have q1 := Q2.cell (j := 1) rfl
  have q2 := Q2.cell (j := 2) rfl
  have f0 := Q2.frozen 0
  have f1 := Q2.frozen 1
  have f2 := Q2.frozen 2
  clear hro hw1
  go_wp2_with fail
  obtain ⟨Q3, K3⟩ := st3G Q2 (.int .i64 k) (.int .i64 m) (.slice ao l cap)
  have d0 := Q3.cell (j := 0) rfl
  have d1 := Q3.cell (j := 1) rfl
  have d2 := Q3.cell (j := 2) rfl
  have z1 := K1.size
  have z2 := K2.size
  have z3 := K3.size
  refine bodyPost_ret (v := .agg #[.int .i64 k, .int .i64 m, .slice ao l cap]) (by simp [results, Tryd.results29, go_sem, d0, d1, d2]) rfl ⟨L, k, m, ao, l, cap, rfl, ?_, fun y hy => ?_, ?_, ?_⟩
  · have R2 := S2.rd.keep K3 (by omega) (fun k hk => by omega)
    rw [level_bind]
    cases hx : (st.bind fun bs => .ok (0, bs)).bind (rLv 32) with
    | bad c => rw [hx] at R2; exact R2
    | ok u => rw [hx] at R2; exact R2
  · rw [level_bind] at hy
    cases hx : (st.bind fun bs => .ok (0, bs)).bind (rLv 32) with
    | bad c => rw [hx] at hy; cases hy
    | ok u =>
      rw [hx] at hy
      simp only [Er.bind, Er.ok.injEq] at hy
      subst hy
      exact O2 u hx
  · exact LIs.car _ _ _ _ _ _ (fun b hb => K3.block b hb.2 (by omega)) (fun b hb => ⟨by omega, by omega⟩) I2
  · exact ((K1.mono (fun _ s => s.elim)).trans K2 (fun i hi s => by omega)).trans K3 (fun i hi s => by omega)
end Go.Proofs.YtkbpmpcbajnmlaaDoor
