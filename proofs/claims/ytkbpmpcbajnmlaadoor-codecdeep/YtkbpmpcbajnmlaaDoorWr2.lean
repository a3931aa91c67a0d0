/- The walk of the program's reader of a constructor. No condition but that the bytes can be read, are no longer than 2^40, and that the tables are laid. -/
import Derived.Test.YtkbpmpcbajnmlaaDoorTm8
import Derived.Test.YtkbpmpcbajnmlaaDoorLev4
import Derived.Deep.RegionHeld3
namespace Go.Proofs.YtkbpmpcbajnmlaaDoor
open Go.RowKit

/-- Cells written one behind the other. -/
def puts (w : World) (g : Nat) : Nat → List Value → World
  | _, [] => w
  | o, v :: r => puts (w.setCell ⟨g, o, none⟩ v) g (o + 1) r
def ovr (l : List Value) : Nat → List Value → List Value
  | _, [] => l
  | o, v :: r => ovr (l.set o v) (o + 1) r
theorem puts_blk {w : World} {g : Nat} {t : TypeId} {l : List Value} (h : Blk w g t l) (o : Nat) (vs : List Value) : Blk (puts w g o vs) g t (ovr l o vs) := by
  induction vs generalizing w l o with
  | nil => exact h
  | cons v r ih => exact ih (h.set o v) (o + 1)
theorem puts_keep {w0 w : World} {g : Nat} (o : Nat) (vs : List Value) (h : Keep w0 w (· = g)) : Keep w0 (puts w g o vs) (· = g) := by
  induction vs generalizing w o with
  | nil => exact h
  | cons v r ih => exact ih (o + 1) (h.setCell (fun _ => rfl) o v)

/-- A constructor as a struct. -/
def CIs (w : World) (S : Nat → Prop) (x : Bs × Pm) (c : List Value) : Prop := ∃ T : Tr, T.pl = x.2 ∧ c = .string ⟨x.1.toArray⟩ :: T.cells ∧ TIn w S T
theorem CIs.car : Car CIs := fun _ _ _ _ _ _ hb hT ⟨T, h1, h2, h3⟩ => ⟨T, h1, h2, TIn.carry hb hT T h3⟩

/-- What reading a constructor tells. -/
def CtP (w : World) (B g : Nat) (res : Er ((Bs × Pm) × Bs)) (x : Ending) (w' : World) : Prop :=
  ∃ (L : Bs × Pm) (s : ByteArray) (T : Tr), x = .returned (.agg #[.string s, .int .i64 T.k, .int .i64 T.n, .string T.s, .slice T.la T.ls.length T.lc, .slice T.a T.args.length T.c]) ∧ RSx w' B g res.rest ∧ (∀ y, res = .ok y → L = y.1) ∧
    CIs w' (fun b => w.heap.size ≤ b ∧ b < w'.heap.size) L [.string s, .int .i64 T.k, .int .i64 T.n, .string T.s, .slice T.la T.ls.length T.lc, .slice T.a T.args.length T.c] ∧ Keep w w' (· = g)

theorem ctor_bind (st : Er Bs) : st.bind rCtor = ((st.bind rName).rest.bind rTerm).bind fun y => .ok (((st.bind rName).told [], y.1), y.2) := by
  cases st with
  | bad c => rfl
  | ok bs =>
    show rCtor bs = ((rName bs).rest.bind rTerm).bind fun y => .ok (((rName bs).told [], y.1), y.2)
    unfold rCtor
    cases rName bs with
    | bad c => rfl
    | ok y => rfl

set_option maxRecDepth 100000 in
set_option maxHeartbeats 2000000 in
theorem ctor_any (B g : Nat) (st : Er Bs) (w : World) (ht : Tabs w) (h2 : 2 ≤ B) (h : RSx w B g st) : Calls Tryd.prog 59 #[.pointer (some ⟨g, 0, none⟩)] w (CtP w B g (st.bind rCtor)) := by
  obtain ⟨hBg, hg⟩ := h.low
  obtain ⟨w1, hw1, hb1, P1, hs1⟩ := one_newG w [.string { data := #[] }, .int .i64 0, .int .i64 0, .string { data := #[] }, .slice none 0 0, .slice none 0 0] 69
  have K1 : Keep w w1 (fun _ => False) := Keep.of_below hb1 (Nat.le_refl _)
  have R1 := h.keep K1 id (fun _ s => s.elim)
  have hN := name_any B g st w1 R1
  have HB : Hid _ := ctor_bind st
  obtain ⟨Yn, hYn⟩ : ∃ Yn, st.bind rName = Yn := ⟨_, rfl⟩
  rw [hYn] at hN HB
  have HE : Hid _ := hYn
  clear hYn
  go_enter Tryd.func59, Tryd.ntmps59
  go_wp2_with fail
  refine hN.mono ?_
  rintro x w2 ⟨rfl, R2, K2⟩
  clear hN
  obtain ⟨ss, hss⟩ : ∃ ss : ByteArray, (⟨(Yn.told []).toArray⟩ : ByteArray) = ss := ⟨_, rfl⟩
  rw [hss]
  have HS : Hid _ := hss
  clear hss
  have P2 := P1.keep K2 (by omega)
  have p0 := P2.cell (j := 0) rfl
  have pf := P2.frozen 0
  have K3 : Keep w2 (w2.setCell ⟨w.heap.size, 0, none⟩ (.string ss)) (· = w.heap.size) := (Keep.refl w2 (· = w.heap.size)).setCell (fun _ => rfl) 0 _
  have P3 := P2.set 0 (.string ss)
  have R3 := R2.keep K3 (by omega) (fun k hk => by omega)
  have T3 := ((ht.keep K1 (fun _ s => s.elim)).keep K2 (fun k hk => by omega)).keep K3 (fun k hk => by have := ht.lt; omega)
  have hT := term_any B g Yn.rest _ T3 h2 R3
  clear hw1
  go_wp2_with fail
  refine hT.mono ?_
  rintro x w4 ⟨L, T, rfl, R4, O4, I4, K4⟩
  clear hT p0 pf
  have P4 := P3.keep K4 (by omega)
  have y0 := P4.cell (j := 0) rfl
  have y1 := P4.cell (j := 1) rfl
  have y2 := P4.cell (j := 2) rfl
  have y3 := P4.cell (j := 3) rfl
  have y4 := P4.cell (j := 4) rfl
  have y5 := P4.cell (j := 5) rfl
  have f0 := P4.frozen 0
  have f1 := P4.frozen 1
  have f2 := P4.frozen 2
  have f3 := P4.frozen 3
  have f4 := P4.frozen 4
  have f5 := P4.frozen 5
  go_wp2_with fail
  obtain ⟨W, hW⟩ : ∃ W, (((((((((((w4.setCell ⟨w.heap.size, 1, none⟩ (.int .i64 T.k)).setCell ⟨w.heap.size, 2, none⟩ (.int .i64 T.n)).setCell ⟨w.heap.size, 3, none⟩ (.string T.s)).setCell ⟨w.heap.size, 4, none⟩ (.slice T.la T.ls.length T.lc)).setCell ⟨w.heap.size, 5, none⟩ (.slice T.a T.args.length T.c)).setCell ⟨w.heap.size, 0, none⟩ (.string ss)).setCell ⟨w.heap.size, 1, none⟩ (.int .i64 T.k)).setCell ⟨w.heap.size, 2, none⟩ (.int .i64 T.n)).setCell ⟨w.heap.size, 3, none⟩ (.string T.s)).setCell ⟨w.heap.size, 4, none⟩ (.slice T.la T.ls.length T.lc)).setCell ⟨w.heap.size, 5, none⟩ (.slice T.a T.args.length T.c)) = W := ⟨_, rfl⟩
  have e5 : puts (puts w4 w.heap.size 1 [.int .i64 T.k, .int .i64 T.n, .string T.s, .slice T.la T.ls.length T.lc, .slice T.a T.args.length T.c]) w.heap.size 0 [.string ss, .int .i64 T.k, .int .i64 T.n, .string T.s, .slice T.la T.ls.length T.lc, .slice T.a T.args.length T.c] = W := hW
  have K5 : Keep w4 W (· = w.heap.size) := by rw [← e5]; exact puts_keep _ _ (puts_keep _ _ (Keep.refl _ _))
  have P5 : Blk W w.heap.size 69 [.string ss, .int .i64 T.k, .int .i64 T.n, .string T.s, .slice T.la T.ls.length T.lc, .slice T.a T.args.length T.c] := by rw [← e5]; exact puts_blk (puts_blk P4 _ _) _ _
  rw [hW]
  have d0 := P5.cell (j := 0) rfl
  have d1 := P5.cell (j := 1) rfl
  have d2 := P5.cell (j := 2) rfl
  have d3 := P5.cell (j := 3) rfl
  have d4 := P5.cell (j := 4) rfl
  have d5 := P5.cell (j := 5) rfl
  have z1 := K1.size
  have z2 := K2.size
  have z3 := K3.size
  have z4 := K4.size
  have z5 := K5.size
  have zs : (w2.setCell ⟨w.heap.size, 0, none⟩ (.string ss)).heap.size = w2.heap.size := by simp [World.setCell]
  rw [zs] at I4
  refine bodyPost_ret (v := .agg #[.string ss, .int .i64 T.k, .int .i64 T.n, .string T.s, .slice T.la T.ls.length T.lc, .slice T.a T.args.length T.c]) (by simp [results, Tryd.results59, go_sem, d0, d1, d2, d3, d4, d5]) rfl ⟨(Yn.told [], L), ss, T, rfl, ?_, fun y hy => ?_, ?_, ?_⟩
  · rw [HB.out]
    have R5 := R4.keep K5 (by omega) (fun k hk => by omega)
    cases hx : Yn.rest.bind rTerm with
    | bad c => rw [hx] at R5; exact R5
    | ok u => rw [hx] at R5; exact R5
  · rw [HB.out] at hy
    cases hx : Yn.rest.bind rTerm with
    | bad c => rw [hx] at hy; cases hy
    | ok u =>
      rw [hx] at hy
      simp only [Er.bind, Er.ok.injEq] at hy
      subst hy
      simp only
      rw [O4 u hx]
  · obtain ⟨T', e1, e2, e3⟩ := TIs.car _ _ _ _ _ _ (fun b hb => K5.block b hb.2 (by omega)) (fun b (hb : _ ∧ _) => (⟨by omega, by omega⟩ : w.heap.size ≤ b ∧ b < W.heap.size)) I4
    exact ⟨T', e1, by rw [← HS.out, e2], e3⟩
  · exact ((((K1.mono (fun _ s => s.elim)).trans K2 (fun i hi s => by omega)).trans K3 (fun i hi s => by omega)).trans K4 (fun i hi s => s)).trans K5 (fun i hi s => by omega)
end Go.Proofs.YtkbpmpcbajnmlaaDoor

/- The walks of the program's writer: hasRoom, add, number, text. No condition but that what is written stays short. -/
namespace Go.Proofs.YtkbpmpcbajnmlaaDoor
open Go.RowKit

/-- The writer at block g has written bs, into nothing or into a row of its own, q. -/
structure WS (w : World) (B g : Nat) (wt : TypeId) (wl : List Value) (q : Option Nat) (bs : Bs) : Prop where
  st : ∃ ao n cap, Blk w g wt (.slice ao n cap :: .bool false :: wl) ∧ ((q = none ∧ ao = none ∧ n = 0 ∧ cap = 0 ∧ bs = []) ∨ ∃ k, q = some k ∧ ao = some ⟨k, 0, none⟩ ∧ Own 5 B w k n cap bs)
  low : B ≤ g
  short : bs.length ≤ 1000000
  ty : wt = 75 ∨ wt = 123

theorem WS.lt {w : World} {B g : Nat} {wt : TypeId} {wl : List Value} {q : Option Nat} {bs : Bs} (h : WS w B g wt wl q bs) : g < w.heap.size := by obtain ⟨_, _, _, h1, _⟩ := h.st; exact h1.lt
theorem WS.own {w : World} {B g : Nat} {wt : TypeId} {wl : List Value} {q : Option Nat} {bs : Bs} (h : WS w B g wt wl q bs) {k : Nat} (hk : q = some k) : k < w.heap.size ∧ B ≤ k ∧ k ≠ g := by
  obtain ⟨ao, n, cap, h1, h2⟩ := h.st
  rcases h2 with ⟨h2, _⟩ | ⟨k', h2, _, h3⟩
  · rw [hk] at h2; cases h2
  · rw [hk] at h2; simp at h2; subst h2
    refine ⟨h3.lt, h3.new, fun e => ?_⟩
    subst e
    obtain ⟨cur, hc, _⟩ := h3.row
    unfold Blk at h1
    rw [h1] at hc
    have hty := h.ty
    rcases hty with e | e <;> subst e <;> simp at hc
/-- A block of another type is not its row. -/
theorem WS.ne {w : World} {B g : Nat} {wt : TypeId} {wl : List Value} {q : Option Nat} {bs : Bs} (h : WS w B g wt wl q bs) {b : Nat} {t : TypeId} {l : List Value} (hb : Blk w b t l) (ht : t ≠ 5) : q ≠ some b := fun e => by
  obtain ⟨ao, n, cap, h1, h2⟩ := h.st
  rcases h2 with ⟨h2, _⟩ | ⟨k', h2, _, h3⟩
  · rw [e] at h2; cases h2
  · rw [e] at h2; simp at h2; subst h2
    obtain ⟨cur, hc, _⟩ := h3.row
    unfold Blk at hb
    rw [hb] at hc
    simp at hc
    exact ht hc.2
theorem WS.keep {w w' : World} {B g : Nat} {wt : TypeId} {wl : List Value} {q : Option Nat} {bs : Bs} {S : Nat → Prop} (h : WS w B g wt wl q bs) (hk : Keep w w' S) (hg : ¬ S g) (hq : ∀ k, q = some k → ¬ S k) : WS w' B g wt wl q bs := by
  obtain ⟨ao, n, cap, h1, h2⟩ := h.st
  refine ⟨⟨ao, n, cap, h1.keep hk hg, h2.imp id fun ⟨k, e1, e2, e3⟩ => ⟨k, e1, e2, e3.carry (hk.block k e3.lt (hq k e1))⟩⟩, h.low, h.short, h.ty⟩

/-- A block of another type is not the writer's. -/
theorem WS.apart {w : World} {B g : Nat} {wt : TypeId} {wl : List Value} {q : Option Nat} {bs : Bs} (h : WS w B g wt wl q bs) {b : Nat} {t : TypeId} {l : List Value} (hb : Blk w b t l) (h1 : t ≠ 75) (h2 : t ≠ 123) : b ≠ g := fun e => by
  subst e
  obtain ⟨ao, n, cap, h3, _⟩ := h.st
  unfold Blk at hb h3
  rw [hb] at h3
  simp at h3
  have hty := h.ty
  rcases hty with e | e
  · exact h1 (h3.2.trans e)
  · exact h2 (h3.2.trans e)

/-- What a writing call leaves. -/
def WP (w : World) (B g : Nat) (wt : TypeId) (wl : List Value) (q : Option Nat) (bs : Bs) (x : Ending) (w' : World) : Prop :=
  x = .returned (.tuple #[]) ∧ ∃ q', WS w' B g wt wl q' bs ∧ Keep w w' (fun k => k = g ∨ q = some k) ∧ (q' = q ∨ ∃ k, q' = some k ∧ w.heap.size ≤ k)

theorem room_any {wt : TypeId} {wl : List Value} (B g : Nat) (q : Option Nat) (bs : Bs) (w : World) (h : WS w B g wt wl q bs) (m : Nat) (hm : m ≤ 1000000) : Calls Tryd.prog 69 #[.pointer (some ⟨g, 0, none⟩), .int .i64 (m : Int)] w fun x w' => x = .returned (.bool true) ∧ w = w' := by
  obtain ⟨ao, n, cap, h1, h2⟩ := h.st
  have hn : n ≤ 1000000 := by
    have := h.short
    rcases h2 with ⟨_, _, h2, _⟩ | ⟨_, _, _, h2⟩
    · omega
    · rw [← h2.len]; exact this
  have c0 := h1.cell (j := 0) rfl
  have c1 := h1.cell (j := 1) rfl
  have hd : decide ((m : Int) ≤ 2147483647 - (n : Int)) = true := decide_eq_true (by omega)
  clear h2
  go_enter Tryd.func69, Tryd.ntmps69
  go_wp2_with fail
  go_ret
  exact ⟨rfl, rfl⟩

/-- append to what was written, and the header. -/
theorem ws_append {w w1 : World} {B g : Nat} {wt : TypeId} {wl : List Value} {q : Option Nat} {bs news : Bs} {ao : Option Addr} {n cap g1 m cap1 : Nat} (h1 : Blk w g wt (.slice ao n cap :: .bool false :: wl)) (h2 : (q = none ∧ ao = none ∧ n = 0 ∧ cap = 0 ∧ bs = []) ∨ ∃ k, q = some k ∧ ao = some ⟨k, 0, none⟩ ∧ Own 5 B w k n cap bs) (hB : B ≤ g) (hty : wt = 75 ∨ wt = 123) (hs : (bs ++ news).length ≤ 1000000)
    (hgq : ∀ k, q = some k → k ≠ g) (ho1 : Own 5 B w1 g1 (n + m) cap1 (bs ++ news)) (hg1 : w.grownBy w1 (Value.ownBlock (.slice ao n cap))) (hw1 : g1 = w.heap.size ∨ ao = some ⟨g1, 0, none⟩) :
    WP w B g wt wl q (bs ++ news) (.returned (.tuple #[])) (w1.setCell ⟨g, 0, none⟩ (.slice (some ⟨g1, 0, none⟩) (n + m) cap1)) := by
  have hq : (Value.ownBlock (.slice ao n cap)) = q := by
    rcases h2 with ⟨rfl, rfl, _⟩ | ⟨k, rfl, rfl, _⟩ <;> rfl
  rw [hq] at hg1
  have hqs : ∀ k, q = some k → k < w.heap.size := fun k hk => by
    rcases h2 with ⟨h2, _⟩ | ⟨k', h2, _, h3⟩
    · rw [hk] at h2; cases h2
    · rw [hk] at h2; simp at h2; subst h2; exact h3.lt
  have hg1g : g1 ≠ g := by
    rcases hw1 with e | e
    · have := h1.lt; omega
    · rcases h2 with ⟨_, h2, _⟩ | ⟨k, h2, h3, _⟩
      · rw [h2] at e; cases e
      · rw [h3] at e; simp at e; subst e; exact hgq k h2
  have hb : w1.heap[g]? = w.heap[g]? := hg1.block g h1.lt (fun e => hgq g e.symm rfl)
  have K1 : Keep w w1 (fun k => k = g ∨ q = some k) := ⟨hg1.os, hg1.tape, hg1.output, hg1.size, fun k hk hn => hg1.block k hk (fun e => hn (.inr e.symm))⟩
  refine ⟨rfl, some g1, ⟨⟨some ⟨g1, 0, none⟩, n + m, cap1, (h1.carry hb).set 0 _, .inr ⟨g1, rfl, rfl, ho1.carry (Below.heap_setCell _ _ _ _ (by simpa using hg1g))⟩⟩, hB, hs, hty⟩, K1.setCell (fun _ => .inl rfl) 0 _, ?_⟩
  rcases hw1 with e | e
  · exact .inr ⟨g1, rfl, by omega⟩
  · rcases h2 with ⟨_, h2, _⟩ | ⟨k, h2, h3, _⟩
    · rw [h2] at e; cases e
    · rw [h3] at e; simp at e; subst e; exact .inl h2.symm

set_option maxRecDepth 100000 in
set_option maxHeartbeats 1000000 in
theorem add_any {wt : TypeId} {wl : List Value} (B g : Nat) (q : Option Nat) (bs news : Bs) (so : Option Addr) (m scap : Nat) (w : World) (h : WS w B g wt wl q bs) (hr : Rd w so m scap news) (hm : 0 < m) (hs : (bs ++ news).length ≤ 1000000) :
    Calls Tryd.prog 82 #[.pointer (some ⟨g, 0, none⟩), .slice so m scap] w (WP w B g wt wl q (bs ++ news)) := by
  have hml := hr.len
  have hle : m ≤ 1000000 := by simp at hs; omega
  have hrm := room_any B g q bs w h m hle
  have hgq := fun k hk => (h.own (k := k) hk).2.2
  have hlt := h.lt
  have hlow := h.low
  have hty := h.ty
  have hsh := h.short
  obtain ⟨ao, n, cap, h1, h2⟩ := h.st
  have hnl : bs.length = n := by
    rcases h2 with ⟨_, _, h2, _, h3⟩ | ⟨_, _, _, h2⟩
    · rw [h2, h3]; rfl
    · exact h2.len
  have hA : App 5 B w ao n cap bs := by
    rcases h2 with ⟨_, rfl, rfl, rfl, rfl⟩ | ⟨k, _, rfl, h2⟩
    · exact App.nil 5 B w
    · exact h2.app
  obtain ⟨i5, hi, hz0, hz1, hz2⟩ := info_parts Tryd.info5t
  have hsrc := hr.src (P := Tryd.prog) w (tx := 22) Tryd.underlying22
  have c0 := h1.cell (j := 0) rfl
  have hfin := fun (w1 : World) (g1 cap1 : Nat) => ws_append (w1 := w1) (news := news) (g1 := g1) (m := m) (cap1 := cap1) h1 h2 hlow hty hs hgq
  have HF : Hid _ := hfin
  have hgo : some g ≠ (Value.slice ao n cap).ownBlock := fun e => by
    rcases h2 with ⟨_, rfl, _⟩ | ⟨k, hk, rfl, _⟩
    · cases e
    · simp [Value.ownBlock] at e; exact hgq k hk e.symm
  have hn6 : n ≤ 1000000 := by omega
  have HN : Hid _ := hnl
  have HM : Hid _ := hml
  clear hfin h2 hgq hs hsh h hnl hml
  go_enter Tryd.func82, Tryd.ntmps82
  go_wp2_with fail
  refine hrm.mono ?_
  rintro x w0 ⟨rfl, rfl⟩
  clear hrm
  go_wp2_with (at_builtin; refine wpList_append_bytes (P := Tryd.prog) _ (by rfl) _ _ 22 22 (by rfl) 5 i5 Tryd.underlying22 hi hz0 hz1 hz2 B (by omega) (by rfl) hA news (by rfl) hsrc (.inl hm) (by omega) ?_; intro g1 cap1 w1 ho1 hb1 hg1 hw1; have X1 := h1.carry (hg1.block g h1.lt hgo); have b0 := X1.cell (j := 0) rfl; have bf := X1.frozen 0)
  go_end0
  exact HF.out _ _ _ ho1 hg1 hw1

/-- A new row stands beside the writer. -/
theorem WS.below {w w' : World} {B g : Nat} {wt : TypeId} {wl : List Value} {q : Option Nat} {bs : Bs} (h : WS w B g wt wl q bs) (hb : Below w.heap.size w w') : WS w' B g wt wl q bs :=
  h.keep (Keep.of_below (S := fun _ => False) hb (Nat.le_refl _)) id (fun _ _ s => s)

theorem WP.behind {w w1 w' : World} {B g : Nat} {wt : TypeId} {wl : List Value} {q : Option Nat} {bs : Bs} {x : Ending} (hb : Below w.heap.size w w1) (h : WP w1 B g wt wl q bs x w') : WP w B g wt wl q bs x w' := by
  obtain ⟨h1, q', h2, h3, h4⟩ := h
  exact ⟨h1, q', h2, (Keep.of_below (S := fun k => k = g ∨ q = some k) hb (Nat.le_refl _)).trans h3 (fun _ _ s => s), h4.imp id fun ⟨k, e1, e2⟩ => ⟨k, e1, by have := hb.size; omega⟩⟩

theorem uv_pos (v : Nat) : 0 < (Lib.uvarint v).length := by rw [Lib.uvarint]; split <;> simp

set_option maxRecDepth 100000 in
set_option maxHeartbeats 1000000 in
theorem wnum_any {wt : TypeId} {wl : List Value} (B g : Nat) (q : Option Nat) (bs : Bs) (v : Nat) (w : World) (h : WS w B g wt wl q bs) (hv : v ≤ 1073741824) (hs : (bs ++ Lib.uvarint v).length ≤ 1000000) :
    Calls Tryd.prog 67 #[.pointer (some ⟨g, 0, none⟩), .int .i64 (v : Int)] w (WP w B g wt wl q (bs ++ Lib.uvarint v)) := by
  have hV := var_nil v w (by omega)
  have hd : decide ((v : Int) < 0) = false := decide_eq_false (by omega)
  have hw : IntKind.u64.wrap (v : Int) = (v : Int) := wraps_u64 _ (by omega) (by omega)
  go_enter Tryd.func67, Tryd.ntmps67
  go_wp2_with fail
  refine hV.mono ?_
  rintro x w1 ⟨g1, c1, rfl, ho1, hb1⟩
  have hA := add_any B g q bs (Lib.uvarint v) _ _ _ w1 (h.below hb1) ho1.rd (uv_pos v) hs
  clear hV
  go_wp2_with fail
  refine hA.mono ?_
  intro x w2 hP
  obtain ⟨rfl, hP'⟩ := WP.behind hb1 hP
  go_wp2_with fail
  go_end0
  exact ⟨rfl, hP'⟩

/-- A text with its length. -/
def eX (s : Bs) : Bs := Lib.uvarint s.length ++ s

theorem rd_bytes (w : World) (s : ByteArray) (c : Nat) (hc : s.size ≤ c) (hm : c ≤ maxLen) (e : TypeId) (m : Nat × Nat) : Rd (w.alloc (.cells (bytesRow s c) e m)) (some ⟨w.heap.size, 0, none⟩) s.size c s.data.toList := by
  refine ⟨by show s.data.toList.length = s.data.size; simp, hc, hm, (fun h => by cases h), fun a ha j u hu => ?_⟩
  simp at ha
  subst ha
  have hj : j < s.data.size := by have := (List.getElem?_eq_some_iff.1 hu).1; simpa using this
  rw [Addr.add_lit, Nat.zero_add, cell_of_row _ w.heap.size j _ e m (heap_alloc_new w _), bytesRow_at s c j hj]
  simp at hu
  rw [Array.getElem?_eq_getElem hj] at hu
  simp at hu
  rw [← hu]

set_option maxRecDepth 100000 in
set_option maxHeartbeats 1000000 in
theorem wtext_any {wt : TypeId} {wl : List Value} (B g : Nat) (q : Option Nat) (bs s : Bs) (w : World) (h : WS w B g wt wl q bs) (hs : (bs ++ eX s).length ≤ 1000000) :
    Calls Tryd.prog 73 #[.pointer (some ⟨g, 0, none⟩), .string ⟨s.toArray⟩] w (WP w B g wt wl q (bs ++ eX s)) := by
  have hsl : s.length ≤ 1000000 := by simp [eX] at hs; omega
  have hcv := run_bytes_of_string (P := Tryd.prog) w 9 22 5 ⟨s.toArray⟩ Tryd.underlying9 Tryd.underlying22 Tryd.underlying5
  have hsz : (⟨s.toArray⟩ : ByteArray).size = s.length := by show (List.toArray _).size = _; simp
  rw [hsz] at hcv
  have hge := grownCap_ge w s.length 0 5
  have hcm := grownCap_le_maxLen w s.length 0 5 (by unfold maxLen; omega)
  generalize grownCap w s.length 0 5 = c at hcv hge hcm
  obtain ⟨w1, hw1⟩ : ∃ w1, w.drew.alloc (.cells (bytesRow ⟨s.toArray⟩ c) 5 ((bytesRow ⟨s.toArray⟩ c).size, (bytesRow ⟨s.toArray⟩ c).size + 1)) = w1 := ⟨_, rfl⟩
  have hr : Rd w1 (some ⟨w.heap.size, 0, none⟩) s.length c s := by
    have := rd_bytes w.drew ⟨s.toArray⟩ c (by rw [hsz]; exact hge) hcm 5 ((bytesRow ⟨s.toArray⟩ c).size, (bytesRow ⟨s.toArray⟩ c).size + 1)
    rw [hw1, hsz] at this
    simpa using this
  have hb1 : Below w.heap.size w w1 := by rw [← hw1]; exact ((Below.refl _ _).drew).alloc (Nat.le_refl _) _
  rw [hw1] at hcv
  have hT := text_any none 0 0 [] (some ⟨w.heap.size, 0, none⟩) s.length c s w1 (App.nil 5 0 _).1 hr (by omega) (by omega)
  simp only [Nat.zero_add, List.nil_append] at hT
  clear hw1 hsz hge hcm
  go_enter Tryd.func73, Tryd.ntmps73
  go_wp2_with fail
  refine hT.mono ?_
  rintro x w2 ⟨g1, c1, rfl, ho1, hb2⟩
  have hA := add_any B g q bs (eX s) _ _ _ w2 ((h.below hb1).below hb2) ho1.rd (by have := uv_pos s.length; omega) hs
  clear hT hcv
  go_wp2_with fail
  refine hA.mono ?_
  intro x w3 hP
  obtain ⟨rfl, hP'⟩ := WP.behind (hb1.trans (hb2.mono hb1.size)) hP
  go_wp2_with fail
  go_end0
  exact ⟨rfl, hP'⟩
end Go.Proofs.YtkbpmpcbajnmlaaDoor

/- The walks of the program's writer of levels. No condition but that the level is formed as its Kind asks, and that what is written stays short. -/
namespace Go.Proofs.YtkbpmpcbajnmlaaDoor
open Go.RowKit

/-- A level that is formed as its Kind asks. -/
inductive WfL : Lv → Prop
  | mk {k n : Nat} {args : List Lv} : k ≤ 4 → args.length = argL k → (k ≠ 4 → n = 0) → n ≤ 1073741824 → (∀ L ∈ args, WfL L) → WfL (.mk (k : Int) (n : Int) args)

mutual
/-- Its bytes. -/
def eL : Lv → Bs
  | .mk k n args => Lib.uvarint k.toNat ++ (if k = 4 then Lib.uvarint n.toNat else []) ++ eLs args
def eLs : List Lv → Bs
  | [] => []
  | L :: r => eL L ++ eLs r
end
theorem eL_mk (k n : Int) (args : List Lv) : eL (.mk k n args) = Lib.uvarint k.toNat ++ (if k = 4 then Lib.uvarint n.toNat else []) ++ eLs args := by simp only [eL]
theorem eLs_append (a b : List Lv) : eLs (a ++ b) = eLs a ++ eLs b := by
  induction a with
  | nil => simp only [List.nil_append, eLs]
  | cons x r ih => simp only [List.cons_append, eLs, ih, List.append_assoc]
theorem eLs_take {l : List Lv} {i : Nat} {L : Lv} (h : l[i]? = some L) : eLs (l.take (i + 1)) = eLs (l.take i) ++ eL L := by
  have hlt := (List.getElem?_eq_some_iff.1 h).1
  rw [List.take_add_one, h, eLs_append]; simp [eLs]
theorem eLs_take_le (l : List Lv) (i : Nat) : (eLs (l.take i)).length ≤ (eLs l).length := by
  have : eLs l = eLs (l.take i) ++ eLs (l.drop i) := by rw [← eLs_append, List.take_append_drop]
  rw [this]; simp

/-- A level lies at a place. -/
structure LAt (w : World) (S : Nat → Prop) (b off : Nat) (k n : Int) (args : List Lv) (a : Option Addr) (cap : Nat) : Prop where
  c0 : w.cell? ⟨b, off, none⟩ = some (.int .i64 k)
  c1 : w.cell? ⟨b, off + 1, none⟩ = some (.int .i64 n)
  c2 : w.cell? ⟨b, off + 2, none⟩ = some (.slice a args.length cap)
  nd : Node w S k n args a cap
theorem LAt.lt {w : World} {S : Nat → Prop} {b off : Nat} {k n : Int} {args : List Lv} {a : Option Addr} {cap : Nat} (h : LAt w S b off k n args a cap) : b < w.heap.size := World.block_lt_of_cell? w _ h.c0
theorem LAt.keep {w w' : World} {B : Nat} {S : Nat → Prop} {b off : Nat} {k n : Int} {args : List Lv} {a : Option Addr} {cap : Nat} (h : LAt w (· < B) b off k n args a cap) (hb : b < B) (hk : Keep w w' S) (hS : ∀ i, S i → B ≤ i) (hB : B ≤ w.heap.size) : LAt w' (· < B) b off k n args a cap := by
  have hn : ¬ S b := fun s => by have := hS b s; omega
  exact ⟨(hk.kcell _ _ h.lt hn).trans h.c0, (hk.kcell _ _ h.lt hn).trans h.c1, (hk.kcell _ _ h.lt hn).trans h.c2, h.nd.keep hk hB hS⟩

theorem Blk.ne {w : World} {a b : Nat} {t t' : TypeId} {l l' : List Value} (h : Blk w a t l) (h' : Blk w b t' l') (ht : t ≠ t') : a ≠ b := fun e => by
  subst e
  unfold Blk at h h'
  rw [h] at h'
  simp at h'
  exact ht h'.2

theorem argL_lt (k : Nat) : argL k ≤ 2 := by unfold argL; split <;> (try split) <;> omega

set_option maxRecDepth 100000 in
set_option maxHeartbeats 2000000 in
theorem formed_any (b off : Nat) (k n : Nat) (args : List Lv) (a : Option Addr) (cap : Nat) (w : World) (S : Nat → Prop) (ht : Tabs w) (h : LAt w S b off k n args a cap) (hk : k ≤ 4) (hl : args.length = argL k) (hn : k ≠ 4 → n = 0) :
    Calls Tryd.prog 65 #[.pointer (some ⟨b, off, none⟩)] w fun x w' => x = .returned (.bool true) ∧ Below w.heap.size w w' := by
  have c0 := h.c0
  have c1 := h.c1
  have c2 := h.c2
  have tb := ht.lv k (by omega)
  have d0 : decide ((0 : Int) ≤ (k : Int)) = true := decide_eq_true (by omega)
  have d1 : decide ((k : Int) < 5) = true := decide_eq_true (by omega)
  have i0 : (0 : Int) ≤ (k : Int) := by omega
  have i1 : (k : Int) < 5 := by omega
  have hle := h.nd.le
  have hmx := h.nd.max
  rw [hl] at c2 hle
  have d2 : (((argL k : Nat) : Int) == ((argL k : Nat) : Int)) = true := beq_self_eq_true _
  by_cases hn0 : n = 0
  · subst hn0
    have e0 : (((0 : Nat) : Int) == 0) = true := rfl
    go_enter Tryd.func65, Tryd.ntmps65
    go_wp2_with fail
    go_quiet (fail)
    go_wp2_with fail
    go_ret
    exact ⟨rfl, bel_drewN (Below.refl _ _) _⟩
  · have e0 : ((n : Int) == 0) = false := beq_eq_false_iff_ne.2 (by omega)
    obtain rfl : k = 4 := by
      by_cases h4 : k = 4
      · exact h4
      · exact absurd (hn h4) hn0
    have e4 : (((4 : Nat) : Int) == 4) = true := rfl
    go_enter Tryd.func65, Tryd.ntmps65
    go_wp2_with fail
    go_quiet (fail)
    go_wp2_with fail
    go_ret
    exact ⟨rfl, bel_drewN (Below.refl _ _) _⟩

theorem WS.drew {w : World} {B g : Nat} {wt : TypeId} {wl : List Value} {q : Option Nat} {bs : Bs} (h : WS w B g wt wl q bs) : WS w.drew B g wt wl q bs := h.keep ((Keep.refl w (fun _ => False)).drew) id (fun _ _ s => s)

/-- What the closure that writes a level leaves. -/
def WLP (w : World) (B g : Nat) (wt : TypeId) (wl : List Value) (q : Option Nat) (bs : Bs) (gl : Nat) (left : Nat) (x : Ending) (w' : World) : Prop :=
  x = .returned (.tuple #[]) ∧ ∃ q', WS w' B g wt wl q' bs ∧ Blk w' gl 3 [.int .i64 (left : Int)] ∧ Keep w w' (fun k => k = g ∨ q = some k ∨ k = gl) ∧ (q' = q ∨ ∃ k, q' = some k ∧ w.heap.size ≤ k)

/-- The closure's cells. -/
structure WC (w : World) (B g gl gw gf : Nat) : Prop where
  tabs : Tabs w
  two : 2 ≤ B
  wb : Blk w gw 70 [.pointer (some ⟨g, 0, none⟩)]
  fn : Blk w gf 72 [.func (.func 64) #[] #[.pointer (some ⟨gl, 0, none⟩), .pointer (some ⟨gw, 0, none⟩), .pointer (some ⟨gf, 0, none⟩)]]
  low : B ≤ gl
theorem WC.keep {w w' : World} {B g gl gw gf : Nat} {S : Nat → Prop} (h : WC w B g gl gw gf) (hk : Keep w w' S) (hS : ∀ k, S k → B ≤ k) (h1 : ¬ S gw) (h2 : ¬ S gf) : WC w' B g gl gw gf :=
  ⟨h.tabs.keep hk (fun k s => by have := hS k s; have := h.two; omega), h.two, h.wb.keep hk h1, h.fn.keep hk h2, h.low⟩

def WL (L : Lv) : Prop := ∀ (w : World) (B g : Nat) (wt : TypeId) (wl : List Value) (q : Option Nat) (bs : Bs) (gl gw gf : Nat) (left : Nat) (b off : Nat) (k n : Int) (args : List Lv) (a : Option Addr) (cap : Nat), L = .mk k n args → WS w B g wt wl q bs → WC w B g gl gw gf → Blk w gl 3 [.int .i64 (left : Int)] → LAt w (· < B) b off k n args a cap → b < B → L.size ≤ left → left ≤ 65536 → (bs ++ eL L).length ≤ 1000000 →
  Calls Tryd.prog 64 #[.pointer (some ⟨b, off, none⟩), .pointer (some ⟨gl, 0, none⟩), .pointer (some ⟨gw, 0, none⟩), .pointer (some ⟨gf, 0, none⟩)] w (WLP w B g wt wl q (bs ++ eL L) gl (left - L.size))

theorem WC.drew {w : World} {B g gl gw gf : Nat} (h : WC w B g gl gw gf) : WC w.drew B g gl gw gf := h.keep ((Keep.refl w (fun _ => False)).drew) (fun _ s => s.elim) id id
theorem LAt.drew {w : World} {S : Nat → Prop} {b off : Nat} {k n : Int} {args : List Lv} {a : Option Addr} {cap : Nat} (h : LAt w S b off k n args a cap) : LAt w.drew S b off k n args a cap := ⟨h.c0, h.c1, h.c2, h.nd.carry (fun _ _ => rfl) (fun _ s => s)⟩

/-- The loop over the args, behind j of them. -/
structure WLo (w wr : World) (B g : Nat) (wt : TypeId) (wl : List Value) (q : Option Nat) (bs : Bs) (gl gw gf left : Nat) (args : List Lv) (j : Nat) : Prop where
  ws : ∃ q', WS wr B g wt wl q' (bs ++ eLs (args.take j)) ∧ (q' = q ∨ ∃ k, q' = some k ∧ w.heap.size ≤ k)
  wc : WC wr B g gl gw gf
  cn : Blk wr gl 3 [.int .i64 ((left - Lv.sizes (args.take j) : Nat) : Int)]
  kp : Keep w wr (fun k => k = g ∨ q = some k ∨ k = gl)

set_option maxRecDepth 100000 in
set_option maxHeartbeats 2000000 in
theorem wl_node (k n : Nat) (args : List Lv) (hk : k ≤ 4) (hl : args.length = argL k) (hn : k ≠ 4 → n = 0) (hn30 : n ≤ 1073741824) (ih : ∀ L ∈ args, WL L) : WL (.mk (k : Int) (n : Int) args) := by
  rintro w B g wt wl q bs gl gw gf left b off k' n' args' a cap e hW hC hgl hA hb hsz hleft hshort
  simp only [Lv.mk.injEq] at e
  obtain ⟨rfl, rfl, rfl⟩ := e
  rw [Lv.size_mk] at hsz
  rw [eL_mk] at hshort
  simp only [Int.toNat_natCast] at hshort
  have hB : B ≤ w.heap.size := by have := hW.low; have := hW.lt; omega
  have nglg : gl ≠ g := hW.apart hgl (by decide) (by decide)
  have nwg : gw ≠ g := hW.apart hC.wb (by decide) (by decide)
  have nfg : gf ≠ g := hW.apart hC.fn (by decide) (by decide)
  have nlw : gl ≠ gw := hgl.ne hC.wb (by decide)
  have nlf : gl ≠ gf := hgl.ne hC.fn (by decide)
  have nql := hW.ne hgl (by decide)
  have nqw := hW.ne hC.wb (by decide)
  have nqf := hW.ne hC.fn (by decide)
  have lq := fun i hi => (hW.own (k := i) hi).2.1
  have lglw := hgl.lt
  have lww := hC.wb.lt
  have lfw := hC.fn.lt
  have lgw := hW.lt
  have lowg := hW.low
  have lowl := hC.low
  have cl := hgl.cell (j := 0) rfl
  have fl0 := hgl.frozen 0
  have K1 : Keep w (w.setCell ⟨gl, 0, none⟩ (.int .i64 ((left : Int) - 1))) (· = gl) := (Keep.refl w (· = gl)).setCell (fun _ => rfl) 0 _
  obtain ⟨w1, hw1⟩ : ∃ w1, w.setCell ⟨gl, 0, none⟩ (.int .i64 ((left : Int) - 1)) = w1 := ⟨_, rfl⟩
  have gl1 : Blk w1 gl 3 [.int .i64 ((left : Int) - 1)] := by rw [← hw1]; exact hgl.set 0 _
  rw [hw1] at K1
  have W1 := hW.keep K1 (fun e => nglg e.symm) (fun i hi e => nql (by rw [hi, e]))
  have C1 := hC.keep K1 (fun i hi => by omega) (fun e => nlw e.symm) (fun e => nlf e.symm)
  have A1 := hA.keep hb K1 (fun i hi => by omega) hB
  have hF := formed_any b off k n args a cap w1 _ C1.tabs A1 hk hl hn
  have wb1 := C1.wb.cell (j := 0) rfl
  have l1 := gl1.cell (j := 0) rfl
  obtain ⟨ao, m, mc, B1, hst1⟩ := W1.st
  have s1 := B1.cell (j := 1) rfl
  have hd1 : decide ((left : Int) - 1 < 0) = false := decide_eq_false (by omega)
  go_enter Tryd.func64, Tryd.ntmps64
  go_wp2_with fail
  refine hF.mono ?_
  rintro x w2 ⟨rfl, hb2⟩
  have K2 : Keep w1 w2 (fun _ => False) := Keep.of_below hb2 (Nat.le_refl _)
  have z1 := K1.size
  have z2 := K2.size
  have W2 := W1.below hb2
  have C2 := C1.keep K2 (fun _ s => s.elim) id id
  have A2 := A1.keep hb K2 (fun _ s => s.elim) (by omega)
  have gl2 := gl1.keep K2 id
  have wb2 := C2.wb.cell (j := 0) rfl
  have a0 := A2.c0
  have hs1 : (bs ++ Lib.uvarint k).length ≤ 1000000 := by simp at hshort ⊢; omega
  have K02 : Keep w w2 (· = gl) := K1.trans K2 (fun _ _ s => s.elim)
  clear hF hw1 hb2 K1 K2 W1 C1 A1 gl1 wb1 l1 s1 B1 hst1 cl fl0 hgl hW
  go_wp2_with fail
  go_region_held3 (fun w' => w'.cell? ⟨gw, 0, none⟩ = some (.pointer (some ⟨g, 0, none⟩)) ∧ w'.cell? ⟨b, off, none⟩ = some (.int .i64 (k : Int))) (go_keep)
    (first
      | (go_at_call 67; refine (wnum_any B g q bs k _ (by exact W2.drew) (by omega) hs1).mono ?_; rintro x w3 ⟨rfl, q3, W3, K3', Q3'⟩; have K3 : Keep w2 w3 (fun i => i = g ∨ q = some i) := ⟨K3'.os, K3'.tape, K3'.output, K3'.size, K3'.block⟩; have z3 := K3.size; have Q3 : q3 = q ∨ ∃ i, q3 = some i ∧ w.heap.size ≤ i := (Q3'.imp id fun ⟨i, e1, e2⟩ => ⟨i, e1, Nat.le_trans (Nat.le_trans z1 z2) e2⟩); have wb3 := (K3.kcell gw 0 (by omega) (by rintro (e | e); exact nwg e; exact nqw e)).trans wb2; have a03 := (K3.kcell b off (by omega) (by rintro (e | e); omega; have := lq b e; omega)).trans a0))
  have hS3 : ∀ i, (i = g ∨ q = some i) → B ≤ i := by rintro i (e | e); omega; exact lq i e
  have C3 := C2.keep K3 hS3 (by rintro (e | e); exact nwg e; exact nqw e) (by rintro (e | e); exact nfg e; exact nqf e)
  have A3 := A2.keep hb K3 hS3 (by omega)
  have gl3 := gl2.keep K3 (by rintro (e | e); exact nglg e; exact nql e)
  have K03 : Keep w w3 (fun i => i = g ∨ q = some i ∨ i = gl) := (K02.mono (fun _ e => .inr (.inr e))).trans K3 (fun i _ e => e.elim .inl (fun e => .inr (.inl e)))
  have a1 := A3.c1
  clear K3' Q3' a0 wb2 C2 A2 gl2 W2 K02 K3
  have nq3w := W3.ne C3.wb (by decide)
  have nq3f := W3.ne C3.fn (by decide)
  have nq3l := W3.ne gl3 (by decide)
  have lq3 := fun i hi => (W3.own (k := i) hi).2.1
  by_cases hk4 : k = 4
  · subst hk4
    have hs2 : ((bs ++ Lib.uvarint 4) ++ Lib.uvarint n).length ≤ 1000000 := by simp at hshort ⊢; omega
    have n3 : b ≠ g := by omega
    go_wp2_with fail
    go_region_held3 (fun w' => w'.cell? ⟨gw, 0, none⟩ = some (.pointer (some ⟨g, 0, none⟩)) ∧ w'.cell? ⟨b, off + 1, none⟩ = some (.int .i64 (n : Int))) (go_keep)
      (first
        | (go_at_call 67; refine (wnum_any B g q3 (bs ++ Lib.uvarint 4) n _ (by exact W3.drew) (by omega) hs2).mono ?_; rintro x w4 ⟨rfl, q4, W4, K4', Q4'⟩; have K4 : Keep w3 w4 (fun i => i = g ∨ q3 = some i) := ⟨K4'.os, K4'.tape, K4'.output, K4'.size, K4'.block⟩; have z4 := K4.size; have wb4 := (K4.kcell gw 0 (by omega) (by rintro (e | e); exact nwg e; exact nq3w e)).trans wb3; have a14 := (K4.kcell b (off + 1) (by omega) (by rintro (e | e); omega; have := lq3 b e; omega)).trans a1))
    have hS4 : ∀ i, (i = g ∨ q3 = some i) → B ≤ i := by rintro i (e | e); omega; exact lq3 i e
    have A4 := A3.keep hb K4 hS4 (by omega)
    have gl4 := gl3.keep K4 (by rintro (e | e); exact nglg e; exact nq3l e)
    have C4 := C3.keep K4 hS4 (by rintro (e | e); exact nwg e; exact nq3w e) (by rintro (e | e); exact nfg e; exact nq3f e)
    have K04 : Keep w w4 (fun i => i = g ∨ q = some i ∨ i = gl) := K03.trans K4 (fun i hi e => by
      rcases e with e | e
      · exact .inl e
      · rcases Q3 with r | ⟨m, r1, r2⟩
        · rw [r] at e; exact .inr (.inl e)
        · rw [r1] at e; simp at e; omega)
    have Q4 : q4 = q ∨ ∃ i, q4 = some i ∧ w.heap.size ≤ i := by
      rcases Q4' with r | ⟨m, r1, r2⟩
      · rw [r]; exact Q3
      · exact .inr ⟨m, r1, by have : w3.drew.heap.size = w3.heap.size := rfl; omega⟩
    obtain rfl : args = [] := List.eq_nil_of_length_eq_zero (by rw [hl]; rfl)
    have a2 := A4.c2
    simp only [List.length_nil] at a2
    have hfin : WLP w B g wt wl q (bs ++ eL (.mk 4 (n : Int) [])) gl (left - (Lv.mk 4 (n : Int) []).size) (.returned (.tuple #[])) w4 := by
      refine ⟨rfl, q4, ?_, ?_, K04, Q4⟩
      · rw [eL_mk]
        have : (bs ++ Lib.uvarint 4) ++ Lib.uvarint n = bs ++ (Lib.uvarint (4 : Int).toNat ++ (if (4 : Int) = 4 then Lib.uvarint (n : Int).toNat else []) ++ eLs []) := by
          rw [if_pos rfl]; simp [eLs]
        rw [← this]; exact W4
      · rw [Lv.size_mk]
        have : (((left - (Lv.sizes [] + 1) : Nat)) : Int) = (left : Int) - 1 := by simp [Lv.sizes]; omega
        rw [this]; exact gl4
    obtain ⟨PF, hPF⟩ : ∃ PF : Prop, PF = WLP w B g wt wl q (bs ++ eL (.mk 4 (n : Int) [])) gl (left - (Lv.mk 4 (n : Int) []).size) (.returned (.tuple #[])) w4 := ⟨_, rfl⟩
    have HF : PF := by rw [hPF]; exact hfin
    have HPF : Hid _ := hPF
    clear hPF hfin wb4 a14 K4' Q4' A3 C3 gl3 wb3 a03 a1 W3
    go_wp2_with fail
    go_loopw [45] (fun i wr => i = .int .i64 0 ∧ w4 = wr) (fun _ _ => 0)
    case atStart => exact ⟨rfl, rfl⟩
    case round =>
      obtain ⟨rfl, rfl⟩ := hrel
      go_wp2_with fail
      go_end0
      rw [HPF.out] at HF
      exact HF
  · have hd4 : ((k : Int) == 4) = false := beq_eq_false_iff_ne.2 (by omega)
    have a2 := A3.c2
    have hle := A3.nd.le
    have hmx := A3.nd.max
    have hlen2 := argL_lt k
    have hs3 : (bs ++ Lib.uvarint k ++ eLs args).length ≤ 1000000 := by rw [if_neg (by omega)] at hshort; simp at hshort ⊢; omega
    obtain ⟨al, hal⟩ : ∃ al, args.length = al := ⟨_, rfl⟩
    have HL : Hid (args.length = al) := hal
    rw [hal] at a2 hle hl
    have hal2 : al ≤ 2 := by omega
    clear hal hl hn
    have R0 : WLo w w3 B g wt wl q (bs ++ Lib.uvarint k) gl gw gf (left - 1) args 0 := by
      refine ⟨⟨q3, by simpa [eLs] using W3, Q3⟩, C3, ?_, K03⟩
      have : (((left - 1 - Lv.sizes (args.take 0) : Nat)) : Int) = (left : Int) - 1 := by simp [Lv.sizes]; omega
      rw [this]; exact gl3
    clear A3 W3 Q3 gl3 nq3w nq3f nq3l lq3 a03 wb3 a1
    go_wp2_with fail
    go_loopw [45] (fun i wr => ∃ j : Nat, i = .int .i64 (j : Int) ∧ j ≤ al ∧ WLo w wr B g wt wl q (bs ++ Lib.uvarint k) gl gw gf (left - 1) args j) (fun i _ => al - (intOf i).toNat)
    case atStart => exact ⟨0, rfl, by omega, R0⟩
    case round =>
      clear R0
      obtain ⟨j, rfl, hj, hP⟩ := hrel
      have hS : ∀ i, (i = g ∨ q = some i ∨ i = gl) → B ≤ i := by rintro i (e | e | e); omega; exact lq i e; omega
      have A := hA.keep hb hP.kp hS hB
      have zr := hP.kp.size
      by_cases hlt : j < al
      · have hdj : decide ((j : Int) < (al : Int)) = true := decide_eq_true (by omega)
        obtain ⟨y, hy⟩ : ∃ L, args[j]? = some L := ⟨_, List.getElem?_eq_getElem (by rw [HL.out]; exact hlt)⟩
        obtain ⟨b', off', k', n', args', a', cap', rfl, hS', rfl, x0, x1, x2, M⟩ := A.nd.get hy
        have c2 := A.c2
        rw [HL.out] at c2
        have HY : Hid _ := hy
        have cf := hP.wc.fn.cell (j := 0) rfl
        obtain ⟨q5, W5, Q5⟩ := hP.ws
        have hpos := Lv.size_pos (.mk k' n' args')
        have hsz1 := Lv.sizes_take hy
        have hsz2 := Lv.sizes_take_le args (j + 1)
        have het := eLs_take hy
        have hel := eLs_take_le args (j + 1)
        have hcall := ih _ (List.mem_of_getElem? hy) wr.drew B g wt wl q5 (bs ++ Lib.uvarint k ++ eLs (args.take j)) gl gw gf (left - 1 - Lv.sizes (args.take j)) b' (off' + j * 3) k' n' args' a' cap' rfl W5.drew hP.wc.drew hP.cn.drew (LAt.drew ⟨x0, x1, x2, M⟩) hS' (by omega) (by omega) (by rw [het] at hel; simp at hel hs3 ⊢; omega)
        have HE : Hid (eLs (args.take (j + 1)) = _) := het
        have HZ : Hid (Lv.sizes (args.take (j + 1)) = _) := hsz1
        have e5 : (0 : Int) ≤ (j : Int) := by omega
        have e6 : (j : Int) < (al : Int) := by omega
        have nfq5 := W5.ne hP.wc.fn (by decide)
        have lq5 := fun i hi => (W5.own (k := i) hi).2.1
        have lf5 := hP.wc.fn.lt
        clear hy het hsz1 hsz2 hel hpos
        go_wp2_with fail
        go_region_held3 (fun w' => w'.cell? ⟨gf, 0, none⟩ = some (.func (.func 64) #[] #[.pointer (some ⟨gl, 0, none⟩), .pointer (some ⟨gw, 0, none⟩), .pointer (some ⟨gf, 0, none⟩)]) ∧ w'.cell? ⟨b, off + 2, none⟩ = some (.slice (some ⟨b', off', none⟩) al cap)) (go_keep)
          (first
            | (go_at_call 64; refine hcall.mono ?_; rintro x w6 ⟨rfl, q6, W6, G6, K6', Q6⟩; have K6 : Keep wr w6 (fun i => i = g ∨ q5 = some i ∨ i = gl) := ⟨K6'.os, K6'.tape, K6'.output, K6'.size, K6'.block⟩; have cf6 := (K6.kcell gf 0 lf5 (by rintro (e | e | e); exact nfg e; exact nfq5 e; exact nlf e.symm)).trans cf; have c26 := (K6.kcell b (off + 2) (by omega) (by rintro (e | e | e); omega; have := lq5 b e; omega; omega)).trans c2))
        go_wp2_with fail
        go_roundw
        case rel =>
          have hS6 : ∀ i, (i = g ∨ q5 = some i ∨ i = gl) → B ≤ i := by rintro i (e | e | e); omega; exact lq5 i e; omega
          refine ⟨j + 1, by go_num, by omega, ⟨q6, ?_, ?_⟩, ?_, ?_, ?_⟩
          · rw [HE.out, ← List.append_assoc]; exact W6
          · rcases Q6 with r | ⟨m, r1, r2⟩
            · rw [r]; exact Q5
            · exact .inr ⟨m, r1, by have : wr.drew.heap.size = wr.heap.size := rfl; omega⟩
          · exact hP.wc.keep K6 hS6 (by rintro (e | e | e); exact nwg e; exact W5.ne hP.wc.wb (by decide) e; exact nlw e.symm) (by rintro (e | e | e); exact nfg e; exact nfq5 e; exact nlf e.symm)
          · rw [HZ.out, Nat.sub_add_eq]; exact G6
          · exact hP.kp.trans K6 (fun i hi e => by
              rcases e with e | e | e
              · exact .inl e
              · rcases Q5 with r | ⟨m, r1, r2⟩
                · rw [r] at e; exact .inr (.inl e)
                · rw [r1] at e; simp at e; omega
              · exact .inr (.inr e))
        case measure => simp [intOf]; omega
      · have hdj : decide ((j : Int) < (al : Int)) = false := decide_eq_false (by omega)
        obtain rfl : j = al := by omega
        obtain ⟨q5, W5, Q5⟩ := hP.ws
        have G5 := hP.cn
        have K5 := hP.kp
        rw [List.take_of_length_le (by rw [HL.out]; omega)] at W5 G5
        go_wp2_with fail
        go_end0
        refine ⟨rfl, q5, ?_, ?_, K5, Q5⟩
        · rw [eL_mk, if_neg (by omega)]; simpa using W5
        · rw [Lv.size_mk, show left - (Lv.sizes args + 1) = left - 1 - Lv.sizes args by omega]; exact G5

theorem wl_any (L : Lv) (h : WfL L) : WL L := by
  induction h with
  | mk h1 h2 h3 h4 _ ih => exact wl_node _ _ _ h1 h2 h3 h4 ih

set_option maxRecDepth 100000 in
set_option maxHeartbeats 1000000 in
/-- A level is written. -/
theorem wlevel_any {wt : TypeId} {wl : List Value} (L : Lv) (hwf : WfL L) (w : World) (B g : Nat) (q : Option Nat) (bs : Bs) (b off : Nat) (k n : Int) (args : List Lv) (a : Option Addr) (cap : Nat) (e : L = .mk k n args) (hW : WS w B g wt wl q bs) (ht : Tabs w) (h2 : 2 ≤ B) (hA : LAt w (· < B) b off k n args a cap) (hb : b < B) (hsz : L.size ≤ 65536) (hs : (bs ++ eL L).length ≤ 1000000) :
    Calls Tryd.prog 38 #[.pointer (some ⟨g, 0, none⟩), .pointer (some ⟨b, off, none⟩)] w (WP w B g wt wl q (bs ++ eL L)) := by
  have hrs : ∀ (w : World) (a : Addr) (f : Nat) (x y : Array Value), (store a (Value.func (Fn.func f) x y)).run Tryd.prog w = _ := fun w a f x y => run_store Tryd.prog w a (.func (.func f) x y) .plain rfl
  obtain ⟨w1, hw1, hb1, P0, P1, P2, hs1⟩ := three_newG w [.pointer (some ⟨g, 0, none⟩)] [.int .i64 65536] [.func (.func 64) #[] #[.pointer (some ⟨w.heap.size + 1, 0, none⟩), .pointer (some ⟨w.heap.size, 0, none⟩), .pointer (some ⟨w.heap.size + 1 + 1, 0, none⟩)]] 70 3 72
  have K1 : Keep w w1 (fun _ => False) := Keep.of_below hb1 (Nat.le_refl _)
  have hB : B ≤ w.heap.size := by have := hW.low; have := hW.lt; omega
  have C1 : WC w1 B g (w.heap.size + 1) w.heap.size (w.heap.size + 1 + 1) := ⟨ht.keep K1 (fun _ s => s.elim), h2, P0, P2, by omega⟩
  have hc := wl_any L hwf w1 B g wt wl q bs _ _ _ 65536 b off k n args a cap e (hW.below hb1) C1 P1 (hA.keep hb K1 (fun _ s => s.elim) hB) hb hsz (Nat.le_refl _) hs
  have HW : Hid _ := hw1
  clear hw1
  go_enter Tryd.func38, Tryd.ntmps38
  go_wp2_with fail
  have hw1 := HW.out
  rw [hw1]
  refine hc.mono ?_
  rintro x w2 ⟨rfl, q2, W2, G2, K2, Q2⟩
  clear hc hw1
  go_wp2_with fail
  go_end0
  refine ⟨rfl, q2, W2, ?_, Q2.imp id fun ⟨m, r1, r2⟩ => ⟨m, r1, by omega⟩⟩
  exact (K1.mono (fun _ s => s.elim)).trans K2 (fun i hi e => by
    rcases e with e | e | e
    · exact .inl e
    · exact .inr e
    · omega)
end Go.Proofs.YtkbpmpcbajnmlaaDoor
