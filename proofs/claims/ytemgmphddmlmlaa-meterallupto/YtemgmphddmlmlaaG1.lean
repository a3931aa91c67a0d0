/- A gauge without notes; the walks of takesParts, meets, paysToNote and spotOf. No condition but that the gauge lies in memory. -/
import Derived.Test.YtemgmphddmlmlaaApp
import Derived.Test.YtemgmphddmlmlaaGen
import Derived.Test.YtemgmphddmlmlaaBegun
namespace Go.Proofs.Ytemgmphddmlmlaa
open Go.RowKit

/-- A list of terms that is being counted: where it lies, which comes next, and the room ahead of it. -/
structure Sp where
  ts : List Tr
  a : Option Addr
  c : Nat
  b : Nat
  off : Nat
  i : Nat
  l : Int

def Sp.cells (s : Sp) : List Value := [.slice s.a s.ts.length s.c, .int .i64 0, .int .i64 (s.i : Int), .int .i64 s.l]

def Sps (sp : List Sp) : List Value := (sp.map Sp.cells).flatten

theorem Sps_len (sp : List Sp) : (Sps sp).length = sp.length * 4 := by
  induction sp with
  | nil => rfl
  | cons x r ih => simp only [Sps, List.map_cons, List.flatten_cons, List.length_append, List.length_cons] at ih ⊢; rw [ih]; simp [Sp.cells]; omega

theorem Sps_append (x y : List Sp) : Sps (x ++ y) = Sps x ++ Sps y := by simp [Sps]

/-- What is known of such a list. -/
structure SpOk (w : World) (base : Nat) (s : Sp) : Prop where
  pos : 0 < s.ts.length
  le : s.ts.length ≤ s.c
  max : s.c ≤ 9223372036854775807
  at_ : s.a = some ⟨s.b, s.off, none⟩
  lt : s.b < base
  all : TAll w (· < base) s.b s.off s.ts
  hi : s.i ≤ s.ts.length

theorem TAll.below {w w' : World} {B b off : Nat} {ts : List Tr} (h : TAll w (· < B) b off ts) (hb : b < B) (hw : Below B w w') : TAll w' (· < B) b off ts :=
  TAll.of_get fun i L hi => ⟨(h.get i L hi).1.carry (hw.block b hb), (h.get i L hi).2.below hw (Nat.le_refl _)⟩

theorem SpOk.below {w w' : World} {base : Nat} {s : Sp} (h : SpOk w base s) (hb : Below base w w') : SpOk w' base s := ⟨h.pos, h.le, h.max, h.at_, h.lt, h.all.below h.lt hb, h.hi⟩

/-- A gauge at block g: so much room, so many met, these lists open. -/
structure GS (base g : Nat) (left met : Nat) (sp : List Sp) (v : Value) (w : World) : Prop where
  blk : Blk w g 48 [.int .i64 (left : Int), .int .i64 (met : Int), v, .map none, .map none, .slice none 0 0]
  row : w.ownsRow base 61 4 v sp.length (Sps sp)
  bg : base ≤ g
  ok : ∀ s ∈ sp, SpOk w base s

theorem GS.ne {base g left met : Nat} {sp : List Sp} {v : Value} {w : World} (h : GS base g left met sp v w) : v.ownBlock ≠ some g := fun e' => by
  rcases h.row.2 with ⟨rfl, _⟩ | ⟨g', cap, cur, rfl, _, hcur, _⟩
  · cases e'
  · simp [Value.ownBlock] at e'
    subst e'
    have := h.blk
    unfold Blk at this
    rw [hcur] at this
    simp at this

/-- It stays where its blocks stay. -/
theorem GS.carry {base g left met : Nat} {sp : List Sp} {v : Value} {w w' : World} (h : GS base g left met sp v w) (hb : Below w.heap.size w w') (hB : base ≤ w.heap.size) : GS base g left met sp v w' :=
  ⟨h.blk.below hb h.blk.lt, owns_below h.row hb, h.bg, fun s hs => (h.ok s hs).below (hb.mono hB)⟩

/-- One of its numbers is written. -/
theorem GS.left {base g left met : Nat} {sp : List Sp} {v : Value} {w : World} (h : GS base g left met sp v w) (n : Nat) : GS base g n met sp v (w.setCell ⟨g, 0, none⟩ (.int .i64 (n : Int))) :=
  ⟨h.blk.set 0 _, owns_block h.row (fun k hk => Below.heap_setCell _ _ _ _ (fun e => h.ne (by simp at e; rw [hk, e]))), h.bg, fun s hs => (h.ok s hs).below ((Below.refl _ _).setCell h.bg _)⟩

theorem GS.met {base g left met : Nat} {sp : List Sp} {v : Value} {w : World} (h : GS base g left met sp v w) (n : Nat) : GS base g left n sp v (w.setCell ⟨g, 1, none⟩ (.int .i64 (n : Int))) :=
  ⟨h.blk.set 1 _, owns_block h.row (fun k hk => Below.heap_setCell _ _ _ _ (fun e => h.ne (by simp at e; rw [hk, e]))), h.bg, fun s hs => (h.ok s hs).below ((Below.refl _ _).setCell h.bg _)⟩

set_option maxRecDepth 100000 in
theorem parts_yes {base g left met : Nat} {sp : List Sp} {v : Value} {w : World} (h : GS base g left met sp v w) (count : Nat) (hc : count ≤ left) (hl : left ≤ 9223372036854775807) :
    Calls Try.prog 21 #[.pointer (some ⟨g, 0, none⟩), .int .i64 (count : Int)] w fun e w' => e = .returned (.bool true) ∧ GS base g (left - count) met sp v w' ∧ Below base w w' ∧ w'.heap.size = w.heap.size := by
  have c0 := h.blk.cell (j := 0) rfl
  have f0 := h.blk.frozen 0
  have G := h.left (left - count)
  have B := (Below.refl base w).setCell (p := ⟨g, 0, none⟩) h.bg (.int .i64 ((left - count : Nat) : Int))
  rw [show (((left - count : Nat)) : Int) = (left : Int) - count by omega] at G B
  have hz : (w.setCell ⟨g, 0, none⟩ (.int .i64 ((left : Int) - count))).heap.size = w.heap.size := by simp [World.setCell]
  clear h
  go_enter Try.func21, Try.ntmps21
  go_wp2
  go_ret
  exact ⟨rfl, G, B, hz⟩

set_option maxRecDepth 100000 in
theorem pays_no {base g left met : Nat} {sp : List Sp} {v : Value} {w : World} (h : GS base g left met sp v w) (hc : met ≤ 1048576) :
    Calls Try.prog 26 #[.pointer (some ⟨g, 0, none⟩)] w fun e w' => e = .returned (.bool false) ∧ w = w' := by
  have c0 := h.blk.cell (j := 1) rfl
  have hd : decide ((1048576 : Int) < (met : Int)) = false := by simp; omega
  clear h
  go_enter Try.func26, Try.ntmps26
  go_wp2
  go_ret
  exact ⟨rfl, rfl⟩

set_option maxRecDepth 100000 in
theorem meets_yes {base g left met : Nat} {sp : List Sp} {v : Value} {w : World} (h : GS base g left met sp v w) (count : Nat) (hm : met ≤ 1048576) (hc : met + count ≤ 67108864) :
    Calls Try.prog 25 #[.pointer (some ⟨g, 0, none⟩), .int .i64 (count : Int)] w fun e w' => e = .returned (.tuple #[]) ∧ GS base g left (met + count) sp v w' ∧ Below base w w' ∧ w'.heap.size = w.heap.size := by
  have c0 := h.blk.cell (j := 1) rfl
  have f0 := h.blk.frozen 1
  have G := h.met (met + count)
  have B := (Below.refl base w).setCell (p := ⟨g, 1, none⟩) h.bg (.int .i64 ((met + count : Nat) : Int))
  rw [show (((met + count : Nat)) : Int) = (met : Int) + count by omega] at G B
  have hz : (w.setCell ⟨g, 1, none⟩ (.int .i64 ((met : Int) + count))).heap.size = w.heap.size := by simp [World.setCell]
  have kp := pays_no h hm
  clear h
  go_enter Try.func25, Try.ntmps25
  go_wp2_with (go_at_call 26; refine kp.mono ?_; rintro e w4 ⟨rfl, rfl⟩)
  go_end0
  exact ⟨rfl, G, B, hz⟩

set_option maxRecDepth 100000 in
theorem spotT_any (a : Addr) (n c : Nat) (w : World) (hn : 0 < n) : Calls Try.prog 29 #[.slice (some a) n c] w fun e w' => e = .returned (.agg #[.pointer (some a), .int .i64 (n : Int)]) ∧ Below w.heap.size w w' := by
  go_enter Try.func29, Try.ntmps29
  go_wp2
  exact bodyPost_ret (v := .agg #[.pointer (some a), .int .i64 (n : Int)]) (by simp [results, Try.results29, go_sem]) rfl ⟨rfl, bel1 _ _⟩

theorem lookT (a : Value) (n : Int) (w : World) : (Instr.lookup 40 (.map none) (.agg #[a, .int .i64 n]) true).run Try.prog w = .ok (.tuple #[.int .i64 0, .bool false]) w := by kernel_rfl

/-- What a step of a gauge may tell: no, or yes with a gauge that has gone on. -/
def Went (ok : Bool) (base : Nat) (G : World → Prop) (w : World) (e : Ending) (w' : World) : Prop := e = .returned (.bool ok) ∧ Below base w w' ∧ w.heap.size ≤ w'.heap.size ∧ (ok = true → G w')

end Go.Proofs.Ytemgmphddmlmlaa
