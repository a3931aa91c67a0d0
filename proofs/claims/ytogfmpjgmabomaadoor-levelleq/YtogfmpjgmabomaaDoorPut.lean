/- The walks of level's work.put. No condition but that what was given are levels in memory, and that there is room for what is made. -/
import Derived.Test.YtogfmpjgmabomaaDoorEq2
import Derived.Test.YtogfmpjgmabomaaDoorOwn
namespace Go.Proofs.YtogfmpjgmabomaaDoor
open Go.RowKit

/-- What put answers, and leaves. -/
structure PP (w : World) (g : Nat) (l : Int) (L : Lv) (w' : World) (v : Value) : Prop where
  own : Own w' (w.heap.size ≤ ·) L v
  keep : Keep w w' (· = g)
  left : Blk w' g 66 [.int .i64 (l - (L.size - 1))]

/-- put at one level. -/
def PutAt (g : Nat) (by_ : List Lv) (x : Lv) : Prop := ∀ (l : Int) (w : World) (B : Nat) (va : Value) (ab : Option Addr) (capb : Nat), (((x.put by_).size : Int) - 1) ≤ l → l ≤ 65536 → B ≤ g → In w (· < B) x va → Node w (· < B) 0 0 by_ ab capb → Blk w g 66 [.int .i64 l] →
    Calls Tryd.prog 46 #[.pointer (some ⟨g, 0, none⟩), va, .slice ab by_.length capb] w fun e w' => ∃ v, e = .returned v ∧ PP w g l (x.put by_) w' v

/-- A level is stored into a block of three cells. -/
theorem st3 {w : World} {g : Nat} {t : TypeId} {x y z : Value} (h : Blk w g t [x, y, z]) (a b c : Value) :
    Blk (((w.setCell ⟨g, 0, none⟩ a).setCell ⟨g, 1, none⟩ b).setCell ⟨g, 2, none⟩ c) g t [a, b, c] ∧ Keep w (((w.setCell ⟨g, 0, none⟩ a).setCell ⟨g, 1, none⟩ b).setCell ⟨g, 2, none⟩ c) (· = g) :=
  ⟨((h.set 0 a).set 1 b).set 2 c, (((Keep.refl w (· = g)).setCell (g := g) (fun _ => rfl) 0 a).setCell (g := g) (fun _ => rfl) 1 b).setCell (g := g) (fun _ => rfl) 2 c⟩

set_option maxRecDepth 100000 in
set_option maxHeartbeats 1000000 in
theorem put_par (g : Nat) (by_ : List Lv) (n : Int) (args : List Lv) (h0 : 0 ≤ n) (h1 : n < by_.length) (hz : ∀ y ∈ by_, PutAt g [] y) : PutAt g by_ (.mk 4 n args) := by
  intro l w B va ab capb hs hl hB hin hby hg
  obtain ⟨a, cap, rfl, hN⟩ := hin.node
  obtain ⟨m, rfl⟩ : ∃ m : Nat, n = m := ⟨n.toNat, by omega⟩
  have hlt : m < by_.length := by omega
  obtain ⟨y, hy⟩ : ∃ L, by_[m]? = some L := ⟨_, List.getElem?_eq_getElem hlt⟩
  have hput : (Lv.mk 4 m args).put by_ = y := by rw [Lv.put_mk, if_pos ⟨rfl, by omega, by omega⟩]; simp [List.getD_eq_getElem?_getD, hy]
  rw [hput] at hs ⊢
  have hgl := hg.lt
  obtain ⟨w1, hw1, hb1, P1, Q1, hs1⟩ := two_new w [.int .i64 4, .int .i64 m, .slice a args.length cap] [.int .i64 0, .int .i64 0, .slice none 0 0] 24 24
  obtain ⟨b, off, k', n', args', a', cap', rfl, hS, rfl, e0, e1, e2, hN'⟩ := (hby.below hb1 (by omega)).get hy
  have hle := hby.le
  have hmx := hby.max
  have p0 := P1.cell (j := 0) rfl
  have p1 := P1.cell (j := 1) rfl
  have HY : Hid (by_[m]? = some (.mk k' n' args')) := hy
  clear hy hput
  have hc := hz _ (List.mem_of_getElem? HY.out) l w1 B _ none 0 (by rw [Lv.put_nil]; exact hs) hl hB hN'.is ⟨by omega, by omega, by omega, by omega, by simp, by omega, .inl rfl⟩ (hg.below hb1 hgl)
  rw [Lv.put_nil] at hc
  go_enter Tryd.func46, Tryd.ntmps46
  go_wp2_with (go_at_call 46; go_must (refine hc.mono ?_); rintro e w2 ⟨v, rfl, hp⟩; obtain ⟨kv, nv, av, lv, cv, rfl⟩ := hp.own.shape; have Q2 := Q1.keep hp.keep (by omega); have q0 := Q2.cell (j := 0) rfl; have q1 := Q2.cell (j := 1) rfl; have q2 := Q2.cell (j := 2) rfl; have f0 := Q2.frozen 0; have f1 := Q2.frozen 1; have f2 := Q2.frozen 2)
  obtain ⟨Q3, K3⟩ := st3 Q2 (.int .i64 kv) (.int .i64 nv) (.slice av lv cv)
  have c0 := Q3.cell (j := 0) rfl
  have c1 := Q3.cell (j := 1) rfl
  have c2 := Q3.cell (j := 2) rfl
  refine bodyPost_ret (v := .agg #[.int .i64 kv, .int .i64 nv, .slice av lv cv]) (by simp [results, Tryd.results46, go_sem, c0, c1, c2]) rfl ⟨_, rfl, ?_⟩
  exact ⟨(hp.own.keep K3 (by omega)).mono (by omega), ((Keep.of_below hb1 (Nat.le_refl _)).trans hp.keep (fun _ _ h => h)).trans K3 (by omega), hp.left.keep K3 (by omega)⟩
end Go.Proofs.YtogfmpjgmabomaaDoor
