/- The walks of level's work.put. No condition but that what was given are levels in memory, and that there is room for what is made. -/
import Derived.Test.YtogfmpjgmabomaaDoorPut
namespace Go.Proofs.YtogfmpjgmabomaaDoor
open Go.RowKit

theorem three_new (w : World) (c d e : List Value) (s t r : TypeId) : ∃ w1, ((w.alloc (.cells c.toArray s)).alloc (.cells d.toArray t)).alloc (.cells e.toArray r) = w1 ∧ Below w.heap.size w w1 ∧ Blk w1 w.heap.size s c ∧ Blk w1 (w.heap.size + 1) t d ∧ Blk w1 (w.heap.size + 1 + 1) r e ∧ w1.heap.size = w.heap.size + 3 := by
  refine ⟨_, rfl, (((Below.refl _ _).alloc (Nat.le_refl _) _).alloc (by simp) _).alloc (by simp; omega) _, ((Blk.new _ _ _).alloc _).alloc _, ?_, ?_, by simp⟩
  · have := (Blk.new (w.alloc (.cells c.toArray s)) t d).alloc (.cells e.toArray r)
    simpa using this
  · have := Blk.new ((w.alloc (.cells c.toArray s)).alloc (.cells d.toArray t)) r e
    simpa using this

set_option maxRecDepth 100000 in
set_option maxHeartbeats 1000000 in
theorem put_leaf (g : Nat) (by_ : List Lv) (k : Int) (n : Int) (hA : k ≠ 4) : PutAt g by_ (.mk k n []) := by
  intro l w B va ab capb hs hl hB hin hby hg
  obtain ⟨a, cap, rfl, hN⟩ := hin.node
  have hput : (Lv.mk k n []).put by_ = .mk k n [] := by rw [Lv.put_mk, if_neg (by omega), Lv.puts_map]; rfl
  rw [hput] at hs ⊢
  clear hput
  have hgl := hg.lt
  have k0 := hN.k0
  have k1 := hN.k1
  have n0 := hN.n0
  have n1 := hN.n1
  go_enter Tryd.func46, Tryd.ntmps46
  go_wp2_with fail
  obtain ⟨w1, hw1, hb1, P1, Q1, R1, hs1⟩ := three_new w [.int .i64 k, .int .i64 n, .slice a 0 cap] [.int .i64 k, .int .i64 n, .slice none 0 0] [.int .i64 k, .int .i64 n, .slice none 0 0] 24 24 24
  have q0 := Q1.cell (j := 0) rfl
  have q1 := Q1.cell (j := 1) rfl
  have q2 := Q1.cell (j := 2) rfl
  rw [hw1]
  refine bodyPost_ret (v := .agg #[.int .i64 k, .int .i64 n, .slice none 0 0]) (by simp [results, Tryd.results46, go_sem, q0, q1, q2]) rfl ⟨_, rfl, ?_⟩
  exact ⟨own_leaf _ _ (by omega) (by omega) _, Keep.of_below hb1 (Nat.le_refl _), by
    have := hg.below hb1 hgl
    simpa [Lv.size, Lv.sizes] using this⟩

set_option maxRecDepth 100000 in
set_option maxHeartbeats 1000000 in
theorem put_stay (g : Nat) (by_ : List Lv) (n : Int) (hA : 0 ≤ n) (hA' : (by_.length : Int) ≤ n) : PutAt g by_ (.mk 4 n []) := by
  intro l w B va ab capb hs hl hB hin hby hg
  obtain ⟨a, cap, rfl, hN⟩ := hin.node
  have hput : (Lv.mk 4 n []).put by_ = .mk 4 n [] := by rw [Lv.put_mk, if_neg (by omega), Lv.puts_map]; rfl
  rw [hput] at hs ⊢
  clear hput
  have hgl := hg.lt
  have k0 := hN.k0
  have k1 := hN.k1
  have n0 := hN.n0
  have n1 := hN.n1
  go_enter Tryd.func46, Tryd.ntmps46
  go_wp2_with fail
  obtain ⟨w1, hw1, hb1, P1, Q1, R1, hs1⟩ := three_new w [.int .i64 4, .int .i64 n, .slice a 0 cap] [.int .i64 4, .int .i64 n, .slice none 0 0] [.int .i64 4, .int .i64 n, .slice none 0 0] 24 24 24
  have q0 := Q1.cell (j := 0) rfl
  have q1 := Q1.cell (j := 1) rfl
  have q2 := Q1.cell (j := 2) rfl
  rw [hw1]
  refine bodyPost_ret (v := .agg #[.int .i64 4, .int .i64 n, .slice none 0 0]) (by simp [results, Tryd.results46, go_sem, q0, q1, q2]) rfl ⟨_, rfl, ?_⟩
  exact ⟨own_leaf _ _ (by omega) (by omega) _, Keep.of_below hb1 (Nat.le_refl _), by
    have := hg.below hb1 hgl
    simpa [Lv.size, Lv.sizes] using this⟩

theorem info24 : (Tryd.prog.info? 24).map (fun i => (i.zero, i.size, i.bytes)) = some (some (.agg #[.int .i64 0, .int .i64 0, .slice none 0 0]), 3, 40) := by kernel_rfl

theorem make24 (w : World) (n : Nat) (hn : n ≤ 1000) : (Instr.makeSlice 22 (.int .i64 (n : Int)) (.int .i64 (n : Int))).run Tryd.prog w = .ok (.slice (some ⟨w.heap.size, 0, none⟩) n n) (w.alloc (.cells (madeCells #[.int .i64 0, .int .i64 0, .slice none 0 0] (n * 3)) 24)) := by
  obtain ⟨i, hi, he⟩ := Option.map_eq_some_iff.1 info24
  simp only [Prod.mk.injEq] at he
  obtain ⟨h1, h2, h3⟩ := he
  have := run_make (P := Tryd.prog) w 22 24 i _ Tryd.underlying22 hi h1 .i64 .i64 (n : Int) (n : Int) (by omega) (by omega) (by rw [h3]; omega) (by omega)
  rw [h2] at this
  simpa [Value.cells] using this

theorem made_new (w : World) (n : Nat) : ∃ w1, w.alloc (.cells (madeCells #[.int .i64 0, .int .i64 0, .slice none 0 0] (n * 3)) 24) = w1 ∧ Below w.heap.size w w1 ∧ (∃ row : List Value, row.length = n * 3 ∧ Blk w1 w.heap.size 24 row) ∧ w1.heap.size = w.heap.size + 1 := by
  refine ⟨_, rfl, (Below.refl _ _).alloc (Nat.le_refl _) _, ⟨(madeCells #[.int .i64 0, .int .i64 0, .slice none 0 0] (n * 3)).toList, by simp [size_madeCells], ?_⟩, by simp⟩
  have := Blk.new w 24 (madeCells #[.int .i64 0, .int .i64 0, .slice none 0 0] (n * 3)).toList
  simpa using this

theorem Lv.puts_take (by_ args : List Lv) (i : Nat) : Lv.puts by_ (args.take i) = (Lv.puts by_ args).take i := by simp only [Lv.puts_map, List.map_take]
/-- What is left behind i of the args. -/
def leftAt (by_ args : List Lv) (l : Int) (i : Nat) : Int := l - args.length - (Lv.sizes ((Lv.puts by_ args).take i) - i)

theorem Lv.puts_get {by_ args : List Lv} {i : Nat} {L : Lv} (h : (Lv.puts by_ args)[i]? = some L) : ∃ x, args[i]? = some x ∧ L = x.put by_ := by
  rw [Lv.puts_map, List.getElem?_map] at h
  cases hx : args[i]? with
  | none => rw [hx] at h; cases h
  | some x => rw [hx] at h; exact ⟨x, rfl, by simpa using h.symm⟩

/-- put's loop, behind j of the args. -/
structure PL (w wr : World) (g rb : Nat) (by_ args : List Lv) (k n l : Int) (j : Nat) : Prop where
  keep : Keep w wr (· = g)
  out : Blk wr (w.heap.size + 1 + 1) 24 [.int .i64 k, .int .i64 n, .slice (some ⟨rb, 0, none⟩) args.length args.length]
  res : Blk wr (w.heap.size + 1) 24 [.int .i64 0, .int .i64 0, .slice none 0 0]
  left : Blk wr g 66 [.int .i64 (leftAt by_ args l j)]
  row : ∃ row : List Value, row.length = args.length * 3 ∧ Blk wr rb 24 row ∧ ∀ i x, i < j → args[i]? = some x → ∃ c0 c1 c2, row[i * 3]? = some c0 ∧ row[i * 3 + 1]? = some c1 ∧ row[i * 3 + 2]? = some c2 ∧ Own wr (rb < ·) (x.put by_) (.agg #[c0, c1, c2])

theorem PL.step {w wr w5 w6 : World} {g rb : Nat} {by_ args : List Lv} {k n l : Int} {j : Nat} (h : PL w wr g rb by_ args k n l j) (hg : g < w.heap.size) (hrb : w.heap.size + 2 < rb) (h5 : Below wr.heap.size wr w5) {x : Lv} (hx : args[j]? = some x)
    {v0 v1 v2 : Value} (hp : PP w5 g (leftAt by_ args l j) (x.put by_) w6 (.agg #[v0, v1, v2])) :
    PL w (((w6.setCell ⟨rb, j * 3, none⟩ v0).setCell ⟨rb, j * 3 + 1, none⟩ v1).setCell ⟨rb, j * 3 + 2, none⟩ v2) g rb by_ args k n l (j + 1) := by
  obtain ⟨row, hlen, hrow, hall⟩ := h.row
  have hj := (List.getElem?_eq_some_iff.1 hx).1
  have hrl := hrow.lt
  have hsz := h.keep.size
  have h5s := h5.size
  have hK6 : Keep wr w6 (· = g) := (Keep.of_below h5 (Nat.le_refl _)).trans hp.keep (fun _ _ h => h)
  have hK7 : Keep w6 (((w6.setCell ⟨rb, j * 3, none⟩ v0).setCell ⟨rb, j * 3 + 1, none⟩ v1).setCell ⟨rb, j * 3 + 2, none⟩ v2) (· = rb) :=
    (((Keep.refl w6 (· = rb)).setCell (g := rb) (fun _ => rfl) _ v0).setCell (g := rb) (fun _ => rfl) _ v1).setCell (g := rb) (fun _ => rfl) _ v2
  have hrow6 := hrow.keep hK6 (by omega)
  refine ⟨(h.keep.trans hK6 (fun _ _ h => h)).trans hK7 (by omega), (h.out.keep hK6 (by omega)).keep hK7 (by omega), (h.res.keep hK6 (by omega)).keep hK7 (by omega), ?_, ((row.set (j * 3) v0).set (j * 3 + 1) v1).set (j * 3 + 2) v2, by simpa using hlen, ((hrow6.set _ v0).set _ v1).set _ v2, ?_⟩
  · have h1 := hp.left.keep hK7 (by omega)
    have h2 : leftAt by_ args l (j + 1) = leftAt by_ args l j - ((x.put by_).size - 1) := by
      unfold leftAt
      have hg' : (Lv.puts by_ args)[j]? = some (x.put by_) := by rw [Lv.puts_map, List.getElem?_map, hx]; rfl
      rw [Lv.sizes_take hg']
      have := Lv.size_pos (x.put by_)
      omega
    rw [h2]; exact h1
  · intro i y hi hy
    by_cases e : i = j
    · subst e
      obtain rfl : x = y := by rw [hx] at hy; simpa using hy
      refine ⟨v0, v1, v2, ?_, ?_, ?_, (hp.own.keep hK7 (by omega)).mono (by omega)⟩
      · rw [List.getElem?_set_ne (by omega), List.getElem?_set_ne (by omega), List.getElem?_set_self (by omega)]
      · rw [List.getElem?_set_ne (by omega), List.getElem?_set_self (by simp; omega)]
      · rw [List.getElem?_set_self (by simp; omega)]
    · obtain ⟨c0, c1, c2, e0, e1, e2, ho⟩ := hall i y (by omega) hy
      refine ⟨c0, c1, c2, ?_, ?_, ?_, (ho.keep hK6 (by omega)).keep hK7 (by omega)⟩
      · rw [List.getElem?_set_ne (by omega), List.getElem?_set_ne (by omega), List.getElem?_set_ne (by omega)]; exact e0
      · rw [List.getElem?_set_ne (by omega), List.getElem?_set_ne (by omega), List.getElem?_set_ne (by omega)]; exact e1
      · rw [List.getElem?_set_ne (by omega), List.getElem?_set_ne (by omega), List.getElem?_set_ne (by omega)]; exact e2

theorem PL.done {w wr : World} {g rb : Nat} {by_ args : List Lv} {k n l : Int} (h : PL w wr g rb by_ args k n l args.length) (hg : g < w.heap.size) (hrb : w.heap.size + 2 < rb) (hk : -9223372036854775808 ≤ k ∧ k ≤ 9223372036854775807) (hn : -9223372036854775808 ≤ n ∧ n ≤ 9223372036854775807) (hl : args.length ≤ 1000) :
    PP w g l (.mk k n (Lv.puts by_ args)) (((wr.setCell ⟨w.heap.size + 1, 0, none⟩ (.int .i64 k)).setCell ⟨w.heap.size + 1, 1, none⟩ (.int .i64 n)).setCell ⟨w.heap.size + 1, 2, none⟩ (.slice (some ⟨rb, 0, none⟩) args.length args.length)) (.agg #[.int .i64 k, .int .i64 n, .slice (some ⟨rb, 0, none⟩) args.length args.length]) := by
  obtain ⟨row, hlen, hrow, hall⟩ := h.row
  obtain ⟨_, K7⟩ := st3 h.res (.int .i64 k) (.int .i64 n) (.slice (some ⟨rb, 0, none⟩) args.length args.length)
  refine ⟨?_, h.keep.trans K7 (by omega), ?_⟩
  · rw [own_mk]
    refine ⟨some ⟨rb, 0, none⟩, args.length, by rw [Lv.puts_length], hk, hn, by rw [Lv.puts_length]; exact Nat.le_refl _, by unfold maxLen; omega, .inr ⟨rb, row, rfl, by omega, hrow.keep K7 (by omega), OwnAll.of_get fun i L hi => ?_⟩⟩
    obtain ⟨x, hx, rfl⟩ := Lv.puts_get hi
    obtain ⟨c0, c1, c2, e0, e1, e2, ho⟩ := hall i x (List.getElem?_eq_some_iff.1 hx).1 hx
    exact ⟨c0, c1, c2, e0, e1, e2, (ho.keep K7 (by omega)).mono (by omega)⟩
  · have h1 := h.left.keep K7 (by omega)
    have h2 : leftAt by_ args l args.length = l - (((Lv.mk k n (Lv.puts by_ args)).size : Int) - 1) := by
      unfold leftAt
      rw [List.take_of_length_le (by rw [Lv.puts_length]; exact Nat.le_refl _), Lv.size_mk]
      omega
    rw [h2] at h1; exact h1

theorem PL.room {by_ args : List Lv} {l : Int} {j : Nat} {x : Lv} (hs : (Lv.sizes (Lv.puts by_ args) : Int) ≤ l) (hx : args[j]? = some x) : ((x.put by_).size : Int) - 1 ≤ leftAt by_ args l j ∧ leftAt by_ args l j ≤ l := by
  have hj := (List.getElem?_eq_some_iff.1 hx).1
  have hg' : (Lv.puts by_ args)[j]? = some (x.put by_) := by rw [Lv.puts_map, List.getElem?_map, hx]; rfl
  have h1 := Lv.sizes_take hg'
  have h2 : ∀ (r : List Lv) i, i ≤ r.length → Lv.sizes (r.take i) + (r.length - i) ≤ Lv.sizes r := by
    intro r
    induction r with
    | nil => intro i _; simp [Lv.sizes]
    | cons y r ih =>
      intro i hi
      cases i with
      | zero => simp only [List.take_zero, Lv.sizes, List.length_cons]; have := ih 0 (by omega); simp [Lv.sizes] at this; have := Lv.size_pos y; omega
      | succ i => simp only [List.take_succ_cons, Lv.sizes, List.length_cons]; have := ih i (by simpa using hi); omega
  have h3 := h2 (Lv.puts by_ args) (j + 1) (by rw [Lv.puts_length]; omega)
  have h4 : ∀ (r : List Lv) i, i ≤ r.length → i ≤ Lv.sizes (r.take i) := by
    intro r
    induction r with
    | nil => intro i hi; simp at hi; subst hi; exact Nat.zero_le _
    | cons y r ih =>
      intro i hi
      cases i with
      | zero => exact Nat.zero_le _
      | succ i => simp only [List.take_succ_cons, Lv.sizes]; have := ih i (by simpa using hi); have := Lv.size_pos y; omega
  have h5 := h4 (Lv.puts by_ args) j (by rw [Lv.puts_length]; omega)
  rw [Lv.puts_length] at h3
  unfold leftAt
  omega

set_option maxRecDepth 100000 in
set_option maxHeartbeats 1000000 in
theorem put_node (g : Nat) (by_ : List Lv) (k n : Int) (args : List Lv) (hk4 : k ≠ 4) (hne : args.length ≠ 0) (hl2 : args.length ≤ 2) (ih : ∀ x ∈ args, PutAt g by_ x) : PutAt g by_ (.mk k n args) := by
  intro l w B va ab capb hs hl hB hin hby hg
  obtain ⟨a, cap, rfl, hN⟩ := hin.node
  have hput : (Lv.mk k n args).put by_ = .mk k n (Lv.puts by_ args) := by rw [Lv.put_mk, if_neg (by omega)]
  rw [hput] at hs ⊢
  clear hput
  have hgl := hg.lt
  have hle := hN.le
  have hmx := hN.max
  obtain ⟨w1, hw1, hb1, P1, Q1, R1, hs1⟩ := three_new w [.int .i64 k, .int .i64 n, .slice a args.length cap] [.int .i64 0, .int .i64 0, .slice none 0 0] [.int .i64 k, .int .i64 n, .slice none 0 0] 24 24 24
  have HW : Hid (_ = w1) := hw1
  clear hw1
  have hlen0 : ((args.length : Int) == 0) = false := by simp; exact List.length_pos_iff.1 (by omega)
  have hlp : args.length ≤ Lv.sizes (Lv.puts by_ args) := by
    have h1 : ∀ l : List Lv, l.length ≤ Lv.sizes l := by
      intro l
      induction l with
      | nil => simp
      | cons x r ih => simp only [List.length_cons, Lv.sizes]; have := Lv.size_pos x; omega
    have := h1 (Lv.puts by_ args)
    rw [Lv.puts_length] at this
    exact this
  rw [Lv.size_mk] at hs
  have tk := take_any g l args.length w1 (hg.below hb1 hgl) (by omega) (by omega) hl
  have hmk := fun w => make24 w args.length (by omega)
  go_enter Tryd.func46, Tryd.ntmps46
  go_wp2_with (go_at_call 56; rw [show _ = w1 from HW.out]; go_must (refine tk.mono ?_); rintro e w2 ⟨rfl, hk2, hg2⟩; obtain ⟨w3, hw3, hb3, ⟨row0, hrow0, M3⟩, hs3⟩ := made_new w2 args.length; have hz2 := hk2.size; have P2 := P1.keep hk2 (by omega); have p2' := P2.cell (j := 2) rfl; have R3 := (R1.keep hk2 (by omega)).below hb3 (by omega); have P3 := P2.below hb3 (by omega); have p2 := P3.cell (j := 2) rfl; have r2 := R3.cell (j := 2) rfl; have fr2 := R3.frozen 2)
  have PL0 : PL w (w3.setCell ⟨w.heap.size + 1 + 1, 2, none⟩ (.slice (some ⟨w2.heap.size, 0, none⟩) args.length args.length)) g w2.heap.size by_ args k n l 0 := by
    have hk3 : Keep w w3 (· = g) := ((Keep.of_below hb1 (Nat.le_refl _)).trans hk2 (fun _ _ h => h)).low hb3 (by omega)
    exact ⟨hk3.setCell (g := w.heap.size + 1 + 1) (by omega) 2 _, R3.set 2 _, (((Q1.keep hk2 (by omega)).below hb3 (by omega)).other _ (by omega)), by
      have := (hg2.below hb3 (by omega)).other (g' := w.heap.size + 1 + 1) (j := 2) (.slice (some ⟨w2.heap.size, 0, none⟩) args.length args.length) (by omega)
      simpa [leftAt, Lv.sizes] using this, row0, hrow0, M3.other _ (by omega), fun i _ hi => absurd hi (Nat.not_lt_zero i)⟩
  have hrb : w.heap.size + 2 < w2.heap.size := by omega
  obtain ⟨rb, hrbe⟩ : ∃ rb, w2.heap.size = rb := ⟨_, rfl⟩
  rw [hrbe] at PL0 hrb ⊢
  clear hrbe P2 p2' p2 r2 fr2 R3 P3 M3 hrow0 hw3 hb3 hk2 hg2 hz2 hs3 tk P1 Q1 R1 hs1 HW hb1 hlen0
  go_loopw [58] (fun i wr => ∃ (j : Nat), i = .int .i64 (j : Int) ∧ j ≤ args.length ∧ PL w wr g rb by_ args k n l j) (fun i _ => args.length - (intOf i).toNat)
  case atStart => exact ⟨0, rfl, by omega, PL0⟩
  case round =>
    clear PL0
    obtain ⟨j, rfl, hj, hP⟩ := hrel
    have hsz := hP.keep.size
    by_cases hlt : j < args.length
    · obtain ⟨x, hx⟩ : ∃ L, args[j]? = some L := ⟨_, List.getElem?_eq_getElem hlt⟩
      obtain ⟨b, off, k1, n1, args1, a1, cap1, rfl, hS, rfl, e0, e1, e2, M1⟩ := (hN.keep hP.keep (by omega) (by omega)).get hx
      have HX : Hid (args[j]? = some (.mk k1 n1 args1)) := hx
      clear hx
      obtain ⟨w5, hw5, hb5, X5, hs5⟩ := one_new wr [.int .i64 k1, .int .i64 n1, .slice a1 args1.length cap1] 24
      have O5 := hP.out.below hb5 hP.out.lt
      have x0 := X5.cell (j := 0) rfl
      have x1 := X5.cell (j := 1) rfl
      have x2 := X5.cell (j := 2) rfl
      have o2 := O5.cell (j := 2) rfl
      obtain ⟨r1, r2⟩ := PL.room (by_ := by_) (l := l) (by omega) HX.out
      have hcall := ih _ (List.mem_of_getElem? HX.out) (leftAt by_ args l j) w5.drew B _ ab capb r1 (by omega) hB ((M1.below hb5 (by omega)).carry (w' := w5.drew) (fun _ _ => rfl) (fun _ h => h)).is (((hby.keep hP.keep (by omega) (by omega)).below hb5 (by omega)).carry (w' := w5.drew) (fun _ _ => rfl) (fun _ h => h)) (hP.left.below hb5 hP.left.lt).drew
      obtain ⟨row, hrl, hrow, _⟩ := hP.row
      have hrlt := hrow.lt
      have hj3 : j * 3 + 2 < row.length := by omega
      have hne1 : rb ≠ w.heap.size + 1 + 1 := by omega
      have hne2 : rb ≠ wr.heap.size := by omega
      go_wp2_with fail
      go_region_held3 (fun w' => w'.cell? ⟨wr.heap.size, 0, none⟩ = some (.int .i64 k1) ∧ w'.cell? ⟨wr.heap.size, 1, none⟩ = some (.int .i64 n1) ∧ w'.cell? ⟨wr.heap.size, 2, none⟩ = some (.slice a1 args1.length cap1) ∧ w'.cell? ⟨w.heap.size + 1 + 1, 2, none⟩ = some (.slice (some ⟨rb, 0, none⟩) args.length args.length)) (go_keep)
        ((go_at_call 46; refine hcall.mono ?_; rintro e w6 ⟨v, rfl, hp⟩; obtain ⟨kv, nv, av, lv, cv, rfl⟩ := hp.own.shape; have X6 := X5.drew.keep hp.keep (by omega); have y0 := X6.cell (j := 0) rfl; have y1 := X6.cell (j := 1) rfl; have y2 := X6.cell (j := 2) rfl; have O6 := O5.drew.keep hp.keep (by omega); have z2 := O6.cell (j := 2) rfl; have W6 := (hrow.below hb5 hrlt).drew.keep hp.keep (by omega); have f0 := W6.frozen (j * 3); have f1 := W6.frozen (j * 3 + 1); have f2 := W6.frozen (j * 3 + 2); have g0 := W6.cell (List.getElem?_eq_getElem (show j * 3 < row.length by omega)); have g1 := W6.cell (List.getElem?_eq_getElem (show j * 3 + 1 < row.length by omega)); have g2 := W6.cell (List.getElem?_eq_getElem (show j * 3 + 2 < row.length by omega))))
      go_wp2_with fail
      go_roundw
      case rel => exact ⟨j + 1, by go_num, by omega, hP.step (w5 := w5.drew) (by omega) hrb hb5.drew HX.out hp⟩
      case measure => simp [intOf]; omega
    · obtain rfl : j = args.length := by omega
      have D := hP.done hgl hrb ⟨hN.k0, hN.k1⟩ ⟨hN.n0, hN.n1⟩ (by omega)
      have o0 := hP.out.cell (j := 0) rfl
      have o1 := hP.out.cell (j := 1) rfl
      have o2 := hP.out.cell (j := 2) rfl
      have q0 := hP.res.cell (j := 0) rfl
      have q1 := hP.res.cell (j := 1) rfl
      have q2 := hP.res.cell (j := 2) rfl
      have f0 := hP.res.frozen 0
      have f1 := hP.res.frozen 1
      have f2 := hP.res.frozen 2
      obtain ⟨Q3, _⟩ := st3 hP.res (.int .i64 k) (.int .i64 n) (.slice (some ⟨rb, 0, none⟩) args.length args.length)
      have c0 := Q3.cell (j := 0) rfl
      have c1 := Q3.cell (j := 1) rfl
      have c2 := Q3.cell (j := 2) rfl
      go_wp2_with fail
      exact bodyPost_ret (v := .agg #[.int .i64 k, .int .i64 n, .slice (some ⟨rb, 0, none⟩) args.length args.length]) (by simp [results, Tryd.results46, go_sem, c0, c1, c2]) rfl ⟨_, rfl, D⟩
end Go.Proofs.YtogfmpjgmabomaaDoor
