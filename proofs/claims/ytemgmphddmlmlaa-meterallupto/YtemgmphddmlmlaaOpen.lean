/- What a term that came in reads as; what the listed tables give; a world that has them. No condition. -/
import Derived.Test.YtemgmphddmlmlaaTm
import Derived.Test.YtemgmphddmlmlaaRows
import Derived.OpenShut
import Derived.ProofKit
import Derived.Deep.Slices
import Derived.Deep.Strs
namespace Go.Proofs.Ytemgmphddmlmlaa
open Go.RowKit Go.Deep Go.WideShapes

theorem cells53 : Try.prog.cellsOf 55 = 3 := by kernel_rfl

theorem cells27 : Try.prog.cellsOf 27 = 5 := by kernel_rfl

theorem cells24 : Try.prog.cellsOf 24 = 1 := by kernel_rfl

theorem cells25 : Try.prog.cellsOf 25 = 1 := by kernel_rfl

theorem cells9 : Try.prog.cellsOf 9 = 1 := by kernel_rfl

theorem cells3 : Try.prog.cellsOf 3 = 1 := by kernel_rfl

mutual

/-- The parts of all Levels. -/
def Tr.lv : Tr → Nat
  | .mk _ _ _ ls _ _ _ _ _ _ args => Lv.sizes ls + Tr.lvl args

def Tr.lvl : List Tr → Nat
  | [] => 0
  | T :: r => T.lv + Tr.lvl r

end

theorem Tr.lv_eq (T : Tr) : T.lv = Lv.sizes T.ls + Tr.lvl T.args := by cases T; simp only [Tr.lv, Tr.ls, Tr.args]

theorem Tr.lv_mem {l : List Tr} {T : Tr} (h : T ∈ l) : T.lv ≤ Tr.lvl l := by
  induction l with
  | nil => cases h
  | cons x r ih =>
    simp only [Tr.lvl]
    rcases List.mem_cons.1 h with rfl | h
    · omega
    · have := ih h; omega

theorem addr_none {w : World} {b off k : Nat} {spot : Option Nat} {v : Value} (h : w.cell? ((⟨b, off, spot⟩ : Addr).add (0 * k)) = some v) : spot = none := by
  have := World.cell?_spot h
  simpa [Addr.add] using this

instance : Inhabited Lv := ⟨.mk 0 0 []⟩

instance : Inhabited Tr := ⟨.mk 0 0 { data := #[] } [] none 0 none 0 0 0 []⟩

/-- Each of the elements of a slice of levels that came in is a level. -/
theorem rows_of_trod {H : Type} {enc : TypeId × Value → H} {W : World} {spare : Nat → Bool} {held : Bool} {a : Addr} {len n : Nat} {elems : List (DataW H × List MemPlace)}
    (hel : ∀ i, i < len → (W.cells? 0 (a.add (i * Try.prog.cellsOf 55)) (Try.prog.cellsOf 55)).bind (DataW.trod enc Try.prog W 0 spare held n 55) = elems[i]?) (hlen : elems.length = len)
    (ih : ∀ cs x, DataW.trod enc Try.prog W 0 spare held n 55 cs = some x → ∃ L c0 c1 c2, cs = [c0, c1, c2] ∧ In W (· < W.heap.size) L (.agg #[c0, c1, c2])) :
    ∃ args : List Lv, args.length = len ∧ (args = [] ∨ ∃ b off, a = ⟨b, off, none⟩ ∧ b < W.heap.size ∧ InAll W (· < W.heap.size) b off args) := by
  obtain ⟨b, off, spot⟩ := a
  obtain ⟨f, hf⟩ := choose_lt (α := Lv) (n := len) (p := fun i L => ∃ c0 c1 c2, W.cell? ((⟨b, off, spot⟩ : Addr).add (i * 3)) = some c0 ∧ W.cell? (((⟨b, off, spot⟩ : Addr).add (i * 3)).add 1) = some c1 ∧ W.cell? (((⟨b, off, spot⟩ : Addr).add (i * 3)).add 2) = some c2 ∧ In W (· < W.heap.size) L (.agg #[c0, c1, c2])) (fun i hi => by
    have h1 := hel i hi
    rw [List.getElem?_eq_getElem (by omega)] at h1
    obtain ⟨cs, hcs, htr⟩ := Option.bind_eq_some_iff.1 h1
    obtain ⟨L, c0, c1, c2, rfl, hin⟩ := ih cs _ htr
    rw [cells53] at hcs
    obtain ⟨_, _, hc⟩ := World.cells?_some hcs
    refine ⟨L, c0, c1, c2, ?_, ?_, ?_, hin⟩
    · have := hc 0 (by decide); simpa [Addr.add] using this
    · have := hc 1 (by decide); simpa using this
    · have := hc 2 (by decide); simpa using this)
  refine ⟨(List.range len).map f, by simp, ?_⟩
  by_cases h0 : len = 0
  · subst h0; exact .inl rfl
  · obtain ⟨c0, c1, c2, e0, _⟩ := hf 0 (by omega)
    obtain rfl := addr_none e0
    have hb : b < W.heap.size := by have := World.block_lt_of_cell? W _ e0; simpa [Addr.add] using this
    refine .inr ⟨b, off, rfl, hb, InAll.of_get fun i L hi => ?_⟩
    by_cases hi' : i < len
    · rw [List.getElem?_map, List.getElem?_range hi'] at hi
      simp only [Option.map_some, Option.some.injEq] at hi
      subst hi
      obtain ⟨d0, d1, d2, e0, e1, e2, hin⟩ := hf i hi'
      rw [Addr.add_lit] at e0
      rw [Addr.add_lit, Addr.add_lit] at e1 e2
      exact ⟨d0, d1, d2, e0, e1, e2, hin⟩
    · rw [List.getElem?_eq_none (by simp; omega)] at hi; cases hi

theorem bounds64 {n : Int} (h : (Lit.int .i64 n).wf = true) : -9223372036854775808 ≤ n ∧ n ≤ 9223372036854775807 := bounds_i64 h

set_option maxRecDepth 100000 in
/-- A level that came in is one. -/
theorem lv_of_trod {H : Type} {enc : TypeId × Value → H} {W : World} {spare : Nat → Bool} {held : Bool} (fuel : Nat) : ∀ cs x, DataW.trod enc Try.prog W 0 spare held fuel 55 cs = some x → ∃ L c0 c1 c2, cs = [c0, c1, c2] ∧ In W (· < W.heap.size) L (.agg #[c0, c1, c2]) := by
  induction fuel using Nat.strongRecOn with
  | _ fuel ih =>
    intro cs x h
    obtain ⟨xs, n, hn, _, hl, hlen, hf⟩ := DataW.trod_struct Try.underlying55 h
    rw [cells53] at hl
    match cs, hl with
    | [c0, c1, c2], _ =>
      match xs, hlen with
      | [y0, y1, y2], _ =>
        have f0 := hf 0 _ rfl
        have f1 := hf 1 _ rfl
        have f2 := hf 2 _ rfl
        simp [cells3, cells24] at f0 f1 f2
        obtain ⟨k, e0, _, wk⟩ := DataW.trod_int Try.underlying3 f0
        obtain ⟨m, e1, _, wm⟩ := DataW.trod_int Try.underlying3 f1
        simp at e0 e1
        subst e0 e1
        rcases DataW.trod_slice Try.underlying24 f2 with ⟨e2, _⟩ | ⟨a, len, cap, elems, rest, n', hn', e2, _, _, hlc, hcm, hel, hall, _, _⟩
        · simp at e2
          subst e2
          refine ⟨.mk k m [], _, _, _, rfl, ?_⟩
          rw [in_mk]
          exact ⟨none, 0, rfl, bounds64 wk, bounds64 wm, by simp, by decide, .inl rfl⟩
        · simp at e2
          subst e2
          obtain ⟨args, hal, hargs⟩ := rows_of_trod hall hel (fun cs x h => ih n' (by omega) cs x h)
          refine ⟨.mk k m args, _, _, _, rfl, ?_⟩
          rw [in_mk]
          refine ⟨some a, cap, by rw [hal], bounds64 wk, bounds64 wm, by omega, hcm, ?_⟩
          rcases hargs with h0 | ⟨b, off, rfl, hb, hin⟩
          · exact .inl h0
          · exact .inr ⟨b, off, rfl, hb, hin⟩

theorem lvs_of_trod {H : Type} {enc : TypeId × Value → H} {W : World} {spare : Nat → Bool} {held : Bool} {fuel : Nat} {c : Value} {x : DataW H × List MemPlace} (h : DataW.trod enc Try.prog W 0 spare held fuel 24 [c] = some x) : ∃ (Ls : List Lv) (a : Option Addr) (cap : Nat), c = .slice a Ls.length cap ∧ Node W (· < W.heap.size) 0 0 Ls a cap := by
  rcases DataW.trod_slice Try.underlying24 h with ⟨e, _⟩ | ⟨x, l, c, elems, rest, n', hn', e, _, _, hlc, hcm, hel, hall, _, _⟩
  · simp at e
    subst e
    exact ⟨[], none, 0, rfl, by omega, by omega, by omega, by omega, by simp, by omega, .inl rfl⟩
  · simp at e
    subst e
    obtain ⟨args, hal, hargs⟩ := rows_of_trod hall hel (fun cs x h => lv_of_trod n' cs x h)
    refine ⟨args, some x, c, by rw [hal], by omega, by omega, by omega, by omega, by omega, hcm, ?_⟩
    rcases hargs with h0 | ⟨b, off, rfl, hb, hin⟩
    · exact .inl h0
    · exact .inr ⟨b, off, rfl, hb, hin⟩

/-- The five cells of a term. -/
abbrev tcs (T : Tr) : List Value := [.int .i64 T.k, .int .i64 T.n, .string T.s, .slice T.la T.ls.length T.lc, .slice T.a T.args.length T.c]

/-- Each of the elements of a slice of terms that came in is a term. -/
theorem trs_of_trod {H : Type} {enc : TypeId × Value → H} {W : World} {spare : Nat → Bool} {held : Bool} {a : Addr} {len n : Nat} {elems : List (DataW H × List MemPlace)}
    (hel : ∀ i, i < len → (W.cells? 0 (a.add (i * Try.prog.cellsOf 27)) (Try.prog.cellsOf 27)).bind (DataW.trod enc Try.prog W 0 spare held n 27) = elems[i]?) (hlen : elems.length = len)
    (ih : ∀ cs x, DataW.trod enc Try.prog W 0 spare held n 27 cs = some x → ∃ T, cs = tcs T ∧ TIn W (· < W.heap.size) T) :
    ∃ args : List Tr, args.length = len ∧ (args = [] ∨ ∃ b off, a = ⟨b, off, none⟩ ∧ b < W.heap.size ∧ TAll W (· < W.heap.size) b off args) := by
  obtain ⟨b, off, spot⟩ := a
  obtain ⟨f, hf⟩ := choose_lt (α := Tr) (n := len) (p := fun i T => (∀ j c, (tcs T)[j]? = some c → W.cell? (((⟨b, off, spot⟩ : Addr).add (i * 5)).add j) = some c) ∧ TIn W (· < W.heap.size) T) (fun i hi => by
    have h1 := hel i hi
    rw [List.getElem?_eq_getElem (by omega)] at h1
    obtain ⟨cs, hcs, htr⟩ := Option.bind_eq_some_iff.1 h1
    obtain ⟨T, rfl, hin⟩ := ih cs _ htr
    rw [cells27] at hcs
    obtain ⟨_, _, hc⟩ := World.cells?_some hcs
    refine ⟨T, fun j c hj => ?_, hin⟩
    have hjl : j < 5 := (List.getElem?_eq_some_iff.1 hj).1
    have := hc j hjl
    rw [hj] at this
    exact this)
  refine ⟨(List.range len).map f, by simp, ?_⟩
  by_cases h0 : len = 0
  · subst h0; exact .inl rfl
  · obtain ⟨e0, _⟩ := hf 0 (by omega)
    have e00 := e0 0 _ rfl
    have hsp : spot = none := by have := World.cell?_spot e00; simpa [Addr.add] using this
    subst hsp
    have hb : b < W.heap.size := by have := World.block_lt_of_cell? W _ e00; simpa [Addr.add] using this
    refine .inr ⟨b, off, rfl, hb, TAll.of_get fun i T hi => ?_⟩
    by_cases hi' : i < len
    · rw [List.getElem?_map, List.getElem?_range hi'] at hi
      simp only [Option.map_some, Option.some.injEq] at hi
      subst hi
      obtain ⟨hc, hin⟩ := hf i hi'
      have key : ∀ j c, (tcs (f i))[j]? = some c → W.cell? ⟨b, off + i * 5 + j, none⟩ = some c := fun j c hj => by
        have := hc j c hj
        rwa [Addr.add_lit, Addr.add_lit] at this
      exact ⟨⟨key 0 _ rfl, key 1 _ rfl, key 2 _ rfl, key 3 _ rfl, key 4 _ rfl⟩, hin⟩
    · rw [List.getElem?_eq_none (by simp; omega)] at hi; cases hi

set_option maxRecDepth 100000 in
/-- A term that came in is one. -/
theorem tr_of_trod {H : Type} {enc : TypeId × Value → H} {W : World} {spare : Nat → Bool} {held : Bool} (fuel : Nat) : ∀ cs x, DataW.trod enc Try.prog W 0 spare held fuel 27 cs = some x → ∃ T, cs = tcs T ∧ TIn W (· < W.heap.size) T := by
  induction fuel using Nat.strongRecOn with
  | _ fuel ih =>
    intro cs x h
    obtain ⟨xs, n, hn, _, hl, hlen, hf⟩ := DataW.trod_struct Try.underlying27 h
    rw [cells27] at hl
    match cs, hl with
    | [c0, c1, c2, c3, c4], _ =>
      match xs, hlen with
      | [y0, y1, y2, y3, y4], _ =>
        have f0 := hf 0 _ rfl
        have f1 := hf 1 _ rfl
        have f2 := hf 2 _ rfl
        have f3 := hf 3 _ rfl
        have f4 := hf 4 _ rfl
        simp [cells3, cells9, cells24, cells25] at f0 f1 f2 f3 f4
        obtain ⟨k, e0, _, wk⟩ := DataW.trod_int Try.underlying3 f0
        obtain ⟨m, e1, _, wm⟩ := DataW.trod_int Try.underlying3 f1
        obtain ⟨s, e2, _, _⟩ := DataW.trod_string Try.underlying9 f2
        simp at e0 e1 e2
        subst e0 e1 e2
        obtain ⟨Ls, la, lc, rfl, hN⟩ := lvs_of_trod f3
        rcases DataW.trod_slice Try.underlying25 f4 with ⟨e4, _⟩ | ⟨a, len, cap, elems, rest, n', hn', e4, _, _, hlc, hcm, hel, hall, _, _⟩
        · simp at e4
          subst e4
          exact ⟨.mk k m s Ls la lc none 0 0 0 [], rfl, tin_iff.2 ⟨(bounds64 wk).1, (bounds64 wk).2, (bounds64 wm).1, (bounds64 wm).2, hN, Nat.le_refl _, by show 0 ≤ 9223372036854775807; omega, .inl rfl⟩⟩
        · simp at e4
          subst e4
          obtain ⟨args, hal, hargs⟩ := trs_of_trod hall hel (fun cs x h => ih n' (by omega) cs x h)
          refine ⟨.mk k m s Ls la lc (some a) cap a.block a.off args, by show _ = _; simp [tcs, Tr.k, Tr.n, Tr.s, Tr.la, Tr.ls, Tr.lc, Tr.a, Tr.args, Tr.c, hal], tin_iff.2 ⟨(bounds64 wk).1, (bounds64 wk).2, (bounds64 wm).1, (bounds64 wm).2, hN, by show args.length ≤ cap; omega, hcm, ?_⟩⟩
          rcases hargs with h0 | ⟨b, off, rfl, hb, hin⟩
          · exact .inl h0
          · exact .inr ⟨rfl, hb, hin⟩

set_option maxRecDepth 100000 in
theorem tr_of_row {H : Type} {enc : TypeId × Value → H} {W : World} {r : Reach} {base : Nat} {v : Value} {d : DataW H} {p : List MemPlace} (hv : Value.okWide Try.prog W r base 27 v) (h : DataW.Trod enc Try.prog W 0 (fun _ => true) true 27 v d p) : ∃ T : Tr, v = T.val ∧ TIn W (· < W.heap.size) T := by
  obtain ⟨cs, rfl, _⟩ := okWide_struct Try.underlying27 hv
  obtain ⟨fuel, hf⟩ := h
  obtain ⟨T, e, hin⟩ := tr_of_trod fuel _ _ hf
  obtain ⟨l⟩ := cs
  simp [Value.cells] at e
  subst e
  exact ⟨T, rfl, hin⟩

theorem bulk_pos {H : Type} (d : DataW H) : 1 ≤ Rows.uptoBulk d := by
  cases d with
  | lit l => cases l <;> simp [Rows.uptoBulk]
  | nil => simp [Rows.uptoBulk]
  | ptr d => simp [Rows.uptoBulk]
  | slice elems spare => simp [Rows.uptoBulk]
  | agg parts => simp [Rows.uptoBulk]
  | iface t d => simp [Rows.uptoBulk]
  | map entries => simp [Rows.uptoBulk]
  | held h => simp [Rows.uptoBulk]

/-- Each of the one weighs no more than its fellow of the other: so do all. -/
theorem lv_sum {H : Type} : ∀ (l : List Lv) (r : List (DataW H × List MemPlace)), l.length = r.length → (∀ (i : Nat) (L : Lv) (x : DataW H × List MemPlace), l[i]? = some L → r[i]? = some x → 4 * L.size ≤ Rows.uptoBulk x.1) → 4 * Lv.sizes l ≤ Rows.uptoBulkAll (r.map (·.1))
  | [], _, _, _ => by simp only [Lv.sizes]; omega
  | L :: l, [], hl, _ => by simp at hl
  | L :: l, x :: r, hl, h => by
    have h0 := h 0 L x rfl rfl
    have ih := lv_sum l r (by simpa using hl) (fun i L' x' e1 e2 => h (i + 1) L' x' (by simpa using e1) (by simpa using e2))
    simp only [Lv.sizes, List.map_cons, Rows.uptoBulkAll]
    omega

theorem tr_sum {H : Type} : ∀ (l : List Tr) (r : List (DataW H × List MemPlace)), l.length = r.length → (∀ (i : Nat) (T : Tr) (x : DataW H × List MemPlace), l[i]? = some T → r[i]? = some x → 4 * Tr.lv T ≤ Rows.uptoBulk x.1) → 4 * Tr.lvl l ≤ Rows.uptoBulkAll (r.map (·.1))
  | [], _, _, _ => by simp only [Tr.lvl]; omega
  | L :: l, [], hl, _ => by simp at hl
  | L :: l, x :: r, hl, h => by
    have h0 := h 0 L x rfl rfl
    have ih := tr_sum l r (by simpa using hl) (fun i L' x' e1 e2 => h (i + 1) L' x' (by simpa using e1) (by simpa using e2))
    simp only [Tr.lvl, List.map_cons, Rows.uptoBulkAll]
    omega

theorem rows_of_trodU {H : Type} {enc : TypeId × Value → H} {W : World} {spare : Nat → Bool} {held : Bool} {a : Addr} {len n : Nat} {elems : List (DataW H × List MemPlace)}
    (hel : ∀ i, i < len → (W.cells? 0 (a.add (i * Try.prog.cellsOf 55)) (Try.prog.cellsOf 55)).bind (DataW.trod enc Try.prog W 0 spare held n 55) = elems[i]?) (hlen : elems.length = len)
    (ih : ∀ cs x, DataW.trod enc Try.prog W 0 spare held n 55 cs = some x → ∃ L c0 c1 c2, cs = [c0, c1, c2] ∧ In W (· < W.heap.size) L (.agg #[c0, c1, c2]) ∧ 4 * L.size ≤ Rows.uptoBulk x.1) :
    ∃ args : List Lv, args.length = len ∧ 4 * Lv.sizes args ≤ Rows.uptoBulkAll (elems.map (·.1)) ∧ (args = [] ∨ ∃ b off, a = ⟨b, off, none⟩ ∧ b < W.heap.size ∧ InAll W (· < W.heap.size) b off args) := by
  obtain ⟨b, off, spot⟩ := a
  obtain ⟨f, hf⟩ := choose_lt (α := Lv) (n := len) (p := fun i L => ∃ c0 c1 c2, W.cell? ((⟨b, off, spot⟩ : Addr).add (i * 3)) = some c0 ∧ W.cell? (((⟨b, off, spot⟩ : Addr).add (i * 3)).add 1) = some c1 ∧ W.cell? (((⟨b, off, spot⟩ : Addr).add (i * 3)).add 2) = some c2 ∧ In W (· < W.heap.size) L (.agg #[c0, c1, c2]) ∧ ∀ x, elems[i]? = some x → 4 * L.size ≤ Rows.uptoBulk x.1) (fun i hi => by
    have h1 := hel i hi
    rw [List.getElem?_eq_getElem (by omega)] at h1
    obtain ⟨cs, hcs, htr⟩ := Option.bind_eq_some_iff.1 h1
    obtain ⟨L, c0, c1, c2, rfl, hin, hbk⟩ := ih cs _ htr
    rw [cells53] at hcs
    obtain ⟨_, _, hc⟩ := World.cells?_some hcs
    refine ⟨L, c0, c1, c2, ?_, ?_, ?_, hin, fun x hx => ?_⟩
    · have := hc 0 (by decide); simpa [Addr.add] using this
    · have := hc 1 (by decide); simpa using this
    · have := hc 2 (by decide); simpa using this
    · rw [List.getElem?_eq_getElem (by omega)] at hx
      cases hx
      exact hbk)
  refine ⟨(List.range len).map f, by simp, lv_sum _ _ (by simp [hlen]) (fun i L x hi hx => ?_), ?_⟩
  · by_cases hi' : i < len
    · rw [List.getElem?_map, List.getElem?_range hi'] at hi
      simp only [Option.map_some, Option.some.injEq] at hi
      subst hi
      obtain ⟨_, _, _, _, _, _, _, hbk⟩ := hf i hi'
      exact hbk x hx
    · rw [List.getElem?_eq_none (by simp; omega)] at hi; cases hi
  by_cases h0 : len = 0
  · subst h0; exact .inl rfl
  · obtain ⟨c0, c1, c2, e0, _⟩ := hf 0 (by omega)
    obtain rfl := addr_none e0
    have hb : b < W.heap.size := by have := World.block_lt_of_cell? W _ e0; simpa [Addr.add] using this
    refine .inr ⟨b, off, rfl, hb, InAll.of_get fun i L hi => ?_⟩
    by_cases hi' : i < len
    · rw [List.getElem?_map, List.getElem?_range hi'] at hi
      simp only [Option.map_some, Option.some.injEq] at hi
      subst hi
      obtain ⟨d0, d1, d2, e0, e1, e2, hin, _⟩ := hf i hi'
      rw [Addr.add_lit] at e0
      rw [Addr.add_lit, Addr.add_lit] at e1 e2
      exact ⟨d0, d1, d2, e0, e1, e2, hin⟩
    · rw [List.getElem?_eq_none (by simp; omega)] at hi; cases hi

set_option maxRecDepth 100000 in
theorem lv_of_trodU {H : Type} {enc : TypeId × Value → H} {W : World} {spare : Nat → Bool} {held : Bool} (fuel : Nat) : ∀ cs x, DataW.trod enc Try.prog W 0 spare held fuel 55 cs = some x → ∃ L c0 c1 c2, cs = [c0, c1, c2] ∧ In W (· < W.heap.size) L (.agg #[c0, c1, c2]) ∧ 4 * L.size ≤ Rows.uptoBulk x.1 := by
  induction fuel using Nat.strongRecOn with
  | _ fuel ih =>
    intro cs x h
    obtain ⟨xs, n, hn, hx, hl, hlen, hf⟩ := DataW.trod_struct Try.underlying55 h
    rw [cells53] at hl
    match cs, hl with
    | [c0, c1, c2], _ =>
      match xs, hlen with
      | [y0, y1, y2], _ =>
        have f0 := hf 0 _ rfl
        have f1 := hf 1 _ rfl
        have f2 := hf 2 _ rfl
        simp [cells3, cells24] at f0 f1 f2
        obtain ⟨k, e0, _, wk⟩ := DataW.trod_int Try.underlying3 f0
        obtain ⟨m, e1, _, wm⟩ := DataW.trod_int Try.underlying3 f1
        simp at e0 e1
        subst e0 e1
        have p0 := bulk_pos y0.1
        have p1 := bulk_pos y1.1
        have hbx : Rows.uptoBulk x.1 = Rows.uptoBulk y0.1 + (Rows.uptoBulk y1.1 + (Rows.uptoBulk y2.1 + 0)) + 1 := by
          rw [hx]; simp only [List.map_cons, List.map_nil, Rows.uptoBulk, Rows.uptoBulkAll]
        rcases DataW.trod_slice Try.underlying24 f2 with ⟨e2, hy⟩ | ⟨a, len, cap, elems, rest, n', hn', e2, hy, _, hlc, hcm, hel, hall, _, _⟩
        · simp at e2
          subst e2
          have p2 := bulk_pos y2.1
          refine ⟨.mk k m [], _, _, _, rfl, ?_, by rw [Lv.size_mk]; simp only [Lv.sizes]; omega⟩
          rw [in_mk]
          exact ⟨none, 0, rfl, bounds64 wk, bounds64 wm, by simp, by decide, .inl rfl⟩
        · simp at e2
          subst e2
          obtain ⟨args, hal, hbk, hargs⟩ := rows_of_trodU hall hel (fun cs x h => ih n' (by omega) cs x h)
          have hby : Rows.uptoBulk y2.1 = Rows.uptoBulkAll (elems.map (·.1)) + Rows.uptoBulkAll (rest.map (·.1)) + 1 := by
            rw [hy]; simp only [Rows.uptoBulk]
          refine ⟨.mk k m args, _, _, _, rfl, ?_, by rw [Lv.size_mk]; omega⟩
          rw [in_mk]
          refine ⟨some a, cap, by rw [hal], bounds64 wk, bounds64 wm, by omega, hcm, ?_⟩
          rcases hargs with h0 | ⟨b, off, rfl, hb, hin⟩
          · exact .inl h0
          · exact .inr ⟨b, off, rfl, hb, hin⟩

theorem lvs_of_trodU {H : Type} {enc : TypeId × Value → H} {W : World} {spare : Nat → Bool} {held : Bool} {fuel : Nat} {c : Value} {x : DataW H × List MemPlace} (h : DataW.trod enc Try.prog W 0 spare held fuel 24 [c] = some x) : ∃ (Ls : List Lv) (a : Option Addr) (cap : Nat), c = .slice a Ls.length cap ∧ Node W (· < W.heap.size) 0 0 Ls a cap ∧ 4 * Lv.sizes Ls ≤ Rows.uptoBulk x.1 := by
  rcases DataW.trod_slice Try.underlying24 h with ⟨e, _⟩ | ⟨y, l, c, elems, rest, n', hn', e, hy, _, hlc, hcm, hel, hall, _, _⟩
  · simp at e
    subst e
    exact ⟨[], none, 0, rfl, ⟨by omega, by omega, by omega, by omega, by simp, by omega, .inl rfl⟩, by simp only [Lv.sizes]; omega⟩
  · simp at e
    subst e
    obtain ⟨args, hal, hbk, hargs⟩ := rows_of_trodU hall hel (fun cs x h => lv_of_trodU n' cs x h)
    have hby : Rows.uptoBulk x.1 = Rows.uptoBulkAll (elems.map (·.1)) + Rows.uptoBulkAll (rest.map (·.1)) + 1 := by
      rw [hy]; simp only [Rows.uptoBulk]
    refine ⟨args, some y, c, by rw [hal], ⟨by omega, by omega, by omega, by omega, by omega, hcm, ?_⟩, by omega⟩
    rcases hargs with h0 | ⟨b, off, rfl, hb, hin⟩
    · exact .inl h0
    · exact .inr ⟨b, off, rfl, hb, hin⟩

theorem trs_of_trodU {H : Type} {enc : TypeId × Value → H} {W : World} {spare : Nat → Bool} {held : Bool} {a : Addr} {len n : Nat} {elems : List (DataW H × List MemPlace)}
    (hel : ∀ i, i < len → (W.cells? 0 (a.add (i * Try.prog.cellsOf 27)) (Try.prog.cellsOf 27)).bind (DataW.trod enc Try.prog W 0 spare held n 27) = elems[i]?) (hlen : elems.length = len)
    (ih : ∀ cs x, DataW.trod enc Try.prog W 0 spare held n 27 cs = some x → ∃ T, cs = tcs T ∧ TIn W (· < W.heap.size) T ∧ 4 * T.lv ≤ Rows.uptoBulk x.1) :
    ∃ args : List Tr, args.length = len ∧ 4 * Tr.lvl args ≤ Rows.uptoBulkAll (elems.map (·.1)) ∧ (args = [] ∨ ∃ b off, a = ⟨b, off, none⟩ ∧ b < W.heap.size ∧ TAll W (· < W.heap.size) b off args) := by
  obtain ⟨b, off, spot⟩ := a
  obtain ⟨f, hf⟩ := choose_lt (α := Tr) (n := len) (p := fun i T => (∀ j c, (tcs T)[j]? = some c → W.cell? (((⟨b, off, spot⟩ : Addr).add (i * 5)).add j) = some c) ∧ TIn W (· < W.heap.size) T ∧ ∀ x, elems[i]? = some x → 4 * T.lv ≤ Rows.uptoBulk x.1) (fun i hi => by
    have h1 := hel i hi
    rw [List.getElem?_eq_getElem (by omega)] at h1
    obtain ⟨cs, hcs, htr⟩ := Option.bind_eq_some_iff.1 h1
    obtain ⟨T, rfl, hin, hbk⟩ := ih cs _ htr
    rw [cells27] at hcs
    obtain ⟨_, _, hc⟩ := World.cells?_some hcs
    refine ⟨T, fun j c hj => ?_, hin, fun x hx => ?_⟩
    · have hjl : j < 5 := (List.getElem?_eq_some_iff.1 hj).1
      have := hc j hjl
      rw [hj] at this
      exact this
    · rw [List.getElem?_eq_getElem (by omega)] at hx
      cases hx
      exact hbk)
  refine ⟨(List.range len).map f, by simp, tr_sum _ _ (by simp [hlen]) (fun i T x hi hx => ?_), ?_⟩
  · by_cases hi' : i < len
    · rw [List.getElem?_map, List.getElem?_range hi'] at hi
      simp only [Option.map_some, Option.some.injEq] at hi
      subst hi
      obtain ⟨_, _, hbk⟩ := hf i hi'
      exact hbk x hx
    · rw [List.getElem?_eq_none (by simp; omega)] at hi; cases hi
  by_cases h0 : len = 0
  · subst h0; exact .inl rfl
  · obtain ⟨e0, _⟩ := hf 0 (by omega)
    have e00 := e0 0 _ rfl
    have hsp : spot = none := by have := World.cell?_spot e00; simpa [Addr.add] using this
    subst hsp
    have hb : b < W.heap.size := by have := World.block_lt_of_cell? W _ e00; simpa [Addr.add] using this
    refine .inr ⟨b, off, rfl, hb, TAll.of_get fun i T hi => ?_⟩
    by_cases hi' : i < len
    · rw [List.getElem?_map, List.getElem?_range hi'] at hi
      simp only [Option.map_some, Option.some.injEq] at hi
      subst hi
      obtain ⟨hc, hin, _⟩ := hf i hi'
      have key : ∀ j c, (tcs (f i))[j]? = some c → W.cell? ⟨b, off + i * 5 + j, none⟩ = some c := fun j c hj => by
        have := hc j c hj
        rwa [Addr.add_lit, Addr.add_lit] at this
      exact ⟨⟨key 0 _ rfl, key 1 _ rfl, key 2 _ rfl, key 3 _ rfl, key 4 _ rfl⟩, hin⟩
    · rw [List.getElem?_eq_none (by simp; omega)] at hi; cases hi

set_option maxRecDepth 100000 in
/-- A term that came in is one. -/
theorem tr_of_trodU {H : Type} {enc : TypeId × Value → H} {W : World} {spare : Nat → Bool} {held : Bool} (fuel : Nat) : ∀ cs x, DataW.trod enc Try.prog W 0 spare held fuel 27 cs = some x → ∃ T, cs = tcs T ∧ TIn W (· < W.heap.size) T ∧ 4 * T.lv ≤ Rows.uptoBulk x.1 := by
  induction fuel using Nat.strongRecOn with
  | _ fuel ih =>
    intro cs x h
    obtain ⟨xs, n, hn, hx, hl, hlen, hf⟩ := DataW.trod_struct Try.underlying27 h
    rw [cells27] at hl
    match cs, hl with
    | [c0, c1, c2, c3, c4], _ =>
      match xs, hlen with
      | [y0, y1, y2, y3, y4], _ =>
        have f0 := hf 0 _ rfl
        have f1 := hf 1 _ rfl
        have f2 := hf 2 _ rfl
        have f3 := hf 3 _ rfl
        have f4 := hf 4 _ rfl
        simp [cells3, cells9, cells24, cells25] at f0 f1 f2 f3 f4
        obtain ⟨k, e0, _, wk⟩ := DataW.trod_int Try.underlying3 f0
        obtain ⟨m, e1, _, wm⟩ := DataW.trod_int Try.underlying3 f1
        obtain ⟨s, e2, _, _⟩ := DataW.trod_string Try.underlying9 f2
        simp at e0 e1 e2
        subst e0 e1 e2
        obtain ⟨Ls, la, lc, rfl, hN, hbL⟩ := lvs_of_trodU f3
        have hbx : Rows.uptoBulk x.1 = Rows.uptoBulk y0.1 + (Rows.uptoBulk y1.1 + (Rows.uptoBulk y2.1 + (Rows.uptoBulk y3.1 + (Rows.uptoBulk y4.1 + 0)))) + 1 := by
          rw [hx]; simp only [List.map_cons, List.map_nil, Rows.uptoBulk, Rows.uptoBulkAll]
        rcases DataW.trod_slice Try.underlying25 f4 with ⟨e4, _⟩ | ⟨a, len, cap, elems, rest, n', hn', e4, hy, _, hlc, hcm, hel, hall, _, _⟩
        · simp at e4
          subst e4
          exact ⟨.mk k m s Ls la lc none 0 0 0 [], rfl, tin_iff.2 ⟨(bounds64 wk).1, (bounds64 wk).2, (bounds64 wm).1, (bounds64 wm).2, hN, Nat.le_refl _, by show 0 ≤ 9223372036854775807; omega, .inl rfl⟩, by rw [Tr.lv_eq]; simp only [Tr.ls, Tr.args, Tr.lvl]; omega⟩
        · simp at e4
          subst e4
          obtain ⟨args, hal, hbk, hargs⟩ := trs_of_trodU hall hel (fun cs x h => ih n' (by omega) cs x h)
          have hby : Rows.uptoBulk y4.1 = Rows.uptoBulkAll (elems.map (·.1)) + Rows.uptoBulkAll (rest.map (·.1)) + 1 := by
            rw [hy]; simp only [Rows.uptoBulk]
          refine ⟨.mk k m s Ls la lc (some a) cap a.block a.off args, by show _ = _; simp [tcs, Tr.k, Tr.n, Tr.s, Tr.la, Tr.ls, Tr.lc, Tr.a, Tr.args, Tr.c, hal], tin_iff.2 ⟨(bounds64 wk).1, (bounds64 wk).2, (bounds64 wm).1, (bounds64 wm).2, hN, by show args.length ≤ cap; omega, hcm, ?_⟩, by rw [Tr.lv_eq]; simp only [Tr.ls, Tr.args]; omega⟩
          rcases hargs with h0 | ⟨b, off, rfl, hb, hin⟩
          · exact .inl h0
          · exact .inr ⟨rfl, hb, hin⟩

set_option maxRecDepth 100000 in
theorem tr_of_rowU {H : Type} {enc : TypeId × Value → H} {W : World} {r : Reach} {base : Nat} {v : Value} {d : DataW H} {p : List MemPlace} (hv : Value.okWide Try.prog W r base 27 v) (h : DataW.Trod enc Try.prog W 0 (fun _ => true) true 27 v d p) : ∃ T : Tr, v = T.val ∧ TIn W (· < W.heap.size) T ∧ 4 * T.lv ≤ Rows.uptoBulk d := by
  obtain ⟨cs, rfl, _⟩ := okWide_struct Try.underlying27 hv
  obtain ⟨fuel, hf⟩ := h
  obtain ⟨T, e, hin, hb⟩ := tr_of_trodU fuel _ _ hf
  obtain ⟨l⟩ := cs
  simp [Value.cells] at e
  subst e
  exact ⟨T, rfl, hin, hb⟩

end Go.Proofs.Ytemgmphddmlmlaa
