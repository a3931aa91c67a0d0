/- The walk of digest.(*state).mix: a block is taken in. No condition but that the state is one, and that roundWords holds the table. -/
import Derived.Test.YtpibpjbeedcefaaDoorSt
namespace Go.Proofs.YtpibpjbeedcefaaDoor
open Go.RowKit

theorem spread_any (blk : List UInt8) (w : World) (hl : blk.length = 64) (f : Nat → Nat) (hf : f = fun j => (exts 48 (words blk)).getD j 0) :
    Calls Tryd.prog 30 #[.agg (blk.map bval).toArray] w fun e w' => e = .returned (.agg ((List.range 64).map (wf f)).toArray) ∧ Below w.heap.size w w' := by
  subst hf
  refine spread_fun _ blk w hl (exts_lt (words_length blk) 48 (words_lt blk)) (fun j hj => ?_) (fun i h1 h2 => exts_step' (words_length blk) 48 h1 h2)
  show (exts 48 (words blk)).getD j 0 = _
  rw [exts_low 48 (by rw [words_length]; exact hj), words_get blk hj]

theorem there_new (w : World) (t : TypeId) (l : List Value) (n : Nat) (hn : n = l.length) : (w.alloc (.cells l.toArray t)).there w.heap.size 0 n :=
  (Blk.new w t l).there 0 n (by omega)
theorem laid_new (w : World) (t : TypeId) (l cs : List Value) (hn : cs.length = l.length) : Blk ((w.alloc (.cells l.toArray t)).setCells w.heap.size 0 cs) w.heap.size t cs ∧ Below w.heap.size w ((w.alloc (.cells l.toArray t)).setCells w.heap.size 0 cs) :=
  ⟨(Blk.new w t l).store cs hn, below_setCells ((Below.refl _ _).alloc (Nat.le_refl _) _) _ (Nat.le_refl _) _ _⟩
section
variable {P : Program}
/-- A whole array into a block that was just made for it. -/
theorem wpList_store_new {ops : Array Oper} {rest : List Oper} {op : Oper} {a : Act} {Q : Exit → Act → World → Prop} (hgd : op.guard = none) (ty : TypeId) (x y : Operand) (ho : op.op = .store ty x y)
    (w0 : World) (l cs : List Value) (hx : a.eval x = .pointer (some ⟨w0.heap.size, 0, none⟩)) (hy : a.eval y = .agg cs.toArray) (hlen : cs.length = l.length) (hi : (P.info? ty).map (·.size) = some cs.length) (h1 : ∀ v ∈ cs, v.oneCell' = true)
    (h : ∀ w2, Blk w2 w0.heap.size ty cs → Below w0.heap.size w0 w2 → wpList P ops Q rest (a.put op.dst undef) w2) : wpList P ops Q (op :: rest) a (w0.alloc (.cells l.toArray ty)) := by
  obtain ⟨h2, h3⟩ := laid_new w0 ty l cs hlen
  refine wpList_store_mid hgd ty x y ho w0.heap.size 0 cs.toArray hx hy (there_new w0 ty l _ (by simp [hlen])) (by simpa using hi) (all_oneCell_toArray h1) (h _ h2 h3)

/-- A whole array into a block that is known. -/
theorem wpList_store_blk {ops : Array Oper} {rest : List Oper} {op : Oper} {a : Act} {w : World} {Q : Exit → Act → World → Prop} (hgd : op.guard = none) (ty : TypeId) (x y : Operand) (ho : op.op = .store ty x y)
    (g : Nat) (t : TypeId) (l cs : List Value) (hb : Blk w g t l) (hx : a.eval x = .pointer (some ⟨g, 0, none⟩)) (hy : a.eval y = .agg cs.toArray) (hlen : cs.length = l.length) (hi : (P.info? ty).map (·.size) = some cs.length) (h1 : ∀ v ∈ cs, v.oneCell' = true)
    (h : ∀ w2, Blk w2 g t cs → w.grownBy w2 (some g) → wpList P ops Q rest (a.put op.dst undef) w2) : wpList P ops Q (op :: rest) a w := by
  refine wpList_store_mid hgd ty x y ho g 0 cs.toArray hx hy (hb.there 0 _ (by simp [hlen])) (by simpa using hi) (all_oneCell_toArray h1) (h _ (hb.store cs hlen) ?_)
  refine ⟨?_, ?_, ?_, by rw [setCells_size]; exact Nat.le_refl _, fun k _ hk => setCells_heap g _ _ _ k (fun e => hk (by rw [e]))⟩
  all_goals first | exact (below_setCells (Below.refl 0 w) g (Nat.zero_le _) _ _).os | exact (below_setCells (Below.refl 0 w) g (Nat.zero_le _) _ _).tape | exact (below_setCells (Below.refl 0 w) g (Nat.zero_le _) _ _).output

/-- A whole array out of a block that is known. -/
theorem wpList_load_blk {ops : Array Oper} {rest : List Oper} {op : Oper} {a : Act} {w : World} {Q : Exit → Act → World → Prop} (hgd : op.guard = none) (ty : TypeId) (x : Operand) (ho : op.op = .load ty x)
    (g : Nat) (t : TypeId) (l : List Value) (hb : Blk w g t l) (hx : a.eval x = .pointer (some ⟨g, 0, none⟩)) (d : TypeDesc) (hu : P.underlying ty = some d) (hd : d.isRow = true) (hi : (P.info? ty).map (·.size) = some l.length)
    (h : wpList P ops Q rest (a.put op.dst (.agg l.toArray)) w) : wpList P ops Q (op :: rest) a w :=
  wpList_load_mid hgd ty x ho g 0 hx l d hb.whole hu hd hi h
end
theorem wf_length (f : Nat → Nat) : ((List.range 64).map (wf f)).length = 64 := by simp
theorem wf_one (f : Nat → Nat) : ∀ v ∈ (List.range 64).map (wf f), v.oneCell' = true := by
  intro v hv
  obtain ⟨j, _, rfl⟩ := List.mem_map.1 hv
  rfl

theorem index_array {P : Program} (w : World) (t e : TypeId) (n : Nat) (cs : Array Value) (i : Nat) (v : Value) (h : P.underlying t = some (.array n e)) (hi : i < n) (hs : (P.info? e).map (·.size) = some 1) (ha : ∀ w, (isAgg e).run P w = .ok false w) (hv : cs[i]? = some v) :
    (Instr.index t (.agg cs) (.int .i64 (i : Int))).run P w = .ok v w := by
  have hn : (0 ≤ (i : Int) ∧ (i : Int) < (n : Int)) := by omega
  cases hq : P.info? e with
  | none => simp [hq] at hs
  | some ie =>
    have hs1 : ie.size = 1 := by simpa [hq] using hs
    simp [Instr.index, run_underlying h, asIntOf, hn, go_sem, sizeOf, typeInfo, hq, hs1, ha, hv]
    intro h'
    omega

theorem Tryd.plain45 (w : World) : (isAgg 45).run Tryd.prog w = .ok false w := by simp [isAgg, run_underlying Tryd.underlying45]
theorem Tryd.size45 : (Tryd.prog.info? 45).map (·.size) = some 1 := by kernel_rfl

theorem St.setWord {w : World} {g : Nat} {v v' : V8} {blk : List UInt8} {held len : Nat} (h : St w g v blk held len) {j n : Nat} {z : Int} (hj : j < 8) (hz : z = (n : Int)) (hl : v.list.set j n = v'.list) (hok : n < 4294967296) : St (w.setCell ⟨g, j, none⟩ (.int .u32 z)) g v' blk held len :=
  ⟨h.row.setTo hz (by
    unfold stCells
    rw [List.set_append_left _ _ (by rw [u32s_length, V8.list_length]; exact hj), ← hl]
    unfold u32s
    rw [List.map_set]), by
    intro x hx
    rw [← hl] at hx
    rcases List.mem_or_eq_of_mem_set hx with hx | hx
    · exact h.ok x hx
    · omega, h.l64⟩

/-- The first i words are summed already. -/
def mixd (i : Nat) (v u : V8) : V8 :=
  ⟨if 0 < i then (v.a + u.a) % 4294967296 else v.a, if 1 < i then (v.b + u.b) % 4294967296 else v.b, if 2 < i then (v.c + u.c) % 4294967296 else v.c, if 3 < i then (v.d + u.d) % 4294967296 else v.d,
   if 4 < i then (v.e + u.e) % 4294967296 else v.e, if 5 < i then (v.f + u.f) % 4294967296 else v.f, if 6 < i then (v.g + u.g) % 4294967296 else v.g, if 7 < i then (v.h + u.h) % 4294967296 else v.h⟩

theorem mixd_set (v u : V8) (k : Nat) (hk : k < 8) : (mixd k v u).list.set k ((v.list.getD k 0 + u.list.getD k 0) % 4294967296) = (mixd (k + 1) v u).list := by
  have hs : k = 0 ∨ k = 1 ∨ k = 2 ∨ k = 3 ∨ k = 4 ∨ k = 5 ∨ k = 6 ∨ k = 7 := by omega
  rcases hs with rfl | rfl | rfl | rfl | rfl | rfl | rfl | rfl <;> simp [mixd, V8.list]
theorem mixd_get (v u : V8) (k : Nat) (hk : k < 8) : (mixd k v u).list.getD k 0 = v.list.getD k 0 := by
  have hs : k = 0 ∨ k = 1 ∨ k = 2 ∨ k = 3 ∨ k = 4 ∨ k = 5 ∨ k = 6 ∨ k = 7 := by omega
  rcases hs with rfl | rfl | rfl | rfl | rfl | rfl | rfl | rfl <;> simp [mixd, V8.list]
theorem mixd_all (v u : V8) : mixd 8 v u = v.plus u := by simp [mixd, V8.plus]
theorem V8.ok_get {v : V8} (h : v.ok) (k : Nat) : v.list.getD k 0 < 4294967296 := by
  by_cases hi : k < v.list.length
  · rw [List.getD_eq_getElem?_getD, List.getElem?_eq_getElem hi]
    exact h _ (List.getElem_mem hi)
  · rw [List.getD_eq_getElem?_getD, List.getElem?_eq_none (by omega)]; decide

theorem keyTab_lt (i : Nat) : keyTab.getD i 0 < 4294967296 := by
  have h : ∀ x ∈ keyTab, x < 4294967296 := by decide
  by_cases hi : i < keyTab.length
  · rw [List.getD_eq_getElem?_getD, List.getElem?_eq_getElem hi]
    exact h _ (List.getElem_mem hi)
  · rw [List.getD_eq_getElem?_getD, List.getElem?_eq_none (by omega)]; decide

set_option maxRecDepth 100000 in
set_option maxHeartbeats 1000000 in
theorem mix_any (g : Nat) (v : V8) (blk : List UInt8) (held len : Nat) (w : World) (h : St w g v blk held len) (hk : Keys w) :
    Calls Tryd.prog 27 #[.pointer (some ⟨g, 0, none⟩)] w fun e w' => e = .returned (.tuple #[]) ∧ St w' g (comp v blk) blk 0 len ∧ w.grownBy w' (some g) := by
  obtain ⟨f, HF⟩ : ∃ f : Nat → Nat, Hid (f = fun j => (exts 48 (words blk)).getD j 0) := ⟨_, rfl⟩
  have HB : Hid (∀ j, f j < 4294967296) := by
    rw [HF.out]
    exact exts_lt (words_length blk) 48 (words_lt blk)
  have hrg := h.bytes
  have hl := h.l64
  have HSz : Hid ((Tryd.prog.info? 47).map (·.size) = some (blk.map bval).length) := by unfold Hid; rw [List.length_map, hl]; exact Tryd.size47
  have HL : Hid _ := hl
  clear hl
  go_enter Tryd.func27, Tryd.ntmps27
  go_wp2_with (refine wpList_load_mid (by rfl) 47 (.tmp 20) (by rfl) g 8 (by rfl) (blk.map bval) (.array 64 5) hrg Tryd.underlying47 rfl HSz.out ?_)
  refine (spread_any blk w HL.out f HF.out).mono ?_
  rintro e w1 ⟨rfl, hb1⟩
  have z1 := hb1.size
  have h1 := h.below hb1 h.lt
  have k1 := hk.below hb1 hk.lt
  have g1 : w.grownBy w1 (some g) := grownOf hb1
  have glt := h.lt
  clear h hk hb1 hrg HSz
  have HLen : Hid _ := wf_length f
  have HOne : Hid _ := wf_one f
  have HSz : Hid ((Tryd.prog.info? 64).map (·.size) = some ((List.range 64).map (wf f)).length) := by unfold Hid; rw [wf_length]; exact Tryd.size64
  have HC : Hid (∀ j, j < 64 → ((List.range 64).map (wf f))[j]? = some (.int .u32 (f j : Int))) := by
    intro j hj
    simp [hj, wf]
  generalize (List.range 64).map (wf f) = cs at HLen HOne HSz HC ⊢
  go_wp2_with (refine wpList_store_new (by rfl) 64 (.tmp 2) (.tmp 22) (by rfl) w1 _ cs (by rfl) (by rfl) (by rw [HLen.out]; rfl) HSz.out HOne.out ?_; intro w2 hW2 hb2)
  have h2 := h1.below hb2 (show g < w1.heap.size by omega)
  have k2 := k1.below hb2 k1.lt
  have g2 : w.grownBy w2 (some g) := grown_trans g1 (grownOf hb2)
  have hne : w1.heap.size ≠ g := by omega
  have hge : w.heap.size ≤ w1.heap.size := z1
  generalize w1.heap.size = gw at hW2 hne hge ⊢
  clear h1 k1 g1 z1 hb2 HOne HSz HLen
  obtain ⟨va, vb, vc, vd, ve, vf, vg, vh⟩ := v
  have c0 : w2.cell? ⟨g, 0, none⟩ = some (.int .u32 (va : Int)) := h2.word (j := 0) (by decide)
  have c1 : w2.cell? ⟨g, 1, none⟩ = some (.int .u32 (vb : Int)) := h2.word (j := 1) (by decide)
  have c2 : w2.cell? ⟨g, 2, none⟩ = some (.int .u32 (vc : Int)) := h2.word (j := 2) (by decide)
  have c3 : w2.cell? ⟨g, 3, none⟩ = some (.int .u32 (vd : Int)) := h2.word (j := 3) (by decide)
  have c4 : w2.cell? ⟨g, 4, none⟩ = some (.int .u32 (ve : Int)) := h2.word (j := 4) (by decide)
  have c5 : w2.cell? ⟨g, 5, none⟩ = some (.int .u32 (vf : Int)) := h2.word (j := 5) (by decide)
  have c6 : w2.cell? ⟨g, 6, none⟩ = some (.int .u32 (vg : Int)) := h2.word (j := 6) (by decide)
  have c7 : w2.cell? ⟨g, 7, none⟩ = some (.int .u32 (vh : Int)) := h2.word (j := 7) (by decide)
  have hok := h2.ok
  have HV : Hid _ := hok
  clear hok
  go_quiet (fail)
  go_wp2_with fail
  go_quiet (fail)
  go_wp2_with fail
  clear c0 c1 c2 c3 c4 c5 c6 c7
  go_loopw [3, 4, 5, 6, 7, 8, 9, 10, 63] (fun s3 s4 s5 s6 s7 s8 s9 s10 s63 wr => ∃ (i a b c d e f' g' h' : Nat), i ≤ 64 ∧ s63 = .int .i64 (i : Int) ∧ s3 = .int .u32 (a : Int) ∧ s4 = .int .u32 (b : Int) ∧ s5 = .int .u32 (c : Int) ∧ s6 = .int .u32 (d : Int) ∧ s7 = .int .u32 (e : Int) ∧ s8 = .int .u32 (f' : Int) ∧ s9 = .int .u32 (g' : Int) ∧ s10 = .int .u32 (h' : Int)
      ∧ Hid (runN (exts 48 (words blk)) ⟨va, vb, vc, vd, ve, vf, vg, vh⟩ i = ⟨a, b, c, d, e, f', g', h'⟩) ∧ a < 4294967296 ∧ b < 4294967296 ∧ c < 4294967296 ∧ d < 4294967296 ∧ e < 4294967296 ∧ f' < 4294967296 ∧ g' < 4294967296 ∧ h' < 4294967296
      ∧ Blk wr gw 64 cs ∧ St wr g ⟨va, vb, vc, vd, ve, vf, vg, vh⟩ blk held len ∧ Keys wr ∧ w.grownBy wr (some g)) (fun _ _ _ _ _ _ _ _ s63 _ => 64 - (intOf s63).toNat)
  case atStart =>
    have o := HV.out
    simp only [V8.list, List.mem_cons, List.not_mem_nil, or_false, forall_eq_or_imp, forall_eq] at o
    obtain ⟨o1, o2, o3, o4, o5, o6, o7, o8⟩ := o
    exact ⟨0, va, vb, vc, vd, ve, vf, vg, vh, by omega, rfl, rfl, rfl, rfl, rfl, rfl, rfl, rfl, rfl, rfl, o1, o2, o3, o4, o5, o6, o7, o8, (hW2.drewN _).drewN _, h2.carry rfl, k2.carry rfl, grown_trans g2 ⟨rfl, rfl, rfl, Nat.le_refl _, fun _ _ _ => rfl⟩⟩
  case round =>
    clear h2 k2 g2 hW2
    obtain ⟨i, a, b, c, d, e, f', g', h', hi, rfl, rfl, rfl, rfl, rfl, rfl, rfl, rfl, rfl, HR, ba, bb, bc, bd, be, bf, bg, bh, hW, hS, hK, hG⟩ := hrel
    by_cases hlt : i < 64
    · have ck := hK i hlt
      have cw : wr.cell? ⟨gw, i, none⟩ = some (.int .u32 (f i : Int)) := hW.cell (HC.out i hlt)
      have bk : keyTab.getD i 0 < 4294967296 := keyTab_lt i
      have bw := HB.out i
      have HE : Hid (f i = (exts 48 (words blk)).getD i 0) := by unfold Hid; rw [HF.out]
      obtain ⟨ki, HKI⟩ : ∃ ki, Hid (ki = keyTab.getD i 0) := ⟨_, rfl⟩
      obtain ⟨wi, HWI⟩ : ∃ wi, Hid (wi = f i) := ⟨_, rfl⟩
      rw [← HKI.out] at ck bk
      rw [← HWI.out] at cw bw HE
      have L1 := cho_32 be bf bg
      have L2 := maj_32 ba bb bc
      have L3 := up1_32 be
      have L4 := up0_32 ba
      have B1 := up1_lt be
      have B2 := up0_lt ba
      have B3 := cho_lt (f := f') (g := g') be
      have B4 := maj_lt (c := c) ba bb
      go_wp2_with fail
      go_quiet ((go_at_call 31; first | with_reducible exact turnQ6 e wr _ be | with_reducible exact turnQ11 e wr _ be | with_reducible exact turnQ25 e wr _ be))
      go_wp2_with fail
      refine (turn2 a _ ba).mono ?_
      rintro e' w' ⟨rfl, rfl⟩
      go_wp2_with fail
      refine (turn13 a _ ba).mono ?_
      rintro e' w' ⟨rfl, rfl⟩
      go_wp2_with fail
      refine (turn22 a _ ba).mono ?_
      rintro e' w' ⟨rfl, rfl⟩
      go_wp2_with fail
      refine ⟨⟨i + 1, (h' + up1 e + cho e f' g' + ki + wi + up0 a + maj a b c) % 4294967296, a, b, c, (d + (h' + up1 e + cho e f' g' + ki + wi)) % 4294967296, e, f', g', by omega, by go_num, ?_, rfl, rfl, rfl, ?_, rfl, rfl, rfl, ?_, by omega, ba, bb, bc, by omega, be, bf, bg, hW.drewN _, hS.carry rfl, hK.carry rfl, grown_trans hG ⟨rfl, rfl, rfl, Nat.le_refl _, fun _ _ _ => rfl⟩⟩, by simp [intOf]; omega⟩
      · congr 1; omega
      · congr 1; omega
      · show runN _ _ (i + 1) = _
        unfold runN
        rw [HR.out, ← HE.out, ← HKI.out]
        rfl
    · have hz : (i : Int) = 64 := by omega
      rw [show i = 64 by omega] at HR
      clear hlt hi
      obtain ⟨u, HU⟩ : ∃ u : V8, Hid (u = runN (exts 48 (words blk)) ⟨va, vb, vc, vd, ve, vf, vg, vh⟩ 64) := ⟨_, rfl⟩
      rw [← HU.out] at HR
      have HQ : Hid (comp ⟨va, vb, vc, vd, ve, vf, vg, vh⟩ blk = V8.plus ⟨va, vb, vc, vd, ve, vf, vg, vh⟩ ⟨a, b, c, d, e, f', g', h'⟩) := by
        unfold Hid comp
        rw [← HU.out, HR.out]
      clear HU HR HC HF HB HV
      go_wp2_with fail
      clear hz
      go_loopw [137] (fun s137 wr => ∃ (k : Nat), k ≤ 8 ∧ s137 = .int .i64 (k : Int) ∧ St wr g (mixd k ⟨va, vb, vc, vd, ve, vf, vg, vh⟩ ⟨a, b, c, d, e, f', g', h'⟩) blk held len ∧ w.grownBy wr (some g)) (fun s137 _ => 8 - (intOf s137).toNat)
      case atStart => exact ⟨0, by omega, rfl, hS, hG⟩
      case round =>
        clear hS hG hK hW
        obtain ⟨k, hk, rfl, hS, hG⟩ := hrel
        by_cases hlt : k < 8
        · have hf := hS.row.frozen k
          have hc := hS.word hlt
          have HM : Hid _ := mixd_set ⟨va, vb, vc, vd, ve, vf, vg, vh⟩ ⟨a, b, c, d, e, f', g', h'⟩ k hlt
          have hbv := V8.ok_get hS.ok k
          rw [mixd_get _ _ k hlt] at hc hbv
          have hix : ∀ w : World, (Instr.index 46 (.agg #[.int .u32 (a : Int), .int .u32 (b : Int), .int .u32 (c : Int), .int .u32 (d : Int), .int .u32 (e : Int), .int .u32 (f' : Int), .int .u32 (g' : Int), .int .u32 (h' : Int)]) (.int .i64 (k : Int))).run Tryd.prog w = .ok (.int .u32 ((V8.list ⟨a, b, c, d, e, f', g', h'⟩).getD k 0 : Int)) w := fun w =>
            index_array w 46 45 8 _ k _ Tryd.underlying46 hlt Tryd.size45 Tryd.plain45 (by
              have hs : k = 0 ∨ k = 1 ∨ k = 2 ∨ k = 3 ∨ k = 4 ∨ k = 5 ∨ k = 6 ∨ k = 7 := by omega
              rcases hs with rfl | rfl | rfl | rfl | rfl | rfl | rfl | rfl <;> rfl)
          have hbu : (V8.list ⟨a, b, c, d, e, f', g', h'⟩).getD k 0 < 4294967296 := by
            have hs : k = 0 ∨ k = 1 ∨ k = 2 ∨ k = 3 ∨ k = 4 ∨ k = 5 ∨ k = 6 ∨ k = 7 := by omega
            rcases hs with rfl | rfl | rfl | rfl | rfl | rfl | rfl | rfl <;> simp [V8.list] <;> assumption
          generalize (V8.list ⟨a, b, c, d, e, f', g', h'⟩).getD k 0 = uk at hix hbu HM
          generalize (V8.list ⟨va, vb, vc, vd, ve, vf, vg, vh⟩).getD k 0 = vk at hc hbv HM
          go_wp2_with fail
          go_region
          go_wp2_with fail
          refine ⟨⟨k + 1, by omega, by go_num, ?_, ?_⟩, by simp [intOf]; omega⟩
          · exact St.carry (w := wr.setCell ⟨g, k, none⟩ (.int .u32 (((vk : Int) + (uk : Int)) % 4294967296))) (hS.setWord hlt (n := (vk + uk) % 4294967296) (by omega) HM.out (by omega)) rfl
          · exact grown_trans hG (grown_trans (grown_setCell wr g k _) ⟨rfl, rfl, rfl, Nat.le_refl _, fun _ _ _ => rfl⟩)
        · obtain rfl : k = 8 := by omega
          rw [mixd_all, ← HQ.out] at hS
          have hc := hS.heldAt
          have hf := hS.row.frozen 72
          go_wp2_with fail
          go_end0
          exact ⟨rfl, hS.setHeld rfl, grown_trans hG (grown_setCell _ g 72 _)⟩
end Go.Proofs.YtpibpjbeedcefaaDoor
