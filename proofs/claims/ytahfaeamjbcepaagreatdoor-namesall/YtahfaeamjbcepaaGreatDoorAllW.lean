/- The walk of NamesAll: it answers true. No condition but that what comes in can be read and the tables hold what the program's text lays. -/
import Derived.Test.YtahfaeamjbcepaaGreatDoorBgn
import Derived.Test.YtahfaeamjbcepaaGreatDoorSrt
import Derived.Test.YtahfaeamjbcepaaGreatDoorRn
namespace Go.Proofs.YtahfaeamjbcepaaGreatDoor
open Go.RowKit

/-- append of texts, in a region that does not draw. -/
theorem wpList_append_strs {ops : Array Oper} {rest : List Oper} {o : Oper} {a : Act} {w : World} {Q : Exit → Act → World → Prop}
    (hg : o.guard = none) (s x : Operand) (hop : o.op = Op.call { callee := Callee.builtin Builtin.append, args := #[s, x], argTypes := #[22, 22] }) (base : Nat) (v : Value) (n : Nat) (xs : List Value) (hs : a.eval s = v) (hown : w.ownsRow base 9 1 v n xs)
    (ad : Option Addr) (m c : Nat) (ps : List (List UInt8)) (hx : a.eval x = .slice ad m c) (hR : SR w ad m c ps) (hn : n + m ≤ 1000) (hbase : base ≤ w.heap.size)
    (hK : ∀ v' w', w'.ownsRow base 9 1 v' (n + m) (xs ++ ps.map tx) → Below base w w' → wpList Tryz.prog ops Q rest (a.put o.dst v') w') :
    wpList Tryz.prog ops Q (o :: rest) a w :=
  wpList_plain hg fun K hK' => wp_append_strs hg s x hop base v n xs hs hown ad m c ps hx hR.len (fun j s' hj => by obtain ⟨b, off, e, _, hc⟩ := hR.cells j s' hj; exact ⟨b, off, e, hc⟩) hn hbase (fun v' w' h1 h2 => hK' _ _ (hK v' w' h1 (below_grown h2 hbase (fun g hg' => (owns_own hown hg').1))))

/-- append of texts, of an operation that is guarded and wanted. -/
theorem wpList_append_strsg {ops : Array Oper} {rest : List Oper} {o : Oper} {a : Act} {w : World} {Q : Exit → Act → World → Prop}
    (hw : Region.wanted o (yielded ops a.tmps) = true) (s x : Operand) (hop : o.op = Op.call { callee := Callee.builtin Builtin.append, args := #[s, x], argTypes := #[22, 22] }) (base : Nat) (v : Value) (n : Nat) (xs : List Value) (hs : a.eval s = v) (hown : w.ownsRow base 9 1 v n xs)
    (ad : Option Addr) (m c : Nat) (ps : List (List UInt8)) (hx : a.eval x = .slice ad m c) (hR : SR w ad m c ps) (hn : n + m ≤ 1000) (hbase : base ≤ w.heap.size)
    (hK : ∀ v' w', w'.ownsRow base 9 1 v' (n + m) (xs ++ ps.map tx) → Below base w w' → wpList Tryz.prog ops Q rest (a.put o.dst v') w') :
    wpList Tryz.prog ops Q (o :: rest) a w :=
  wpList_step fun K hK' => by
    rw [if_pos hw]
    obtain ⟨v', w', hrun, r1, r2⟩ := run_append_strs (ty := o.type) (c := c) hown hR.len (fun j s' hj => by obtain ⟨b, off, e, _, hc⟩ := hR.cells j s' hj; exact ⟨b, off, e, hc⟩) hn hbase
    unfold Oper.wp
    simp [execOp, hop, resolve, invoke, builtin, hs, hx, hrun, Result.andThen]
    exact hK' _ _ (hK v' w' r1 (below_grown r2 hbase (fun g hg' => (owns_own hown hg').1)))

/-- An empty slice, made. -/
theorem owns_made (w : World) : (w.alloc (.cells #[] 9)).ownsRow w.heap.size 9 1 (.slice (some ⟨w.heap.size, 0, none⟩) 0 0) 0 [] :=
  ⟨by simp, .inr ⟨w.heap.size, 0, #[], rfl, Nat.le_refl _, heap_alloc_new w _, Nat.le_refl _, by decide, by simp, by simp⟩⟩

set_option maxRecDepth 100000 in
set_option maxHeartbeats 4000000 in
theorem all_walk (a0 : Option Addr) (n0 c0 : Nat) (s0 : List (List UInt8)) (a1 : Option Addr) (n1 c1 : Nat) (s1 : List (List UInt8)) (s : List UInt8) (w : World) (hT : Tabs w) (h0 : SR w a0 n0 c0 s0) (h1 : SR w a1 n1 c1 s1) (hs : s.length ≤ maxLen) :
    Calls Tryz.prog 3 #[.slice a0 n0 c0, .slice a1 n1 c1, tx s] w fun e w' => e = .returned (.bool true) ∧ Below w.heap.size w w' := by
  have h5 := begun_any w hT
  have sz : (ByteArray.mk s.toArray).size = s.length := by simp [ByteArray.size]
  unfold maxLen at hs
  have hA6 := fun (w1 : World) (hb1 : Below w.heap.size w w1) => light_any a0 n0 c0 s0 w1 (h0.on hb1)
  have hB6 := fun (w1 : World) (hb1 : Below w.heap.size w w1) => light_any a1 n1 c1 s1 w1 (h1.on hb1)
  unfold tx
  cases hl0 : lightB s0
  · rw [hl0] at hA6
    clear h0 h1 hl0
    go_enter Tryz.func3, Tryz.ntmps3
    go_wp2_with (first | (go_at_call 5; refine h5.mono ?_; rintro e w1 ⟨rfl, b1⟩) | (go_at_call 6; with_reducible refine (hA6 w1 b1).mono ?_; rintro e w2 ⟨rfl, rfl⟩))
    go_ret
    exact ⟨rfl, b1⟩
  rw [hl0] at hA6
  cases hl1 : lightB s1
  · rw [hl1] at hB6
    clear h0 h1 hl0 hl1
    go_enter Tryz.func3, Tryz.ntmps3
    go_wp2_with (first | (go_at_call 5; refine h5.mono ?_; rintro e w1 ⟨rfl, b1⟩) | (go_at_call 6; with_reducible refine (hA6 w1 b1).mono ?_; rintro e w2 ⟨rfl, rfl⟩) | (go_at_call 6; with_reducible refine (hB6 w1 b1).mono ?_; rintro e w2 ⟨rfl, rfl⟩))
    go_ret
    exact ⟨rfl, b1⟩
  rw [hl1] at hB6
  by_cases hs60 : s.length ≤ 60
  case neg =>
    have ds : decide ((60 : Int) < (s.length : Int)) = true := decide_eq_true (by omega)
    clear h0 h1 hl0 hl1
    go_enter Tryz.func3, Tryz.ntmps3
    go_wp2_with (first | (go_at_call 5; refine h5.mono ?_; rintro e w1 ⟨rfl, b1⟩) | (go_at_call 6; with_reducible refine (hA6 w1 b1).mono ?_; rintro e w2 ⟨rfl, rfl⟩) | (go_at_call 6; with_reducible refine (hB6 w1 b1).mono ?_; rintro e w2 ⟨rfl, rfl⟩))
    go_ret
    exact ⟨rfl, b1⟩
  have ds : decide ((60 : Int) < (s.length : Int)) = false := decide_eq_false (by omega)
  obtain ⟨hn0, hm0⟩ := lightB_iff.1 hl0
  obtain ⟨hn1, hm1⟩ := lightB_iff.1 hl1
  have hx0 := h0.len
  have hx1 := h1.len
  have hn0' : n0 ≤ 60 := by omega
  have hn1' : n1 ≤ 60 := by omega
  have H0 : Hid (SR w a0 n0 c0 s0) := h0
  have H1 : Hid (SR w a1 n1 c1 s1) := h1
  have HM0 : Hid (∀ t ∈ s0, t.length ≤ 60) := hm0
  have HM1 : Hid (∀ t ∈ s1, t.length ≤ 60) := hm1
  have HX0 : Hid (s0.length = n0) := hx0
  have HX1 : Hid (s1.length = n1) := hx1
  clear h0 h1 hl0 hl1 hn0 hm0 hn1 hm1 hx0 hx1
  go_enter Tryz.func3, Tryz.ntmps3
  go_wp2_with (first
    | (go_at_call 5; refine h5.mono ?_; rintro e w1 ⟨rfl, b1⟩; have hz1 := b1.size)
    | (go_at_call 6; with_reducible refine (hA6 w1 b1).mono ?_; rintro e w2 ⟨rfl, rfl⟩)
    | (go_at_call 6; with_reducible refine (hB6 w1 b1).mono ?_; rintro e w2 ⟨rfl, rfl⟩)
    | (refine wpList_append_strs (by rfl) (.tmp 28) (.tmp 29) (by rfl) w1.heap.size (.slice (some ⟨w1.heap.size, 0, none⟩) 0 0) 0 [] (by rfl) (owns_made w1) a0 n0 c0 s0 (by rfl) ((H0.out.on b1).on ((Below.refl _ _).alloc (Nat.le_refl _) _)) (by omega) (by simp) ?_; intro v3 w3 o3 b3; simp only [Nat.zero_add, List.nil_append] at o3; have hb3 : Below w1.heap.size w1 w3 := ((Below.refl _ _).alloc (Nat.le_refl _) _).trans b3; have hz3 := hb3.size; have bw3 : Below w.heap.size w w3 := b1.trans (hb3.mono hz1); clear b3 h5 hA6 hB6)
    | (go_at_call 7; refine (sorted_any a0 n0 c0 s0 w3 (H0.out.on bw3) (by omega) (fun t ht => by have := HM0.out t ht; omega)).mono ?_; rintro e w4 ⟨gx, rfl, hgx, X4, b4⟩; have hz4 := b4.size; have bw4 : Below w.heap.size w w4 := bw3.trans (b4.mono (by omega)))
    | (go_at_call 8; refine (join_any a0 n0 c0 s0 a1 n1 c1 s1 w4 (H0.out.on bw4) (H1.out.on bw4) (by omega) (by omega) (fun t ht => by have := HM0.out t ht; omega) (fun t ht => by have := HM1.out t ht; omega)).mono ?_; rintro e w5 ⟨gy, rfl, hgy, Y5, b5⟩; have hz5 := b5.size; have bw5 : Below w.heap.size w w5 := bw4.trans (b5.mono (by omega)))
    | (go_at_call 9; refine (rsorted_any a0 n0 c0 s0 w5 (H0.out.on bw5) (by omega) (fun t ht => by have := HM0.out t ht; omega)).mono ?_; rintro e w6 ⟨az, cz, rfl, Z6, b6⟩; have hz6 := b6.size; have bw6 : Below w.heap.size w w6 := bw5.trans (b6.mono (by omega))))
  obtain ⟨a3, c3, rfl⟩ : ∃ a3 c3, v3 = .slice a3 n0 c3 := by
    rcases o3.2 with ⟨h, h'⟩ | ⟨_, c', _, h, _⟩
    · rw [h']; exact ⟨_, _, h⟩
    · exact ⟨_, _, h⟩
  have R3 : SR w3 a3 n0 c3 s0 := owns_SR o3
  have hlx := srt_length s0
  have hx0 := HX0.out
  have X6 := (X4.below b5 X4.lt).below b6 (by have := X4.lt; omega)
  have k10 := alike_any _ _ _ _ _ _ _ _ w6 (blk_SR X6 rfl (by unfold maxLen; omega)) Z6 (by omega) (by omega)
  simp only [decide_true] at k10
  have Y6 := Y5.below b6 Y5.lt
  have hgx' := X4.lt
  have hgy' := Y5.lt
  have B36 : Below w3.heap.size w3 w6 := b4.trans ((b5.mono (by omega)).trans (b6.mono (by omega)))
  have hz36 : w3.heap.size ≤ w6.heap.size := by omega
  have hgx6 : gx < w6.heap.size := by omega
  have hgy6 : gy < w6.heap.size := by omega
  clear X4 Y5 b4 b5 b6 o3 hb3 bw3 bw4 bw5 hz4 hz5 hz6 hgx' hgy'
  refine k10.mono ?_
  rintro e w7 ⟨rfl, b7⟩
  dsimp only
  have hz7 := b7.size
  have bw7 : Below w.heap.size w w7 := bw6.trans (b7.mono (by omega))
  have X7 := X6.below b7 hgx6
  have Y7 := Y6.below b7 hgy6
  have Z7 := Z6.on b7
  have B37 : Below w3.heap.size w3 w7 := B36.trans (b7.mono (by omega))
  clear k10 X6 Y6 Z6 B36 bw6
  go_wp2_with (first
    | (at_builtin; refine wpList_append_strsg (by rfl) (.tmp 43) (.tmp 44) (by rfl) w7.heap.size (.slice (some ⟨w7.heap.size, 0, none⟩) 0 0) 0 [] (by rfl) (owns_made w7) a0 n0 c0 s0 (by rfl) ((H0.out.on bw7).on ((Below.refl _ _).alloc (Nat.le_refl _) _)) (by omega) (by simp) ?_; intro v8 w8 o8 b8; simp only [Nat.zero_add, List.nil_append] at o8; have hb8 : Below w7.heap.size w7 w8 := ((Below.refl _ _).alloc (Nat.le_refl _) _).trans b8; have hz8 := hb8.size; have bw8 : Below w.heap.size w w8 := bw7.trans (hb8.mono (by omega)); clear b8)
    | (at_builtin; refine wpList_append_strsg (by rfl) (.tmp 45) (.tmp 46) (by rfl) w7.heap.size v8 n0 (s0.map tx) (by rfl) o8 a1 n1 c1 s1 (by rfl) (H1.out.on bw8) (by omega) (by omega) ?_; intro v9 w9 o9 b9; rw [← List.map_append] at o9; obtain ⟨a9, c9, rfl⟩ : ∃ a9 c9, v9 = .slice a9 (n0 + n1) c9 := (by rcases o9.2 with ⟨h, h'⟩ | ⟨_, c', _, h, _⟩; (rw [h']; exact ⟨_, _, h⟩); (exact ⟨_, _, h⟩))))
  have hb9 : Below w7.heap.size w7 w9 := hb8.trans b9
  have hz9 := hb9.size
  have bw9 : Below w.heap.size w w9 := bw7.trans (hb9.mono (by omega))
  have k9 := rsorted_any a9 (n0 + n1) c9 (s0 ++ s1) w9 (owns_SR o9) (by omega) (fun t ht => by
    rcases List.mem_append.1 ht with h | h
    · have := HM0.out t h; omega
    · have := HM1.out t h; omega)
  have X9 := X7.below hb9 (by omega)
  have Y9 := Y7.below hb9 (by omega)
  have Z9 := Z7.on hb9
  have B39 : Below w3.heap.size w3 w9 := B37.trans (hb9.mono (by omega))
  clear o8 o9 b9 hb8 bw8 bw7 X7 Y7 Z7 B37
  refine k9.mono ?_
  rintro e w10 ⟨ay, cy, rfl, Y10, b10⟩
  dsimp only
  have hz10 := b10.size
  have bw10 : Below w.heap.size w w10 := bw9.trans (b10.mono (by omega))
  have hly := srt_length (s0 ++ s1)
  have hx1 := HX1.out
  rw [List.length_append] at hly
  have k10 := alike_any _ _ _ _ _ _ _ _ w10 (blk_SR (Y9.below b10 (by omega)) rfl (by unfold maxLen; omega)) Y10 (by omega) (by omega)
  simp only [decide_true] at k10
  have X10 := X9.below b10 (by omega)
  have Z10 := Z9.on b10
  have B310 : Below w3.heap.size w3 w10 := B39.trans (b10.mono (by omega))
  clear k9 X9 Y9 Z9 B39 Y10 hb9 bw9
  go_wp2_with (go_at_call 10; refine k10.mono ?_; rintro e w11 ⟨rfl, b11⟩)
  have hz11 := b11.size
  have bw11 : Below w.heap.size w w11 := bw10.trans (b11.mono (by omega))
  have X11 := X10.below b11 (by omega)
  have Z11 := Z10.on b11
  have B311 : Below w3.heap.size w3 w11 := B310.trans (b11.mono (by omega))
  have k11 := may_name s w11 (hT.on bw11) (by omega)
  unfold tx at k11
  clear k10 X10 Z10 B310 bw10
  generalize hnm : nmB s = r at *
  go_wp2_with (go_at_call 11; refine k11.mono ?_; rintro e w12 ⟨rfl, b12⟩)
  have hz12 := b12.size
  have bw12 : Below w.heap.size w w12 := bw11.trans (b12.mono (by omega))
  have X12 := X11.below b12 (by omega)
  have Z12 := Z11.on b12
  have B312 : Below w3.heap.size w3 w12 := B311.trans (b12.mono (by omega))
  have k12 := risName_any s w12 (by omega)
  rw [hnm] at k12
  unfold tx at k12
  clear k11 X11 Z11 B311 bw11 hnm
  go_wp2_with (go_at_call 12; refine k12.mono ?_; rintro e w13 ⟨rfl, rfl⟩)
  have k13 := has_any _ _ _ _ s w12 Z12 (srt_asc s0) (by omega)
  rw [decide_eq_decide.2 (mem_srt s0 s)] at k13
  have k14 := fun (w14 : World) (hb : Below w12.heap.size w12 w14) => rhas_any a0 n0 c0 s0 s w14 ((H0.out.on bw12).on hb) (by omega)
  unfold tx at k13 k14
  generalize decide (s ∈ s0) = q at k13 k14
  clear k12 Z12
  go_wp2_with (first | (go_at_call 13; refine k13.mono ?_; rintro e w14 ⟨rfl, b14⟩) | (go_at_call 14; refine (k14 w14 b14).mono ?_; rintro e w15 ⟨rfl, rfl⟩))
  have hz14 := b14.size
  have bw14 : Below w.heap.size w w14 := bw12.trans (b14.mono (by omega))
  have X14 := X12.below b14 (by omega)
  have B314 : Below w3.heap.size w3 w14 := B312.trans (b14.mono (by omega))
  obtain ⟨m0, HM⟩ : ∃ m0, Hid ((srt s0).length = m0) := ⟨_, rfl⟩
  rw [HM.out]
  have hm0 : m0 ≤ 60 := by have := HM.out; omega
  have hxl : ((srt s0).map tx).length = m0 := by rw [List.length_map]; exact HM.out
  generalize (srt s0).map tx = cells0 at X14 hxl
  clear k13 k14 X12 B312 bw12 hlx hly
  go_loopw [12] (fun s12 wr => ∃ (k : Nat) (cl : List Value), k ≤ m0 ∧ s12 = .int .i64 (k : Int) ∧ Blk wr gx 9 cl ∧ Hid (cl.length = m0) ∧ Below w3.heap.size w3 wr ∧ Below w.heap.size w wr) (fun s12 _ => m0 - (intOf s12).toNat)
  case atStart => exact ⟨0, cells0, Nat.zero_le _, rfl, X14, hxl, B314, bw14⟩
  case round =>
    obtain ⟨k, cl, hk, rfl, X, HCL, B3r, bwr⟩ := hrel
    clear X14 B314 bw14
    by_cases hlt : k < m0
    · have hd : decide ((k : Int) < (m0 : Int)) = true := by simpa using hlt
      have hkl : k < cl.length := by rw [HCL.out]; exact hlt
      have ck := X.cell (List.getElem?_eq_getElem hkl)
      have fk := X.frozen k
      go_wp2_with fail
      go_roundw
      case measure => simp [intOf]; omega
      case rel => exact ⟨k + 1, cl.set k _, by omega, rfl, X.set k _, by rw [List.length_set]; exact HCL.out, B3r.setCell (p := ⟨gx, k, none⟩) hgx _, bwr.setCell (p := ⟨gx, k, none⟩) (by show w.heap.size ≤ gx; omega) _⟩
    · have hd : decide ((k : Int) < (m0 : Int)) = false := by simp; omega
      have k10 := alike_any _ _ _ _ _ _ _ _ wr (H0.out.on bwr) (R3.on B3r) (by omega) (by omega)
      simp only [decide_true] at k10
      clear X
      go_wp2_with (go_at_call 10; refine k10.mono ?_; rintro e w16 ⟨rfl, b16⟩)
      have hzr := bwr.size
      go_ret
      exact ⟨by simp, bwr.trans (b16.mono (by omega))⟩
end Go.Proofs.YtahfaeamjbcepaaGreatDoor

namespace Go.Proofs.YtahfaeamjbcepaaGreatDoor
open Go.RowKit

theorem tx_data2 (s : ByteArray) : Value.string s = tx s.data.toList := by
  cases s
  simp [tx]

theorem all_row (a0 : Option Addr) (n0 c0 : Nat) (s0 : List (List UInt8)) (a1 : Option Addr) (n1 c1 : Nat) (s1 : List (List UInt8)) (s : ByteArray) (w : World) (hT : Tabs w) (h0 : SR w a0 n0 c0 s0) (h1 : SR w a1 n1 c1 s1) (hs : s.size ≤ maxLen) :
    Calls Tryz.prog 3 #[.slice a0 n0 c0, .slice a1 n1 c1, .string s] w fun e w' => e = .returned (.bool true) ∧ Below w.heap.size w w' := by
  rw [tx_data2 s]
  exact all_walk a0 n0 c0 s0 a1 n1 c1 s1 _ w hT h0 h1 (by rw [Array.length_toList]; exact hs)
end Go.Proofs.YtahfaeamjbcepaaGreatDoor
