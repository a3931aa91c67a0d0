/- The walk of QueueSorts: it tells true. No condition but that the bytes can be read. -/
import Derived.Test.YtgimpolgagkffaaOpen
namespace Go.Proofs.Ytgimpolgagkffaa
open Go.RowKit

/-- What is pushed: the first k. -/
def ents (bs : List UInt8) (m k : Nat) : List En := (List.range k).map fun i => ⟨((bs.getD i 0).toNat % m : Nat), (i : Int), i⟩

theorem ents_succ (bs : List UInt8) (m k : Nat) : ents bs m (k + 1) = ents bs m k ++ [⟨((bs.getD k 0).toNat % m : Nat), (k : Int), k⟩] := by simp [ents, List.range_succ]

theorem ents_mem {bs : List UInt8} {m k : Nat} {x : En} (h : x ∈ ents bs m k) : x.turn < k ∧ x.num = (x.turn : Int) ∧ x.wt = (((bs.getD x.turn 0).toNat % m : Nat) : Int) := by
  obtain ⟨i, hi, rfl⟩ := List.mem_map.1 h
  exact ⟨List.mem_range.1 hi, rfl, rfl⟩

theorem Rd.byte {w : World} {ao : Option Addr} {n cap : Nat} {bs : List UInt8} (h : Rd w ao n cap bs) {i : Nat} (hi : i < n) : ∃ b off, ao = some ⟨b, off, none⟩ ∧ b < w.heap.size ∧ w.cell? ⟨b, off + i, none⟩ = some (.int .u8 ((bs.getD i 0).toNat : Int)) := by
  have hl := h.len
  obtain ⟨b, off, e, hc⟩ := h.cells i (bs.getD i 0) (by rw [List.getD_eq_getElem?_getD, List.getElem?_eq_getElem (by omega)]; rfl)
  exact ⟨b, off, e, World.block_lt_of_cell? w _ hc, hc⟩

theorem info4 : ∃ i, Try.prog.info? 4 = some i ∧ i.zero = some (.bool false) ∧ i.size = 1 ∧ i.bytes = 1 := by
  have h : (Try.prog.info? 4).map (fun i => (i.zero, i.size, i.bytes)) = some (some (.bool false), 1, 1) := by kernel_rfl
  obtain ⟨i, hi, he⟩ := Option.map_eq_some_iff.1 h
  simp only [Prod.mk.injEq] at he
  exact ⟨i, hi, he⟩

/-- Behind the first loop. -/
structure S1 (w wr : World) (bs : List UInt8) (g i : Nat) (q : Option Nat) (S : List En) : Prop where
  qs : QS wr g q S i
  perm : S.Perm (ents bs 8 i)
  gnew : w.heap.size ≤ g
  qnew : ∀ b, q = some b → w.heap.size ≤ b
  bel : Below w.heap.size w wr

/-- In the second loop: k were popped of T. -/
structure S2 (w wr : World) (g gl i : Nat) (q : Option Nat) (T : List En) (k : Nat) (lw ln : Int) (sn : List Value) : Prop where
  qs : QS wr g q (T.drop k) i
  last : Blk wr gl 35 [.int .i64 lw, .int .i64 ln]
  lastIs : ∀ x ∈ T.drop k, lw < x.wt ∨ (lw = x.wt ∧ ln < x.num)
  seen : Blk wr (gl + 1) 4 sn
  len : sn.length = i
  seenIs : ∀ x ∈ T.drop k, sn[x.turn]? = some (.bool false)
  bel : Below w.heap.size w wr

theorem made_false (n : Nat) : (madeCells (Value.bool false).cells (n * 1)).toList = List.replicate n (.bool false) := by
  apply List.ext_getElem?
  intro j
  by_cases h : j < n
  · simp [madeCells, Value.cells, h, Nat.mod_one]
  · simp [madeCells, Value.cells, h]

theorem owns_at {w : World} {base : Nat} {e : TypeId} {n : Nat} {g : Nat} {xs : List Value} (h : w.ownsRow base e 1 (.slice (some ⟨g, 0, none⟩) n n) n xs) : Blk w g e xs ∧ xs.length = n := by
  have hl : xs.length = n := by have := h.1; simpa using this
  refine ⟨?_, hl⟩
  rcases h.2 with ⟨h1, _⟩ | ⟨g', c, cur, h1, _, h2, _, _, h3, h4⟩
  · cases h1
  · simp only [Value.slice.injEq, Option.some.injEq, Addr.mk.injEq] at h1
    obtain ⟨⟨rfl, _⟩, _, rfl⟩ := h1
    have : cur = xs.toArray := by
      apply Array.toList_inj.1
      rw [← h4, List.take_of_length_le (by simp; omega)]
    unfold Blk
    rw [h2, this]

theorem S2.start {w wr w2 w3 : World} {bs : List UInt8} {g i : Nat} {q : Option Nat} {S : List En} (hb2 : Below wr.heap.size wr w2) (hb3 : Below w2.heap.size w2 w3) (h : S1 w wr bs g i q S) (P2 : Blk w2 wr.heap.size 35 [.int .i64 (-1), .int .i64 0])
    (o3 : w3.ownsRow (wr.heap.size + 1) 4 1 (.slice (some ⟨wr.heap.size + 1, 0, none⟩) i i) i (madeCells (Value.bool false).cells (i * 1)).toList) : S2 w w3 g wr.heap.size i q S 0 (-1) 0 (List.replicate i (.bool false)) := by
  rw [made_false] at o3
  have hm : ∀ x ∈ S, x ∈ ents bs 8 i := fun x hx => h.perm.mem_iff.1 hx
  refine ⟨(h.qs.below hb2).below hb3, P2.below hb3 P2.lt, fun x hx => ?_, (owns_at o3).1, by simp, fun x hx => ?_, h.bel.trans ((hb2.trans (hb3.mono hb2.size)).mono h.bel.size)⟩
  · obtain ⟨_, _, h3⟩ := ents_mem (hm x hx)
    left; omega
  · obtain ⟨h1, _, _⟩ := ents_mem (hm x hx)
    simp [h1]

theorem turns_nodup {bs : List UInt8} {m i : Nat} {T : List En} (h : T.Perm (ents bs m i)) : (T.map En.turn).Nodup := by
  have : (T.map En.turn).Perm (List.range i) := by
    have := h.map En.turn
    rwa [show (ents bs m i).map En.turn = List.range i by simp [ents, Function.comp_def]] at this
  exact this.nodup_iff.2 List.nodup_range

/-- One more. -/
theorem S2.next {w wr : World} {bs : List UInt8} {g gl i : Nat} {q : Option Nat} {T : List En} {k : Nat} {lw ln : Int} {sn : List Value} (h : S2 w wr g gl i q T k lw ln sn) {x : En} (hx : T.drop k = x :: T.drop (k + 1)) (hT : T.Perm (ents bs 8 i)) (hS : Srt T) {w' : World}
    (qs : QS w' g q (T.drop (k + 1)) i) (last : Blk w' gl 35 [.int .i64 x.wt, .int .i64 x.num]) (seen : Blk w' (gl + 1) 4 (sn.set x.turn (.bool true))) (bel : Below w.heap.size w w') : S2 w w' g gl i q T (k + 1) x.wt x.num (sn.set x.turn (.bool true)) := by
  have hs : Srt (x :: T.drop (k + 1)) := by rw [← hx]; exact List.Pairwise.sublist (List.drop_sublist _ _) hS
  have hd : (x :: T.drop (k + 1)).map En.turn |>.Nodup := by rw [← hx]; exact List.Nodup.sublist ((List.drop_sublist k T).map _) (turns_nodup hT)
  have hm : ∀ y ∈ T.drop k, y ∈ ents bs 8 i := fun y hy => hT.mem_iff.1 (List.mem_of_mem_drop hy)
  refine ⟨qs, last, fun y hy => ?_, seen, by rw [List.length_set]; exact h.len, fun y hy => ?_, bel⟩
  · have hb := (List.pairwise_cons.1 hs).1 y hy
    rw [before_iff] at hb
    have e1 := (ents_mem (hm x (by rw [hx]; exact List.mem_cons_self))).2.1
    have e2 := (ents_mem (hm y (by rw [hx]; exact List.mem_cons_of_mem _ hy))).2.1
    omega
  · have hne : x.turn ≠ y.turn := fun e => by
      rw [List.map_cons, List.nodup_cons] at hd
      exact hd.1 (by rw [e]; exact List.mem_map_of_mem hy)
    rw [List.getElem?_set_ne hne]
    exact h.seenIs y (by rw [hx]; exact List.mem_cons_of_mem _ hy)

theorem S2.drew' {w wr : World} {g gl i : Nat} {q : Option Nat} {T : List En} {k : Nat} {lw ln : Int} {sn : List Value} (h : S2 w wr g gl i q T k lw ln sn) (w' : World) (e : w'.heap = wr.heap) (b : Below w.heap.size w w') : S2 w w' g gl i q T k lw ln sn :=
  ⟨h.qs.carry (by rw [e]) (fun _ _ => by rw [e]), h.last.carry (by rw [e]), h.lastIs, h.seen.carry (by rw [e]), h.len, h.seenIs, b⟩
theorem S2.drew1 {w wr : World} {g gl i : Nat} {q : Option Nat} {T : List En} {k : Nat} {lw ln : Int} {sn : List Value} (h : S2 w wr g gl i q T k lw ln sn) : S2 w wr.drew g gl i q T k lw ln sn :=
  h.drew' wr.drew rfl h.bel.drew

theorem S2.drew {w w5 w6 : World} {x gl g n : Nat} {q : Option Nat} {S : List En} {l1 l2 l3 : List Value} (nq : Nat) (e : w5.drewN nq = w6) (h : Blk w5 x 35 l1 ∧ Blk w5 gl 35 l2 ∧ Blk w5 (gl + 1) 4 l3 ∧ QS w5 g q S n ∧ Below w.heap.size w w5) : Blk w6 x 35 l1 ∧ Blk w6 gl 35 l2 ∧ Blk w6 (gl + 1) 4 l3 ∧ QS w6 g q S n ∧ Below w.heap.size w w6 := by
  subst e
  obtain ⟨a, b, c, d, e⟩ := h
  exact ⟨a.drewN nq, b.drewN nq, c.drewN nq, d.carry rfl (fun _ _ => rfl), bel_drewN e nq⟩

theorem S2.three {w : World} {g gl n xt : Nat} {q : Option Nat} {S : List En} (h : QS w g q S n) (hg : g < gl) (hq : ∀ b, q = some b → b < gl) (a b c : Value) (j0 j1 : Nat) : QS (((w.setCell ⟨gl + 1, xt, none⟩ a).setCell ⟨gl, j0, none⟩ b).setCell ⟨gl, j1, none⟩ c) g q S n := by
  have k : Keep w (((w.setCell ⟨gl + 1, xt, none⟩ a).setCell ⟨gl, j0, none⟩ b).setCell ⟨gl, j1, none⟩ c) (fun k => k = gl ∨ k = gl + 1) := (((Keep.refl w _).setCell (g := gl + 1) (fun _ => .inr rfl) _ _).setCell (g := gl) (fun _ => .inl rfl) _ _).setCell (g := gl) (fun _ => .inl rfl) _ _
  exact h.keep k (by omega) (fun b hb => by have := hq b hb; omega)

theorem S2.bel3 {w0 w : World} {gl xt : Nat} (h : Below w0.heap.size w0 w) (hg : w0.heap.size ≤ gl) (a b c : Value) (j0 j1 : Nat) : Below w0.heap.size w0 (((w.setCell ⟨gl + 1, xt, none⟩ a).setCell ⟨gl, j0, none⟩ b).setCell ⟨gl, j1, none⟩ c) := by
  have k : Keep w (((w.setCell ⟨gl + 1, xt, none⟩ a).setCell ⟨gl, j0, none⟩ b).setCell ⟨gl, j1, none⟩ c) (fun k => k = gl ∨ k = gl + 1) := (((Keep.refl w _).setCell (g := gl + 1) (fun _ => .inr rfl) _ _).setCell (g := gl) (fun _ => .inl rfl) _ _).setCell (g := gl) (fun _ => .inl rfl) _ _
  exact h.trans (k.below h.size (fun k h => by omega))

set_option maxRecDepth 100000 in
set_option maxHeartbeats 2000000 in
theorem sorts_any (ao : Option Addr) (n cap : Nat) (bs : List UInt8) (w : World) (hR : Rd w ao n cap bs) : Calls Try.prog 4 #[.slice ao n cap] w fun e w' => e = .returned (.bool true) ∧ Below w.heap.size w w' := by
  have hle := hR.le
  have hmx := hR.max
  unfold maxLen at hmx
  by_cases hn : 256 < n
  · go_enter Try.func4, Try.ntmps4
    go_wp2_with (go_at_call 6; refine (begun_any w).mono ?_; rintro e w0 ⟨rfl, hb0⟩)
    go_ret
    exact ⟨rfl, hb0⟩
  · have hn' : n ≤ 256 := by omega
    clear hn
    go_enter Try.func4, Try.ntmps4
    go_wp2_with (first
      | (go_at_call 6; refine (begun_any w).mono ?_; rintro e w0 ⟨rfl, hb0⟩)
      | (go_at_call 7; refine (new_any w0).mono ?_; rintro e w1 ⟨g, rfl, hg, Q1, hb1⟩))
    have hb01 := hb0.trans (hb1.mono hb0.size)
    go_loopw [4] (fun s4 wr => ∃ (i : Nat) (q : Option Nat) (S : List En), s4 = .int .i64 (i : Int) ∧ i ≤ n ∧ S1 w wr bs g i q S) (fun s4 _ => n - (intOf s4).toNat)
    case atStart => exact ⟨0, none, [], rfl, Nat.zero_le _, Q1, List.Perm.refl _, Nat.le_trans hb0.size hg, (fun b e => by cases e), hb01⟩
    case round =>
      clear Q1 hb1 hb0 hb01
      obtain ⟨i, q, S, rfl, hi, h1⟩ := hrel
      by_cases hin : i < n
      · obtain ⟨b, off, rfl, hbl, hc⟩ := (hR.below h1.bel (Nat.le_refl _)).byte hin
        obtain ⟨u, hu⟩ : ∃ u, (bs.getD i 0).toNat = u := ⟨_, rfl⟩
        have hu9 : u ≤ 255 := by rw [← hu]; have := UInt8.toNat_lt (bs.getD i 0); omega
        rw [hu] at hc
        have HU : Hid _ := hu
        clear hu
        have hmod : (u : Int).tmod 8 = ((u % 8 : Nat) : Int) := by exact (Int.ofNat_tmod u 8).symm
        have hlS : S.length = i := by rw [h1.perm.length_eq]; simp [ents]
        have HLS : Hid _ := hlS
        clear hlS
        go_wp2_with fail
        refine (qpush_any g q S i ((u : Int) % 8) (i : Int) wr h1.qs (by have := HLS.out; omega) (by omega)).mono ?_
        rintro e w2 ⟨rfl, q2, hP⟩
        have REL : Hid (S1 w w2 bs g (i + 1) q2 (ins ⟨(u : Int) % 8, (i : Int), i⟩ S)) := ⟨hP.qs, by
            rw [ents_succ, HU.out]
            exact (ins_perm _ _).trans ((h1.perm.cons _).trans (List.perm_append_singleton _ _).symm), h1.gnew, fun b e => by
            rcases hP.own with h | ⟨k, h, hk⟩
            · rw [h] at e; exact h1.qnew b e
            · rw [h] at e; simp at e; have := h1.bel.size; omega, h1.bel.trans (hP.keep.below h1.bel.size (fun k h => h.elim (fun e => by rw [e]; exact h1.gnew) (h1.qnew k)))⟩
        clear hP h1 hc
        go_wp2_with fail
        go_roundw
        case rel => exact ⟨i + 1, q2, _, by go_num, hin, REL.out⟩
        case measure => simp [intOf]; omega
      · obtain rfl : i = n := by omega
        clear hi
        obtain ⟨w2, hw2, hb2, P2, hs2⟩ := one_new wr [.int .i64 (-1), .int .i64 0] 35
        obtain ⟨i4, hi4, hz4, hs4, hb4⟩ := info4
        have HW : Hid _ := hw2
        clear hw2
        go_wp2_with (refine wpList_make_full (wr.alloc (.cells #[.int .i64 (-1), .int .i64 0] 35)) (by rfl) (.tmp 37) (.tmp 37) 47 (by rfl) (wr.alloc (.cells #[.int .i64 (-1), .int .i64 0] 35)).heap.size 4 i4 _ 1 Try.underlying47 hi4 hz4 hs4 .i64 .i64 (i : Int) (i : Int) i (by rfl) (by rfl) rfl rfl (by rw [hb4]; omega) (by unfold maxLen; omega) (Nat.le_refl _) ?_; intro w3 o3 g3)
        rw [HW.out] at o3 g3
        have hz2 : w2.heap.size = wr.heap.size + 1 := by rw [← HW.out]; simp
        rw [hz2] at o3
        have hb3 : Below w2.heap.size w2 w3 := ⟨g3.os, g3.tape, g3.output, g3.size, fun k hk => g3.block k hk (by simp)⟩
        have ST := S2.start hb2 hb3 h1 P2 o3
        have gl := h1.qs.glt
        have ql : ∀ b, q = some b → b < wr.heap.size := fun b e => h1.qs.qlt e
        have hT := h1.perm
        obtain ⟨lg, hlg⟩ : ∃ lg, wr.heap.size = lg := ⟨_, rfl⟩
        rw [hlg] at ST gl ql
        rw [hlg]
        have hgw := h1.gnew
        have hqw := h1.qnew
        have hlw : w.heap.size ≤ lg := by rw [← hlg]; exact h1.bel.size
        have hSr := h1.qs.srt
        have hl9 : S.length = i := by rw [hT.length_eq]; simp [ents]
        clear h1 P2 o3 g3 hb2 hb3 hz2 hlg hs2
        go_loopw [7] (fun s7 wk => ∃ (k : Nat) (lw ln : Int) (sn : List Value), s7 = .int .i64 (k : Int) ∧ k ≤ i ∧ S2 w wk g lg i q S k lw ln sn) (fun s7 _ => i - (intOf s7).toNat)
        case atStart => exact ⟨0, _, _, _, rfl, Nat.zero_le _, ST⟩
        case round =>
          clear ST
          obtain ⟨k, lw, ln, sn, rfl, hk, h2⟩ := hrel
          by_cases hki : k < i
          · obtain ⟨x, hx⟩ : ∃ x, S.drop k = x :: S.drop (k + 1) := ⟨_, List.drop_eq_getElem_cons (by omega)⟩
            have hxm : x ∈ ents bs 8 i := hT.mem_iff.1 (List.mem_of_mem_drop (by rw [hx]; exact List.mem_cons_self))
            obtain ⟨x1, x2, x3⟩ := ents_mem hxm
            obtain ⟨b, off, rfl, hbl, hc⟩ := (hR.below h2.bel (Nat.le_refl _)).byte x1
            have hbw0 : b < w.heap.size := by obtain ⟨b', off', e, h', _⟩ := hR.byte x1; simp at e; omega
            have hc0 : w.cell? ⟨b, off + x.turn, none⟩ = some (.int .u8 ((bs.getD x.turn 0).toNat : Int)) := by obtain ⟨b', off', e, _, h'⟩ := hR.byte x1; simp at e; obtain ⟨rfl, rfl⟩ := e; exact h'
            have Q2 : QS wr g q (x :: S.drop (k + 1)) i := by rw [← hx]; exact h2.qs
            have l1 := h2.lastIs x (by rw [hx]; exact List.mem_cons_self)
            have l2 := h2.seenIs x (by rw [hx]; exact List.mem_cons_self)
            have lb := h2.last
            have sb := h2.seen
            have bel := h2.bel
            have hsl := h2.len
            have NX : ∀ w', QS w' g q (S.drop (k + 1)) i → Blk w' lg 35 [.int .i64 x.wt, .int .i64 x.num] → Blk w' (lg + 1) 4 (sn.set x.turn (.bool true)) → Below w.heap.size w w' → S2 w w' g lg i q S (k + 1) x.wt x.num (sn.set x.turn (.bool true)) := fun w' a b c d => S2.next h2 hx hT hSr a b c d
            obtain ⟨xw, xn, xt⟩ := x
            simp only at x1 x2 x3 l1 l2 NX hc hc0
            subst x2
            obtain ⟨u, hu⟩ : ∃ u, (bs.getD xt 0).toNat = u := ⟨_, rfl⟩
            have hu9 : u ≤ 255 := by rw [← hu]; have := UInt8.toNat_lt (bs.getD xt 0); omega
            rw [hu] at hc hc0 x3
            obtain rfl : xw = (u : Int) % 8 := by rw [x3]; omega
            have NXH : Hid _ := NX
            have HSL : Hid _ := hsl
            clear hu x3 h2 hx hT hSr NX hsl hxm hR
            have hg1 : g ≠ lg := by omega
            have hq1 : ∀ b, b = lg ∨ b = lg + 1 → ¬ (b = g ∨ q = some b) := fun b hb h => h.elim (fun e => by omega) (fun e => by have := ql b e; omega)
            go_wp2_with (go_at_call 9; refine (qpop_any g q ⟨(u : Int) % 8, (xt : Int), xt⟩ (S.drop (k + 1)) i wr Q2).mono ?_; rintro e w4 ⟨rfl, Q4, K4⟩)
            obtain ⟨w5, hw5, hb5, P5, hs5⟩ := one_new w4 [.int .i64 ((u : Int) % 8), .int .i64 (xt : Int)] 35
            rw [hw5]
            have hz4 := K4.size
            have lb5 := (lb.keep K4 (hq1 lg (.inl rfl))).below hb5 (lb.keep K4 (hq1 lg (.inl rfl))).lt
            have sb5 := (sb.keep K4 (hq1 (lg + 1) (.inr rfl))).below hb5 (sb.keep K4 (hq1 (lg + 1) (.inr rfl))).lt
            have Q5 := Q4.below hb5
            have bel5 : Below w.heap.size w w5 := (bel.trans (K4.below bel.size (fun k h => h.elim (fun e => by omega) (hqw k)))).trans (hb5.mono (Nat.le_trans bel.size hz4))
            have hbw : b < w.heap.size := hbw0
            have hc5 : w5.cell? ⟨b, off + xt, none⟩ = some (.int .u8 (u : Int)) := (bel5.cell (p := ⟨b, off + xt, none⟩) hbw).trans hc0
            have lt4 : lg + 1 < w4.heap.size := Nat.lt_of_lt_of_le sb.lt hz4
            have xne : w4.heap.size ≠ lg ∧ w4.heap.size ≠ lg + 1 := ⟨by omega, by omega⟩
            have p0 := P5.cell (j := 0) rfl
            have p1 := P5.cell (j := 1) rfl
            have q0 := lb5.cell (j := 0) rfl
            have q1 := lb5.cell (j := 1) rfl
            have s1 := sb5.cell l2
            have n0 : ¬ (xt : Int) < 0 := by omega
            have n1 : ¬ (i : Int) ≤ (xt : Int) := by omega
            have n3 : ¬ (u : Int) % 8 < lw := by omega
            have hxi : (xt : Int) < (i : Int) := by omega
            clear hw5 K4 Q4 Q2 lb sb bel hc hs5 hc0 hb5
            have KP : Hid _ := And.intro P5 (And.intro lb5 (And.intro sb5 (And.intro Q5 bel5)))
            clear P5 lb5 sb5 Q5 bel5
            by_cases hlw9 : (u : Int) % 8 = lw
            · have n4 : ¬ (xt : Int) < ln := by omega
              subst hlw9
              go_quiet (fail)
              obtain ⟨w6, hw6⟩ : ∃ w6, w5.drewN nq = w6 := ⟨_, rfl⟩
              rw [hw6]
              obtain ⟨P6, lb6, sb6, Q6, bel6⟩ := S2.drew nq hw6 KP.out
              clear hw6 p0 p1 q0 q1 s1 hc5 KP
              have p0 := P6.cell (j := 0) rfl
              have p1 := P6.cell (j := 1) rfl
              have q0 := lb6.cell (j := 0) rfl
              have q1 := lb6.cell (j := 1) rfl
              have f0 := lb6.frozen 0
              have f1 := lb6.frozen 1
              have s1 := sb6.cell l2
              have g1 := sb6.frozen xt
              have REL : Hid (S2 w (((w6.setCell ⟨lg + 1, xt, none⟩ (.bool true)).setCell ⟨lg, 0, none⟩ (.int .i64 ((u : Int) % 8))).setCell ⟨lg, 1, none⟩ (.int .i64 (xt : Int))) g lg i q S (k + 1) ((u : Int) % 8) (xt : Int) (sn.set xt (.bool true))) :=
                NXH.out _ (S2.three Q6 gl ql _ _ _ _ _) (((lb6.other (g' := lg + 1) (j := xt) (.bool true) (by omega)).set 0 _).set 1 _) (((sb6.set xt _).other (g' := lg) (j := 0) _ (by omega)).other (g' := lg) (j := 1) _ (by omega)) (S2.bel3 bel6 hlw _ _ _ _ _)
              clear P6 lb6 sb6 Q6 bel6 NXH
              go_wp2_with fail
              go_region
              go_wp2_with fail
              go_roundw
              case rel => exact ⟨k + 1, _, _, _, by go_num, hki, S2.drew1 REL.out⟩
              case measure => simp [intOf]; omega
            · have n5 : ((u : Int) % 8 == lw) = false := beq_eq_false_iff_ne.2 hlw9
              go_quiet (fail)
              obtain ⟨w6, hw6⟩ : ∃ w6, w5.drewN nq = w6 := ⟨_, rfl⟩
              rw [hw6]
              obtain ⟨P6, lb6, sb6, Q6, bel6⟩ := S2.drew nq hw6 KP.out
              clear hw6 p0 p1 q0 q1 s1 hc5 KP
              have p0 := P6.cell (j := 0) rfl
              have p1 := P6.cell (j := 1) rfl
              have q0 := lb6.cell (j := 0) rfl
              have q1 := lb6.cell (j := 1) rfl
              have f0 := lb6.frozen 0
              have f1 := lb6.frozen 1
              have s1 := sb6.cell l2
              have g1 := sb6.frozen xt
              have REL : Hid (S2 w (((w6.setCell ⟨lg + 1, xt, none⟩ (.bool true)).setCell ⟨lg, 0, none⟩ (.int .i64 ((u : Int) % 8))).setCell ⟨lg, 1, none⟩ (.int .i64 (xt : Int))) g lg i q S (k + 1) ((u : Int) % 8) (xt : Int) (sn.set xt (.bool true))) :=
                NXH.out _ (S2.three Q6 gl ql _ _ _ _ _) (((lb6.other (g' := lg + 1) (j := xt) (.bool true) (by omega)).set 0 _).set 1 _) (((sb6.set xt _).other (g' := lg) (j := 0) _ (by omega)).other (g' := lg) (j := 1) _ (by omega)) (S2.bel3 bel6 hlw _ _ _ _ _)
              clear P6 lb6 sb6 Q6 bel6 NXH
              go_wp2_with fail
              go_region
              go_wp2_with fail
              go_roundw
              case rel => exact ⟨k + 1, _, _, _, by go_num, hki, S2.drew1 REL.out⟩
              case measure => simp [intOf]; omega
          · obtain rfl : k = i := by omega
            have hd : S.drop k = [] := List.drop_eq_nil_of_le (by omega)
            have Q2 := h2.qs
            rw [hd] at Q2
            have lb := h2.last
            have bel := h2.bel
            obtain ⟨w5, hw5, hb5, P5, hs5⟩ := one_new wr [.slice none 0 0, .int .i64 0] 51
            have Q5 := Q2.below hb5
            have lb5 := lb.below hb5 lb.lt
            have bel5 := bel.trans (hb5.mono bel.size)
            have Z5 : QS w5 wr.heap.size none [] 0 := ⟨⟨.slice none 0 0, [], ⟨P5, ⟨rfl, .inl ⟨rfl, rfl⟩⟩, fun k h0 h1 => by simp at h1⟩, rfl, List.Perm.refl _⟩, List.Pairwise.nil, fun _ h => by simp at h, by simp⟩
            have q0 := lb5.cell (j := 0) rfl
            have q1 := lb5.cell (j := 1) rfl
            have HB5 : Hid _ := bel5
            have hlt5 := bel.size
            clear h2 Q2 lb bel bel5 hd hT hSr hR P5 hb5
            go_wp2_with (go_at_call 15; refine (qlen_any g q [] k w5 Q5).mono ?_; rintro e _ ⟨rfl, rfl⟩)
            refine (qpush_nil lw ln w5).mono ?_
            rintro e w6 ⟨rfl, hb6⟩
            have Z6 := Z5.below hb6
            have lb6 := lb5.below hb6 lb5.lt
            have q0 := lb6.cell (j := 0) rfl
            have q1 := lb6.cell (j := 1) rfl
            clear Z5 lb5 Q5
            go_wp2_with fail
            refine (qlen_nil w6).mono ?_
            rintro e _ ⟨rfl, rfl⟩
            go_wp2_with fail
            refine (qpush_any wr.heap.size none [] 0 lw ln w6 Z6 (by simp) (by omega)).mono ?_
            rintro e w7 ⟨rfl, q7, hP7⟩
            go_wp2_with fail
            refine (qlen_any wr.heap.size q7 [⟨lw, ln, 0⟩] 1 w7 hP7.qs).mono ?_
            rintro e _ ⟨rfl, rfl⟩
            have FIN : Hid (Below w.heap.size w w7) := (HB5.out.trans (hb6.mono HB5.out.size)).trans (hP7.keep.below (Nat.le_trans HB5.out.size hb6.size) (fun k h => h.elim (fun e => by omega) (fun e => by cases e)))
            clear hP7 Z6 lb6
            go_wp2_with fail
            refine (qcopy_nil w7).mono ?_
            rintro e _ ⟨rfl, rfl⟩
            go_wp2_with fail
            go_ret
            exact ⟨rfl, FIN.out⟩
end Go.Proofs.Ytgimpolgagkffaa
