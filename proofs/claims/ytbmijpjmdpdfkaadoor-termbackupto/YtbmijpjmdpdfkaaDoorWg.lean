/- The walk of term's weighBy by a tally, where few parts of Levels are met. No condition but that the term and the tally lie in memory, that the term is formed all through, has fewer than 2^20 parts, and its Levels few, and that the tables hold what the program's text lays. -/
import Derived.Test.YtbmijpjmdpdfkaaDoorWeigh
import Derived.Test.YtbmijpjmdpdfkaaDoorTa6
import Derived.Test.YtbmijpjmdpdfkaaDoorSeqB
import Derived.Test.YtbmijpjmdpdfkaaDoorHr
namespace Go.Proofs.YtbmijpjmdpdfkaaDoor
open Go.RowKit Go.Shelf

attribute [local go_sem] Oper.semAt_some

/-- Every part is formed. -/
def Formed (l : List Pt) : Prop := ∀ p ∈ l, p.t.formB = true
/-- The parts of all Levels. -/
def lvs : List Pt → Nat
  | [] => 0
  | p :: r => Lv.sizes p.t.ls + lvs r
def mets : List Pt → Nat
  | [] => 0
  | p :: r => Lv.belows p.t.ls + mets r
theorem lvs_append (a b : List Pt) : lvs (a ++ b) = lvs a + lvs b := by
  induction a with
  | nil => simp [lvs]
  | cons x r ih => simp only [List.cons_append, lvs, ih]; omega
theorem mets_append (a b : List Pt) : mets (a ++ b) = mets a + mets b := by
  induction a with
  | nil => simp [mets]
  | cons x r ih => simp only [List.cons_append, mets, ih]; omega
theorem mets_le (a : List Pt) : mets a ≤ lvs a := by
  induction a with
  | nil => exact Nat.le_refl _
  | cons x r ih => have := Lv.sizes_belows x.t.ls; simp only [mets, lvs]; omega
theorem Lv.belows_take {args : List Lv} {i : Nat} {k n : Int} {aa : List Lv} (h : args[i]? = some (.mk k n aa)) : Lv.belows (args.take (i + 1)) = Lv.belows (args.take i) + Lv.sizes aa := by
  have h1 := Lv.sizes_take h
  have h2 := Lv.sizes_belows (args.take (i + 1))
  have h3 := Lv.sizes_belows (args.take i)
  have hi := (List.getElem?_eq_some_iff.1 h).1
  rw [Lv.size_mk] at h1
  simp only [List.length_take] at h2 h3
  omega

/-- The tally as a walk keeps it: its row is new, and not among X. -/
structure TI (W : World) (B tg N : Nat) (X : Nat → Prop) (met : Nat) (v : Value) (n : Nat) (xs : List Value) : Prop where
  blk : Blk W tg 105 [.slice none 0 0, .int .i64 (met : Int), v, .map none]
  row : W.ownsRow B 131 4 v n xs
  new : ∀ k, v.ownBlock = some k → N ≤ k ∧ ¬ X k
theorem TI.keep {W W' : World} {B tg N : Nat} {X X' S : Nat → Prop} {met n : Nat} {v : Value} {xs : List Value} (h : TI W B tg N X met v n xs) (hk : Keep W W' S) (hS : ¬ S tg) (hS2 : ∀ k, S k → X k ∨ k < N) (hX : ∀ k, X' k → X k ∨ W.heap.size ≤ k) : TI W' B tg N X' met v n xs :=
  ⟨h.blk.keep hk hS, owns_block h.row (fun k e => hk.block k (owns_own h.row e).2 (fun hs => by
    have := h.new k e
    rcases hS2 k hs with h1 | h1
    · exact this.2 h1
    · omega)), fun k e => ⟨(h.new k e).1, fun hx => by
    rcases hX k hx with h1 | h1
    · exact (h.new k e).2 h1
    · have := (owns_own h.row e).2; omega⟩⟩

set_option maxRecDepth 100000 in
set_option maxHeartbeats 8000000 in
theorem weighBy_few (b off tg : Nat) (T : Tr) (w : World) (B : Nat) (hT : Tabs w) (h3 : 3 ≤ B) (hB : B ≤ w.heap.size) (hc : TCells w b off T) (hin : TIn w (· < B) T) (hsz : T.size < 1048576) (hpl : Formed (Pt.mk b off T 1 0).seq) (hTl : Blk w tg 105 [.slice none 0 0, .int .i64 0, .slice none 0 0, .map none]) (htg : B ≤ tg) (htb : tg ≠ b) (hlv : lvs (Pt.mk b off T 1 0).seq ≤ 262144) :
    Calls Tryd.prog 47 #[.pointer (some ⟨b, off, none⟩), .func (.func 74) #[.pointer (some ⟨tg, 0, none⟩)] #[]] w fun e w' => e = .returned (.tuple #[.agg #[.int .i64 (T.size : Int), .int .i64 (lvs (Pt.mk b off T 1 0).seq : Int)], .bool true]) ∧ Keep w w' (fun k => k = tg) := by
  refine (callsIn_wide (n := 9)).1 ?_
  refine callsIn_of_wp_marks Tryd.func47 rfl trivial ?_ rfl
  simp only [Tryd.ntmps47, List.size_toArray, List.length_cons, List.length_nil, Nat.reduceAdd, Nat.reduceSub, Array.replicate_succ, Array.replicate_zero, List.push_toArray, List.append_toArray, List.nil_append, List.cons_append]
  have hlb := hc.lt
  have hlt0 := hTl.lt
  have hlen : (Pt.mk b off T 1 0).seq.length = T.size := Tr.seq_len _ _ _ _ _
  gi_wp2_with fail
  with_reducible refine And.intro (wide_fn 33) ?_
  refine (callsIn_wide.2 (parts_fn b off _)).mono ?_
  rintro e w' ⟨rfl, rfl⟩
  dsimp only
  obtain ⟨w4, hw4, hb4, P0, P1, P2, P3, hs4⟩ := four_new w [.func (.func 74) #[.pointer (some ⟨tg, 0, none⟩)] #[]] [.int .i64 0, .int .i64 0] [.bool false] [.pointer (some ⟨b, off, none⟩)] 76 60 4 48
  rw [hw4]
  simp only [World.size_alloc]
  clear hw4
  gi_wp2_with fail
  have hseq := parts1_seqy B (w.heap.size + 1 + 1 + 1) ⟨b, off, T, 1, 0⟩ w4 rfl rfl (hT.on hb4) h3 (by omega) (by omega) (hc.on hb4) (hin.below hb4 hB) (P3.cell (j := 0) rfl) hsz
  have HSZ : Hid (T.size < 1048576 ∧ (Pt.mk b off T 1 0).seq.length = T.size ∧ lvs (Pt.mk b off T 1 0).seq ≤ 262144) := ⟨hsz, hlen, hlv⟩
  clear hsz hlen hlv
  refine wpIn_rngy (by rfl) enters60 hseq (fun k h => by simp only at h; omega) (fun _ => rfl)
    (fun pre X W => Keep w W (fun k => k = tg) ∧ Blk W w.heap.size 76 [.func (.func 74) #[.pointer (some ⟨tg, 0, none⟩)] #[]] ∧ Blk W (w.heap.size + 1) 60 [.int .i64 ((pre.length : Nat) : Int), .int .i64 ((lvs pre : Nat) : Int)] ∧ Blk W (w.heap.size + 1 + 1) 4 [.bool false] ∧ w.heap.size + 4 ≤ W.heap.size ∧ (∀ k, X k → k < W.heap.size) ∧ ∃ v n xs, TI W B tg (w.heap.size + 6) X (mets pre) v n xs)
    (fun c pre W => False) ?hI ?hIx ?h0 ?hround ?hdone ?hstop
  case hI =>
    rintro pre X X' A B' ⟨h1, h1', h2, h4, h5, h6, v, n, xs, h7⟩ hX hk _ hX'
    have nx : ∀ k, X k ∨ k = w4.heap.size ∨ k = w4.heap.size + 1 → w.heap.size + 4 ≤ k := fun k h => by rcases h with h | h; (have := hX k h; omega); omega
    have hz := hk.size
    refine ⟨h1.trans hk (fun k hk' h => by have := nx k h; omega), h1'.keep hk (fun h => by have := nx _ h; omega), h2.keep hk (fun h => by have := nx _ h; omega), h4.keep hk (fun h => by have := nx _ h; omega), Nat.le_trans h5 hk.size, fun k h => ?_, v, n, xs, h7.keep hk (fun h => by have := nx _ h; omega) (fun k h => ?_) (fun k h => ?_)⟩
    · rcases hX' k h with h | h
      · have := h6 k h; omega
      · exact h.2
    · rcases h with h | h
      · exact .inl h
      · exact .inr (by omega)
    · rcases hX' k h with h | h
      · exact .inl h
      · exact .inr h.1
  case hIx => exact fun _ _ _ _ h _ => h
  case h0 => exact ⟨Keep.of_below hb4 (Nat.le_refl _), P0, P1, P2, by omega, fun _ h => h.elim, .slice none 0 0, 0, [], ⟨hTl.below hb4 hTl.lt, ⟨rfl, .inl ⟨rfl, rfl⟩⟩, fun k e => by cases e⟩⟩
  case hround =>
    intro l pre x rest X W K hxs hX hsz2 hI0 hK
    obtain ⟨hI1, hI1', hI2, hI3, hI4, hI5, _⟩ := hI0
    have hmem : x ∈ (Pt.mk b off T 1 0).seq := by rw [hxs]; simp
    have hat := seq_at W B b T.size T b off 1 0 (hc.carry (hI1.block b hlb (fun e => htb e.symm))) (hin.keep hI1 hB (fun k e => by omega)) (.inr rfl) (by omega) x hmem
    have hform := hpl x hmem
    have hlt : pre.length + 1 < 1048576 ∧ lvs pre + Lv.sizes x.t.ls ≤ 262144 := by
      have h2 := HSZ.out
      rw [hxs] at h2
      simp [lvs_append, lvs] at h2
      omega
    have hmle := mets_le pre
    have hne : ((pre.length : Int) + 1 == 1048576) = false := by simp; omega
    have hcw : wrap64 ((pre.length : Int) + 1) = (pre.length : Int) + 1 := wrap64_small _ (by omega) (by omega)
    have hln : (((pre ++ [x]).length : Nat) : Int) = (pre.length : Int) + 1 := by simp
    have hlv1 : lvs (pre ++ [x]) = lvs pre + Lv.sizes x.t.ls := by rw [lvs_append]; simp [lvs]
    have hmt1 : mets (pre ++ [x]) = mets pre + Lv.belows x.t.ls := by rw [mets_append]; simp [mets]
    clear hxs hmem
    obtain ⟨xb, xoff, xt, xd, xm⟩ := x
    simp only at hform hlt hlv1 hmt1
    dsimp only [Pt.val]
    gi_wp2_with fail
    obtain ⟨Wa, hwa, hba, Pa, hsa⟩ := one_new W [.pointer (some ⟨xb, xoff, none⟩), .int .i64 (xd : Int), .int .i64 (xm : Int)] 50
    rw [hwa]
    refine hK _ _ (Keep.of_below hba (Nat.le_refl _)) ?_
    clear hK hwa
    rintro W2 hk2 ⟨h1, h1', h2, h4, h5, h6, v2, n2, xs2, h7⟩
    have hkk : Keep W W2 (fun k => k = w4.heap.size + 1) := (Keep.of_below hba (Nat.le_refl _)).trans hk2 (fun _ _ h => h)
    have Pb := Pa.keep hk2 (by omega)
    have hat2 : AtP W2 B b T.size ⟨xb, xoff, xt, xd, xm⟩ := hat.carry (fun k hk => hkk.block k (by omega) (by omega))
    have hxlt := hat2.cells.lt
    simp only at hxlt
    have hxat : xb < B ∨ xb = b := hat2.at'
    have hxne : xb ≠ w.heap.size + 1 := by omega
    obtain ⟨W3, hW3, hk3⟩ : ∃ W3, W2.setCell ⟨w.heap.size + 1, 0, none⟩ (.int .i64 ((pre.length : Int) + 1)) = W3 ∧ Keep W2 W3 (fun k => k = w.heap.size + 1) := ⟨_, rfl, (Keep.refl W2 (fun k => k = w.heap.size + 1)).setCell (fun _ => rfl) _ _⟩
    have H2 : Blk W3 (w.heap.size + 1) 60 [.int .i64 ((pre.length : Int) + 1), .int .i64 ((lvs pre : Nat) : Int)] := by rw [← hW3]; exact h2.set 0 _
    have hsz3 := hk3.size
    have Pc := Pb.keep hk3 (by omega)
    have hat3 : AtP W3 B b T.size ⟨xb, xoff, xt, xd, xm⟩ := hat2.carry (fun k hk => hk3.block k (by omega) (by omega))
    have e1 : Keep w W3 (fun k => k = tg) := h1.trans hk3 (fun k hk e => by omega)
    have hcall := isFormed_any ⟨xb, xoff, xt, xd, xm⟩ W3 (hT.keep e1 (by omega)) hat3.cells (Nat.le_trans (tin_iff.1 hat3.tin).le (tin_iff.1 hat3.tin).max)
    simp only [Pt.val] at hcall
    rw [hform] at hcall
    have d0 := h2.cell (j := 0) rfl
    have d1 := h2.cell (j := 1) rfl
    have df := h2.frozen 0
    have m0 := H2.cell (j := 0) rfl
    have m1 := H2.cell (j := 1) rfl
    have cp0 := Pc.cell (j := 0) rfl
    have cp := Pc.cell (j := 1) rfl
    have cp2 := Pc.cell (j := 2) rfl
    gi_wp2_with fail
    with_reducible refine And.intro (wide_fn 65) ?_
    refine (CallsIn.inRound l (callsIn_wide.2 hcall)).mono ?_
    rintro e W5 ⟨rfl, hb5⟩
    have hk5 : Keep W3 W5 (fun _ => False) := Keep.of_below hb5 (Nat.le_refl _)
    have Pd := Pc.keep hk5 (fun h => h)
    have hat5 : AtP W5 B b T.size ⟨xb, xoff, xt, xd, xm⟩ := hat3.carry (w' := W5) (fun k hk => hk5.block k (by omega) (fun h => h))
    have fin : Keep W2 W5 (fun k => k = w.heap.size + 1) := hk3.trans (hk5.mono (fun _ h => h.elim)) (fun _ _ h => h)
    have T5 : TI W5 B tg (w.heap.size + 6) X (mets pre) v2 n2 xs2 := h7.keep fin (by omega) (fun k e => .inr (by omega)) (fun k h => .inl h)
    have hv2 : ∀ k, v2.ownBlock = some k → k ≠ W.heap.size := fun k e h => owns_ne h7.row Pb (by decide) (by rw [e, h])
    have H5 := H2.keep hk5 (fun h => h)
    have F5 := h1'.keep fin (by omega)
    have q0 := Pd.cell (j := 0) rfl
    have c3 := hat5.cells.c3
    simp only at c3
    have hN5 := (tin_iff.1 hat5.tin).lv
    simp only at hN5
    have G4 := h4.keep fin (by omega)
    have hz5 := hb5.size
    have hz2 := hkk.size
    have hWlt := Pb.lt
    obtain ⟨xk, xn, xs', xls, xla, xlc, xa, xc, xb', xo', xargs⟩ := xt
    simp only [Tr.ls, Tr.la, Tr.lc] at c3 hN5 hlv1 hmt1 hlt
    dsimp only
    gi_wp2_with fail
    gi_loopw [30] (fun i wr => ∃ (j : Nat) (v : Value) (n : Nat) (xs : List Value), i = .int .i64 (j : Int) ∧ j ≤ xls.length ∧ Blk wr (w.heap.size + 1) 60 [.int .i64 ((pre.length : Int) + 1), .int .i64 ((lvs pre + Lv.sizes (xls.take j) : Nat) : Int)] ∧ TI wr B tg (w.heap.size + 6) X (mets pre + Lv.belows (xls.take j)) v n xs ∧ (v.ownBlock = v2.ownBlock ∨ ∃ k, v.ownBlock = some k ∧ W5.heap.size ≤ k) ∧ Keep W5 wr (fun k => k = w.heap.size + 1 ∨ k = tg ∨ v2.ownBlock = some k)) (fun i _ => xls.length - (intOf i).toNat)
    case atStart => exact ⟨0, v2, n2, xs2, rfl, by omega, by simpa [Lv.sizes] using H5, by simpa [Lv.belows] using T5, .inl rfl, Keep.refl _ _⟩
    case round =>
      obtain ⟨j, v, n, xs, rfl, hj, HB, TJ, ho, hkj⟩ := hrel
      have hz6 := hkj.size
      have hown2 : ∀ k, v2.ownBlock = some k → w.heap.size + 6 ≤ k := fun k e => (T5.new k e).1
      have hownv : ∀ k, v.ownBlock = some k → w.heap.size + 6 ≤ k := fun k e => (TJ.new k e).1
      have hnS : ∀ k, k < w.heap.size + 6 → k ≠ w.heap.size + 1 → k ≠ tg → ¬ (k = w.heap.size + 1 ∨ k = tg ∨ v2.ownBlock = some k) := fun k h1 h2 h3 h => by
        rcases h with h | h | h
        · exact h2 h
        · exact h3 h
        · have := hown2 k h; omega
      have FJ := F5.keep hkj (hnS _ (by omega) (by omega) (by omega))
      have PJ := Pd.keep hkj (fun h => by rcases h with h | h | h; omega; omega; exact hv2 _ h rfl)
      have cJ : wr.cell? ⟨xb, xoff + 3, none⟩ = some (.slice xla xls.length xlc) := (World.cell?_of_block (hkj.block xb (by omega) (hnS _ (by omega) (by omega) (by omega)))).trans c3
      have NJ := hN5.keep hkj (by omega) (fun k e => by rcases e with e | e | e; omega; omega; have := hown2 k e; omega)
      have hWown : v.ownBlock ≠ some W.heap.size := fun h => by
        rcases ho with e | ⟨k, e, hk⟩
        · exact hv2 _ (e ▸ h) rfl
        · rw [e] at h; cases h; omega
      by_cases hjl : j < xls.length
      · have hdj : decide ((j : Int) < (xls.length : Int)) = true := by simp; omega
        obtain ⟨L, hL⟩ : ∃ L, xls[j]? = some L := ⟨_, List.getElem?_eq_getElem hjl⟩
        obtain ⟨b', off', k', n', args', a', cap', rfl, hb', rfl, y0, y1, y2, hN'⟩ := NJ.get hL
        have hst := Lv.sizes_take hL
        have hbt := Lv.belows_take hL
        rw [Lv.size_mk] at hst
        have hle1 := Lv.sizes_take_le xls (j + 1)
        have hbb := Lv.sizes_belows (xls.take j)
        have hcj := tally_of B tg n (mets pre + Lv.belows (xls.take j)) b' (off' + j * 3) cap' v xs k' n' args' a' wr.drew TJ.blk.drew (owns_block TJ.row (fun _ _ => rfl)) htg y0 y1 y2 (hN'.carry (fun _ _ => rfl) (fun _ h => h)) hb' (by omega)
        obtain ⟨acc, hacc⟩ : ∃ acc, lvs pre + Lv.sizes (xls.take j) = acc := ⟨_, rfl⟩
        obtain ⟨sa, hsa'⟩ : ∃ sa, Lv.sizes args' + 1 = sa := ⟨_, rfl⟩
        rw [hacc] at HB
        rw [hsa'] at hcj
        have hbd : acc + sa ≤ 262144 := by omega
        have HQ : Hid (acc + sa = lvs pre + Lv.sizes (xls.take (j + 1)) ∧ mets pre + Lv.belows (xls.take j) + Lv.sizes args' = mets pre + Lv.belows (xls.take (j + 1))) := ⟨by omega, by omega⟩
        clear hst hbt hbb hle1 hacc hsa'
        have hwr : IntKind.i64.wrap ((acc : Int) + (sa : Int)) = (acc : Int) + (sa : Int) := by rw [IntKind.wrap_i64]; omega
        have hend : ∀ (W6 : World) (v' : Value) (n'' : Nat) (xs'' : List Value), TEnd wr.drew W6 B tg v (mets pre + Lv.belows (xls.take j) + Lv.sizes args') v' n'' xs'' → Blk W6 (w.heap.size + 1) 60 [.int .i64 ((pre.length : Int) + 1), .int .i64 (acc : Int)] →
            Blk (W6.setCell ⟨w.heap.size + 1, 1, none⟩ (.int .i64 ((acc : Int) + (sa : Int)))) (w.heap.size + 1) 60 [.int .i64 ((pre.length : Int) + 1), .int .i64 ((lvs pre + Lv.sizes (xls.take (j + 1)) : Nat) : Int)] ∧ TI (W6.setCell ⟨w.heap.size + 1, 1, none⟩ (.int .i64 ((acc : Int) + (sa : Int)))) B tg (w.heap.size + 6) X (mets pre + Lv.belows (xls.take (j + 1))) v' n'' xs'' ∧ (v'.ownBlock = v2.ownBlock ∨ ∃ k, v'.ownBlock = some k ∧ W5.heap.size ≤ k) ∧ Keep W5 (W6.setCell ⟨w.heap.size + 1, 1, none⟩ (.int .i64 ((acc : Int) + (sa : Int)))) (fun k => k = w.heap.size + 1 ∨ k = tg ∨ v2.ownBlock = some k) := by
          intro W6 v' n'' xs'' TE HB6
          have hz : wr.heap.size ≤ W6.heap.size := TE.keep.size
          have ho' : v'.ownBlock = v.ownBlock ∨ ∃ k, v'.ownBlock = some k ∧ wr.heap.size ≤ k := TE.own
          have hnew : ∀ k, v'.ownBlock = some k → w.heap.size + 6 ≤ k ∧ ¬ X k := fun k e => by
            rcases ho' with h | ⟨k2, h, h2⟩
            · exact TJ.new k (h ▸ e)
            · rw [h] at e; cases e
              exact ⟨by omega, fun hx => by have := h6 k hx; omega⟩
          refine ⟨?_, ⟨?_, ?_, hnew⟩, own_trans hz6 ho ho', ?_⟩
          · rw [← HQ.out.1]; exact HB6.set 1 _
          · rw [← HQ.out.2]; exact TE.blk.other _ (by omega)
          · exact owns_block TE.row (fun k e => Below.heap_setCell _ _ _ _ (fun h => by have := hnew k e; have h' : k = w.heap.size + 1 := h; omega))
          · refine Keep.setCell (hkj.drew.trans TE.keep (fun k hk e => ?_)) (g := w.heap.size + 1) (fun _ => .inl rfl) _ _
            rcases e with e | e
            · exact .inr (.inl e)
            · rcases ho with h | ⟨k2, h, h2⟩
              · exact .inr (.inr (h ▸ e))
              · rw [h] at e; cases e; omega
        have hle := hN5.le
        have hmx := hN5.max
        have f0 := FJ.cell (j := 0) rfl
        have p0 := PJ.cell (j := 0) rfl
        have b1 := HB.cell (j := 1) rfl
        gi_wp2_with fail
        refine wpIn_region_heldr (S := fun w' => w'.cell? ⟨w.heap.size, 0, none⟩ = some (.func (.func 74) #[.pointer (some ⟨tg, 0, none⟩)] #[]) ∧ w'.cell? ⟨W.heap.size, 0, none⟩ = some (.pointer (some ⟨xb, xoff, none⟩)) ∧ w'.cell? ⟨xb, xoff + 3, none⟩ = some (.slice (some ⟨b', off', none⟩) xls.length xlc)) (by kernel_rfl) (by kernel_rfl) ⟨f0, p0, cJ⟩ (fun hS => ?_)
        refine wpAnyH_take (i := 0) (v := ?_) rfl (by kernel_rfl) (by kernel_rfl) (by kernel_rfl) (fun _ _ _ h => h) (Or.inl ⟨by rfl, ?_⟩) hS ?_
        rotate_left
        · (intro wq hq; obtain ⟨g1, g2, g3⟩ := hq; go_simp; (try with_reducible rfl))
        simp only [Act.put, List.getElem_toArray, List.getElem_cons_zero, List.setIfInBounds_toArray, List.set_cons_zero, List.set_cons_succ]
        refine wpAnyH_take (i := 2) (v := ?_) rfl (by kernel_rfl) (by kernel_rfl) (by kernel_rfl) (fun _ _ _ h => h) (Or.inl ⟨by rfl, ?_⟩) hS ?_
        rotate_left
        · (intro wq hq; obtain ⟨g1, g2, g3⟩ := hq; go_simp; (try with_reducible rfl))
        simp only [Act.put, List.getElem_toArray, List.getElem_cons_succ, List.getElem_cons_zero, List.setIfInBounds_toArray, List.set_cons_zero, List.set_cons_succ]
        refine wpAnyH_take (i := 3) (v := ?_) rfl (by kernel_rfl) (by kernel_rfl) (by kernel_rfl) (fun _ _ _ h => h) (Or.inl ⟨by rfl, ?_⟩) hS ?_
        rotate_left
        · (intro wq hq; obtain ⟨g1, g2, g3⟩ := hq; go_simp; (try with_reducible rfl))
        simp only [Act.put, List.getElem_toArray, List.getElem_cons_succ, List.getElem_cons_zero, List.setIfInBounds_toArray, List.set_cons_zero, List.set_cons_succ]
        refine wpAnyH_take (i := 4) (v := ?_) rfl (by kernel_rfl) (by kernel_rfl) (by kernel_rfl) (fun _ _ _ h => h) (Or.inl ⟨by rfl, ?_⟩) hS ?_
        rotate_left
        · (intro wq hq; obtain ⟨g1, g2, g3⟩ := hq; go_simp; (try with_reducible rfl))
        simp only [Act.put, List.getElem_toArray, List.getElem_cons_succ, List.getElem_cons_zero, List.setIfInBounds_toArray, List.set_cons_zero, List.set_cons_succ]
        refine wpAnyH_take (i := 5) (v := ?_) rfl (by kernel_rfl) (by kernel_rfl) (by kernel_rfl) (fun _ _ _ h => h) (Or.inl ⟨by rfl, ?_⟩) hS ?_
        rotate_left
        · (intro wq hq; obtain ⟨g1, g2, g3⟩ := hq; go_simp; (try with_reducible rfl))
        simp only [Act.put, List.getElem_toArray, List.getElem_cons_succ, List.getElem_cons_zero, List.setIfInBounds_toArray, List.set_cons_zero, List.set_cons_succ]
        refine wpAnyH_take (i := 6) (v := ?_) rfl (by kernel_rfl) (by kernel_rfl) (by kernel_rfl) (fun _ _ _ h => h) (Or.inl ⟨by rfl, ?_⟩) hS ?_
        rotate_left
        · (intro wq hq; obtain ⟨g1, g2, g3⟩ := hq; go_simp; (try with_reducible rfl))
        simp only [Act.put, List.getElem_toArray, List.getElem_cons_succ, List.getElem_cons_zero, List.setIfInBounds_toArray, List.set_cons_zero, List.set_cons_succ]
        refine wpAnyH_take (i := 7) (v := ?_) rfl (by kernel_rfl) (by kernel_rfl) (by kernel_rfl) (fun _ _ _ h => h) (Or.inl ⟨by rfl, ?_⟩) hS ?_
        rotate_left
        · (intro wq hq; obtain ⟨g1, g2, g3⟩ := hq; go_simp; (try with_reducible rfl))
        simp only [Act.put, List.getElem_toArray, List.getElem_cons_succ, List.getElem_cons_zero, List.setIfInBounds_toArray, List.set_cons_zero, List.set_cons_succ]
        refine wpAnyH_take (i := 8) (v := ?_) rfl (by kernel_rfl) (by kernel_rfl) (by kernel_rfl) (fun _ _ _ h => h) (Or.inl ⟨by rfl, ?_⟩) hS ?_
        rotate_left
        · (intro wq hq; obtain ⟨g1, g2, g3⟩ := hq; go_simp; (try with_reducible rfl))
        simp only [Act.put, List.getElem_toArray, List.getElem_cons_succ, List.getElem_cons_zero, List.setIfInBounds_toArray, List.set_cons_zero, List.set_cons_succ]
        refine wpAnyH_take (i := 9) (v := ?_) rfl (by kernel_rfl) (by kernel_rfl) (by kernel_rfl) (fun _ _ _ h => h) (Or.inl ⟨by rfl, ?_⟩) hS ?_
        rotate_left
        · (intro wq hq; obtain ⟨g1, g2, g3⟩ := hq; go_simp; (try with_reducible rfl))
        simp only [Act.put, List.getElem_toArray, List.getElem_cons_succ, List.getElem_cons_zero, List.setIfInBounds_toArray, List.set_cons_zero, List.set_cons_succ]
        refine wpAnyH_ready (rs := [1, 10]) (by kernel_rfl) (by simp) ?_
        refine AllReadyH.cons rfl (fun K hK => ?_) (AllReadyH.cons rfl (fun K hK => ?_) AllReadyH.nil)
        · go_simp
          refine hK.out _ _ hS (fun hS => ?_)
          clear hK K
          refine wpAnyH_ready (rs := [10]) (by kernel_rfl) (by simp) ?_
          refine AllReadyH.cons rfl (fun K hK => ?_) AllReadyH.nil
          go_simp
          (try go_wp2_with fail)
          refine hcj.mono ?_
          rintro e W6 ⟨rfl, v', n'', xs'', TE⟩
          have HB6 := HB.drew.keep TE.keep (fun h => by rcases h with h | h; omega; have := hownv _ h; omega)
          have b0' := HB6.cell (j := 0) rfl
          have b1' := HB6.cell (j := 1) rfl
          have fz := HB6.frozen 1
          have nS6 : ∀ k, k < w.heap.size + 6 → k ≠ tg → ¬ (k = tg ∨ v.ownBlock = some k) := fun k h1 h2 h => by rcases h with h | h; exact h2 h; have := hownv k h; omega
          have hWv : ¬ (W.heap.size = tg ∨ v.ownBlock = some W.heap.size) := fun h => by rcases h with h | h; omega; exact hWown h
          have F6 := FJ.drew.keep TE.keep (nS6 _ (by omega) (by omega))
          have P6 := PJ.drew.keep TE.keep hWv
          have c6 : W6.cell? ⟨xb, xoff + 3, none⟩ = some (.slice (some ⟨b', off', none⟩) xls.length xlc) := (World.cell?_of_block (TE.keep.block xb (by show xb < wr.heap.size; omega) (nS6 _ (by omega) (by omega)))).trans cJ
          dsimp only
          refine hK.out _ _ ⟨F6.cell (j := 0) rfl, P6.cell (j := 0) rfl, c6⟩ (fun hS => ?_)
          clear hK K
          refine wpAnyH_take (i := 11) (v := ?_) rfl (by kernel_rfl) (by kernel_rfl) (by kernel_rfl) (fun _ _ _ h => h) (Or.inl ⟨by rfl, ?_⟩) hS ?_
          rotate_left
          · (intro wq hq; obtain ⟨g1, g2, g3⟩ := hq; go_simp; (try with_reducible rfl))
          simp only [Act.put, List.getElem_toArray, List.getElem_cons_succ, List.getElem_cons_zero, List.setIfInBounds_toArray, List.set_cons_zero, List.set_cons_succ]
          refine wpAnyH_take (i := 12) (v := ?_) rfl (by kernel_rfl) (by kernel_rfl) (by kernel_rfl) (fun _ _ _ h => h) (Or.inl ⟨by rfl, ?_⟩) hS ?_
          rotate_left
          · (intro wq hq; obtain ⟨g1, g2, g3⟩ := hq; go_simp; (try with_reducible rfl))
          simp only [Act.put, List.getElem_toArray, List.getElem_cons_succ, List.getElem_cons_zero, List.setIfInBounds_toArray, List.set_cons_zero, List.set_cons_succ]
          refine wpAnyH_ready (rs := [13]) (by kernel_rfl) (by simp) ?_
          refine AllReadyH.cons rfl (fun K hK => ?_) AllReadyH.nil
          go_simp
          refine hK.out _ _ ⟨(F6.other _ (by omega)).cell (j := 0) rfl, (P6.other _ (by omega)).cell (j := 0) rfl, (World.cell?_setCell_far _ _ _ _ (by show w.heap.size + 1 ≠ xb; omega)).trans c6⟩ (fun hS => ?_)
          clear hK K
          refine wpAnyH_done (by kernel_rfl) ?_ _
          simp only [Norm]
          clear hS hcj
          obtain ⟨HB8, T8, O8, K8⟩ := hend W6 v' n'' xs'' TE HB6
          have HB7 := HB6.set 1 (.int .i64 ((acc : Int) + (sa : Int)))
          have b17 := HB7.cell (j := 1) rfl
          have hdk : decide ((67108864 : Int) < (acc : Int) + (sa : Int)) = false := by simp; omega
          gi_wp2_with fail
          go_roundw
          case rel => exact ⟨j + 1, v', n'', xs'', by simp, by omega, HB8, T8, O8, K8⟩
          case measure => simp [intOf]; omega
        · go_simp
          (try go_wp2_with fail)
          refine hcj.mono ?_
          rintro e W6 ⟨rfl, v', n'', xs'', TE⟩
          have HB6 := HB.drew.keep TE.keep (fun h => by rcases h with h | h; omega; have := hownv _ h; omega)
          have b0' := HB6.cell (j := 0) rfl
          have b1' := HB6.cell (j := 1) rfl
          have fz := HB6.frozen 1
          have nS6 : ∀ k, k < w.heap.size + 6 → k ≠ tg → ¬ (k = tg ∨ v.ownBlock = some k) := fun k h1 h2 h => by rcases h with h | h; exact h2 h; have := hownv k h; omega
          have hWv : ¬ (W.heap.size = tg ∨ v.ownBlock = some W.heap.size) := fun h => by rcases h with h | h; omega; exact hWown h
          have F6 := FJ.drew.keep TE.keep (nS6 _ (by omega) (by omega))
          have P6 := PJ.drew.keep TE.keep hWv
          have c6 : W6.cell? ⟨xb, xoff + 3, none⟩ = some (.slice (some ⟨b', off', none⟩) xls.length xlc) := (World.cell?_of_block (TE.keep.block xb (by show xb < wr.heap.size; omega) (nS6 _ (by omega) (by omega)))).trans cJ
          dsimp only
          refine hK.out _ _ ⟨F6.cell (j := 0) rfl, P6.cell (j := 0) rfl, c6⟩ (fun hS => ?_)
          clear hK K
          refine wpAnyH_ready (rs := [1]) (by kernel_rfl) (by simp) ?_
          refine AllReadyH.cons rfl (fun K hK => ?_) AllReadyH.nil
          go_simp
          refine hK.out _ _ hS (fun hS => ?_)
          clear hK K
          refine wpAnyH_take (i := 11) (v := ?_) rfl (by kernel_rfl) (by kernel_rfl) (by kernel_rfl) (fun _ _ _ h => h) (Or.inl ⟨by rfl, ?_⟩) hS ?_
          rotate_left
          · (intro wq hq; obtain ⟨g1, g2, g3⟩ := hq; go_simp; (try with_reducible rfl))
          simp only [Act.put, List.getElem_toArray, List.getElem_cons_succ, List.getElem_cons_zero, List.setIfInBounds_toArray, List.set_cons_zero, List.set_cons_succ]
          refine wpAnyH_take (i := 12) (v := ?_) rfl (by kernel_rfl) (by kernel_rfl) (by kernel_rfl) (fun _ _ _ h => h) (Or.inl ⟨by rfl, ?_⟩) hS ?_
          rotate_left
          · (intro wq hq; obtain ⟨g1, g2, g3⟩ := hq; go_simp; (try with_reducible rfl))
          simp only [Act.put, List.getElem_toArray, List.getElem_cons_succ, List.getElem_cons_zero, List.setIfInBounds_toArray, List.set_cons_zero, List.set_cons_succ]
          refine wpAnyH_ready (rs := [13]) (by kernel_rfl) (by simp) ?_
          refine AllReadyH.cons rfl (fun K hK => ?_) AllReadyH.nil
          go_simp
          refine hK.out _ _ ⟨(F6.other _ (by omega)).cell (j := 0) rfl, (P6.other _ (by omega)).cell (j := 0) rfl, (World.cell?_setCell_far _ _ _ _ (by show w.heap.size + 1 ≠ xb; omega)).trans c6⟩ (fun hS => ?_)
          clear hK K
          refine wpAnyH_done (by kernel_rfl) ?_ _
          simp only [Norm]
          clear hS hcj
          obtain ⟨HB8, T8, O8, K8⟩ := hend W6 v' n'' xs'' TE HB6
          have HB7 := HB6.set 1 (.int .i64 ((acc : Int) + (sa : Int)))
          have b17 := HB7.cell (j := 1) rfl
          have hdk : decide ((67108864 : Int) < (acc : Int) + (sa : Int)) = false := by simp; omega
          gi_wp2_with fail
          go_roundw
          case rel => exact ⟨j + 1, v', n'', xs'', by simp, by omega, HB8, T8, O8, K8⟩
          case measure => simp [intOf]; omega
      · have hdj : decide ((j : Int) < (xls.length : Int)) = false := by simp; omega
        have hjj : j = xls.length := by omega
        have HE : Hid (Keep W2 wr (fun k => ¬ X k ∧ ¬ (k < B ∨ k = b ∨ k = w.heap.size + 1 + 1 + 1) ∧ k ≠ w4.heap.size ∧ k ≠ w4.heap.size + 1) ∧ (Keep w wr (fun k => k = tg) ∧ Blk wr w.heap.size 76 [.func (.func 74) #[.pointer (some ⟨tg, 0, none⟩)] #[]] ∧ Blk wr (w.heap.size + 1) 60 [.int .i64 (((pre ++ [Pt.mk xb xoff (Tr.mk xk xn xs' xls xla xlc xa xc xb' xo' xargs) xd xm]).length : Nat) : Int), .int .i64 ((lvs (pre ++ [Pt.mk xb xoff (Tr.mk xk xn xs' xls xla xlc xa xc xb' xo' xargs) xd xm]) : Nat) : Int)] ∧ Blk wr (w.heap.size + 1 + 1) 4 [.bool false] ∧ w.heap.size + 4 ≤ wr.heap.size ∧ (∀ k, X k → k < wr.heap.size) ∧ ∃ v n xs, TI wr B tg (w.heap.size + 6) X (mets (pre ++ [Pt.mk xb xoff (Tr.mk xk xn xs' xls xla xlc xa xc xb' xo' xargs) xd xm])) v n xs)) := by
          show _ ∧ _
          rw [hln, hlv1, hmt1]
          rw [hjj, List.take_length] at HB TJ
          have K2 : Keep W2 wr (fun k => k = w.heap.size + 1 ∨ k = tg ∨ v2.ownBlock = some k) := (fin.mono (fun k e => .inl e)).trans hkj (fun _ _ h => h)
          refine ⟨K2.mono (fun k e => ?_), h1.trans K2 (fun k hk e => ?_), FJ, HB, h4.keep K2 (hnS _ (by omega) (by omega) (by omega)), by omega, fun k h => by have := h6 k h; have := K2.size; omega, v, n, xs, TJ⟩
          · rcases e with e | e | e
            · exact ⟨fun h => by have := hX k h; omega, by omega, by omega, by omega⟩
            · exact ⟨fun h => by have := hX k h; omega, by omega, by omega, by omega⟩
            · have h9 := T5.new k e
              exact ⟨h9.2, by omega, by omega, by omega⟩
          · rcases e with e | e | e
            · omega
            · exact e
            · have := hown2 k e; omega
        clear hln hlv1 hmt1
        gi_wp2_with fail
        exact HE.out
  case hdone =>
    rintro X W hX hs ⟨h1, h1', h2, h4, h5, h6, v, n, xs, h7⟩ hD
    rw [hs4] at hD
    rw [HSZ.out.2.1] at h2
    obtain ⟨LV, hLV⟩ : ∃ LV, lvs (Pt.mk b off T 1 0).seq = LV := ⟨_, rfl⟩
    rw [hLV] at h2
    have HLV : Hid (lvs (Pt.mk b off T 1 0).seq = LV) := hLV
    clear hLV
    have c0 := h2.cell (j := 0) rfl
    have c1 := h2.cell (j := 1) rfl
    have f0 := h2.frozen 0
    have f1 := h2.frozen 1
    have c4 := h4.cell (j := 0) rfl
    have f4 := h4.frozen 0
    obtain ⟨W3, hW3, hk3⟩ : ∃ W3, ((W.setCell ⟨w.heap.size + 1, 0, none⟩ (.int .i64 (T.size : Int))).setCell ⟨w.heap.size + 1, 1, none⟩ (.int .i64 (LV : Int))).setCell ⟨w.heap.size + 1 + 1, 0, none⟩ (.bool true) = W3 ∧ Keep W W3 (fun k => k = w.heap.size + 1 ∨ k = w.heap.size + 1 + 1) :=
      ⟨_, rfl, (((Keep.refl W _).setCell (fun _ => .inl rfl) _ _).setCell (fun _ => .inl rfl) _ _).setCell (fun _ => .inr rfl) _ _⟩
    have H2 : Blk W3 (w.heap.size + 1) 60 [.int .i64 (T.size : Int), .int .i64 (LV : Int)] := by rw [← hW3]; exact ((h2.set 0 _).set 1 _).other _ (by omega)
    have H4 : Blk W3 (w.heap.size + 1 + 1) 4 [.bool true] := by rw [← hW3]; exact ((h4.other _ (by omega)).other _ (by omega)).set 0 _
    have hsz3 := hk3.size
    have hD3 : W3.heap[w.heap.size + 4]? = some (.deferred (some [])) := (hk3.block _ (by omega) (fun h => by omega)).trans hD
    have hn1 : w.heap.size + 1 ≠ w.heap.size + 1 + 1 := by omega
    have hn2 : w.heap.size + 1 + 1 ≠ w.heap.size + 1 := by omega
    gi_wp2_with fail
    refine ⟨by simp, .inl ⟨_, _, rfl, run_takeDeferred hD3, ?_⟩⟩
    have hk5 := Keep.put1 W3 (w.heap.size + 4) (.deferred none)
    have z0 := (H2.keep hk5 (by omega)).cell (j := 0) rfl
    have z1 := (H2.keep hk5 (by omega)).cell (j := 1) rfl
    have z2 := (H4.keep hk5 (by omega)).cell (j := 0) rfl
    exact ⟨.tuple #[.agg #[.int .i64 (T.size : Int), .int .i64 (LV : Int)], .bool true], by simp [results, Tryd.results47, go_sem, z0, z1, z2], by rw [HLV.out], (h1.trans hk3 (fun k hk e => by omega)).trans hk5 (fun k hk e => by omega)⟩
  case hstop => exact fun _ _ _ _ _ h _ => h.elim
end Go.Proofs.YtbmijpjmdpdfkaaDoor
