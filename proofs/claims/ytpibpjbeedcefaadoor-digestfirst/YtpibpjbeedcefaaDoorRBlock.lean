/- The walk of the document's own 'block': the state behind sixteen words. No condition but that words are below 2^32. -/
import Derived.Test.YtpibpjbeedcefaaDoorSum
namespace Go.Proofs.YtpibpjbeedcefaaDoor
open Go.RowKit

theorem size_alloc (w : World) (o : Obj) : (w.alloc o).heap.size = w.heap.size + 1 := by simp
def wz64 (_ : Nat) : Value := .int .u64 0
def wf64 (f : Nat → Nat) (j : Nat) : Value := .int .u64 (f j : Int)

theorem wf64_one (f : Nat → Nat) (k : Nat) : ∀ v ∈ half 64 k (wf64 f) wz64, v.oneCell' = true := by
  intro v hv
  obtain ⟨j, _, rfl⟩ := List.mem_map.1 hv
  split <;> rfl

set_option maxRecDepth 100000 in
set_option maxHeartbeats 2000000 in
theorem rblock_any (v : V8) (hv : v.ok) (blk : List UInt8) (f : Nat → Nat) (hf : f = fun j => (exts 48 (words blk)).getD j 0) (w : World) :
    Calls Tryd.prog 26 #[.agg (u64s v.list).toArray, .agg (half 64 16 (wf64 f) wz64).toArray, .agg (u64s keyTab).toArray] w fun e w' => e = .returned (.agg (u64s (comp v blk).list).toArray) ∧ Below w.heap.size w w' := by
  have HF : Hid _ := hf
  have HB : Hid (∀ j, f j < 4294967296) := by
    rw [HF.out]
    exact exts_lt (words_length blk) 48 (words_lt blk)
  have HST : Hid (∀ i, 16 ≤ i → i < 64 → f i = (f (i - 16) + lo0 (f (i - 15)) + f (i - 7) + lo1 (f (i - 2))) % 4294967296) := by
    rw [HF.out]
    exact fun i h1 h2 => exts_step' (words_length blk) 48 h1 h2
  clear hf
  have HV : Hid _ := hv
  clear hv
  obtain ⟨vh0, Hvh⟩ : ∃ l, Hid (l = u64s v.list) := ⟨_, rfl⟩
  obtain ⟨ks, Hks⟩ : ∃ l, Hid (l = u64s keyTab) := ⟨_, rfl⟩
  obtain ⟨ws0, Hws⟩ : ∃ l, Hid (l = half 64 16 (wf64 f) wz64) := ⟨_, rfl⟩
  obtain ⟨z8, Hz8⟩ : ∃ l : List Value, Hid (l = List.replicate 8 (.int .u64 0)) := ⟨_, rfl⟩
  have hz60 : ∀ w : World, (zeroValue 60).run Tryd.prog w = .ok (.agg z8.toArray) w := by rw [Hz8.out]; exact (zero_of_info (n := 8) (by kernel_rfl)).1
  rw [← Hvh.out, ← Hks.out, ← Hws.out]
  have b1 := Blk.new w 60 vh0
  have b2 := Blk.new (w.alloc (.cells vh0.toArray 60)) 58 ws0
  have b3 := Blk.new ((w.alloc (.cells vh0.toArray 60)).alloc (.cells ws0.toArray 58)) 58 ks
  have b4 := Blk.new (((w.alloc (.cells vh0.toArray 60)).alloc (.cells ws0.toArray 58)).alloc (.cells ks.toArray 58)) 60 z8
  have hb4 : Below w.heap.size w ((((w.alloc (.cells vh0.toArray 60)).alloc (.cells ws0.toArray 58)).alloc (.cells ks.toArray 58)).alloc (.cells z8.toArray 60)) :=
    ((((Below.refl _ _).alloc (Nat.le_refl _) _).alloc (by simp) _).alloc (by simp; omega) _).alloc (by simp; omega) _
  replace b1 := ((b1.alloc (.cells ws0.toArray 58)).alloc (.cells ks.toArray 58)).alloc (.cells z8.toArray 60)
  replace b2 := (b2.alloc (.cells ks.toArray 58)).alloc (.cells z8.toArray 60)
  replace b3 := b3.alloc (.cells z8.toArray 60)
  rw [size_alloc] at b2
  rw [size_alloc, size_alloc] at b3
  rw [size_alloc, size_alloc, size_alloc] at b4
  go_enter Tryd.func26, Tryd.ntmps26
  go_wp2_with fail
  generalize (((w.alloc (.cells vh0.toArray 60)).alloc (.cells ws0.toArray 58)).alloc (.cells ks.toArray 58)).alloc (.cells z8.toArray 60) = w1 at b1 b2 b3 b4 hb4 ⊢
  obtain ⟨gr, hgr⟩ : ∃ gr, w.heap.size + 1 + 1 + 1 = gr := ⟨_, rfl⟩
  rw [hgr] at b4 ⊢
  obtain ⟨gk, hgk⟩ : ∃ gk, w.heap.size + 1 + 1 = gk := ⟨_, rfl⟩
  rw [hgk] at b3 ⊢
  obtain ⟨gw, hgw⟩ : ∃ gw, w.heap.size + 1 = gw := ⟨_, rfl⟩
  rw [hgw] at b2 ⊢
  obtain ⟨gh, hgh⟩ : ∃ gh, w.heap.size = gh := ⟨_, rfl⟩
  have n1 : gh < gw := by omega
  have n2 : gw < gk := by omega
  have n3 : gk < gr := by omega
  rw [hgh] at b1 hb4 ⊢
  clear hgr hgk hgw
  rw [Hws.out] at b2
  clear hz60
  go_loopw [7] (fun i wr => ∃ k : Nat, 16 ≤ k ∧ k ≤ 64 ∧ i = .int .i64 (k : Int) ∧ Blk wr gw 58 (half 64 k (wf64 f) wz64) ∧ Blk wr gh 60 vh0 ∧ Blk wr gk 58 ks ∧ Blk wr gr 60 z8 ∧ Below gh w wr) (fun i _ => 64 - (intOf i).toNat)
  case atStart => exact ⟨16, by omega, by omega, rfl, b2, b1, b3, b4, hb4⟩
  case round =>
    clear b1 b2 b3 b4 hb4
    obtain ⟨k, hk16, hk, rfl, hB, hH, hKs, hR, hbel⟩ := hrel
    by_cases hlt : k < 64
    · have c16 : wr.cell? ⟨gw, k - 16, none⟩ = some (.int .u64 (f (k - 16) : Int)) := hB.cell (half_lt (by omega) (by omega))
      have c15 : wr.cell? ⟨gw, k - 15, none⟩ = some (.int .u64 (f (k - 15) : Int)) := hB.cell (half_lt (by omega) (by omega))
      have c7 : wr.cell? ⟨gw, k - 7, none⟩ = some (.int .u64 (f (k - 7) : Int)) := hB.cell (half_lt (by omega) (by omega))
      have c2 : wr.cell? ⟨gw, k - 2, none⟩ = some (.int .u64 (f (k - 2) : Int)) := hB.cell (half_lt (by omega) (by omega))
      have c0 : wr.cell? ⟨gw, k, none⟩ = some (.int .u64 0) := hB.cell (half_ge (by omega) (by omega))
      have hfr := hB.frozen k
      have HS : Hid _ := HST.out k hk16 hlt
      have b16 := HB.out (k - 16)
      have b15 := HB.out (k - 15)
      have b7 := HB.out (k - 7)
      have b2 := HB.out (k - 2)
      generalize f (k - 16) = x16 at c16 HS b16
      generalize f (k - 15) = x15 at c15 HS b15
      generalize f (k - 7) = x7 at c7 HS b7
      generalize f (k - 2) = x2 at c2 HS b2
      have L0 := lo0_64 b15
      have L1 := lo1_64 b2
      rw [show ((x15 / 8 : Nat) : Int) = (x15 : Int) / 8 by omega] at L0
      rw [show ((x2 / 1024 : Nat) : Int) = (x2 : Int) / 1024 by omega] at L1
      have l0 := lo0_lt b15
      have l1 := lo1_lt b2
      have HA : Hid (bits .and .u64 ((x16 : Int) + (lo0 x15 : Int) + (x7 : Int) + (lo1 x2 : Int)) 4294967295 = (((x16 + lo0 x15 + x7 + lo1 x2) % 4294967296 : Nat) : Int)) := by
        have e : (x16 : Int) + (lo0 x15 : Int) + (x7 : Int) + (lo1 x2 : Int) = ((x16 + lo0 x15 + x7 + lo1 x2 : Nat) : Int) := by omega
        unfold Hid
        rw [e]
        exact all_64 _ (by omega)
      go_wp2_with fail
      go_quiet (fail)
      go_wp2_with fail
      refine (rturn7 x15 _ b15).mono ?_
      rintro e' w' ⟨rfl, rfl⟩
      go_wp2_with fail
      refine (rturn18 x15 _ b15).mono ?_
      rintro e' w' ⟨rfl, rfl⟩
      go_wp2_with fail
      refine (rdown3 x15 _ b15).mono ?_
      rintro e' w' ⟨rfl, rfl⟩
      go_wp2_with fail
      refine (rturn17 x2 _ b2).mono ?_
      rintro e' w' ⟨rfl, rfl⟩
      go_wp2_with fail
      refine (rturn19 x2 _ b2).mono ?_
      rintro e' w' ⟨rfl, rfl⟩
      go_wp2_with fail
      refine (rdown10 x2 _ b2).mono ?_
      rintro e' w' ⟨rfl, rfl⟩
      go_wp2_with fail
      go_region
      go_wp2_with fail
      refine ⟨⟨k + 1, by omega, by omega, by go_num, ?_, (hH.drewN _).other _ (by omega), (hKs.drewN _).other _ (by omega), (hR.drewN _).other _ (by omega), (bel_drewN hbel _).setCell (Nat.le_of_lt n1) _⟩, by simp [intOf]; omega⟩
      refine Blk.setTo (l := half 64 k (wf64 f) wz64) (hB.drewN _) (z' := (f k : Int)) ?_ (half_set hlt)
      rw [HS.out]
      exact HA.out
    · have hz : (k : Int) = 64 := by omega
      rw [show k = 64 by omega] at hB
      have HSz : Hid ((Tryd.prog.info? 60).map (·.size) = some vh0.length) := by unfold Hid; rw [Hvh.out, u64s_length, V8.list_length]; exact Tryd.size60
      have HLz : Hid (vh0.length = z8.length) := by unfold Hid; rw [Hvh.out, Hz8.out, u64s_length, V8.list_length]; rfl
      have H1 : Hid (∀ v ∈ vh0, v.oneCell' = true) := by rw [Hvh.out]; exact one_u64s _
      have hz60 : ∀ w : World, (zeroValue 60).run Tryd.prog w = .ok (.agg z8.toArray) w := by rw [Hz8.out]; exact (zero_of_info (n := 8) (by kernel_rfl)).1
      have hsz := hbel.size
      have hrlt := hR.lt
      go_wp2_with (first
        | (refine wpList_load_blk (by rfl) 60 (.tmp 3) (by rfl) gh 60 vh0 hH (by rfl) (.array 8 30) Tryd.underlying60 rfl HSz.out ?_)
        | (refine wpList_store_new (by rfl) 60 (.tmp 12) (.tmp 66) (by rfl) wr z8 vh0 (by rfl) (by rfl) HLz.out HSz.out H1.out ?_; intro w2 hV2 hb2))
      have hB2 := hB.below hb2 (by omega)
      have hH2 := hH.below hb2 (by omega)
      have hK2 := hKs.below hb2 (by omega)
      have hR2 := hR.below hb2 (by omega)
      have hbel2 := hbel.trans (hb2.mono (by omega))
      obtain ⟨gv, hgv⟩ : ∃ gv, wr.heap.size = gv := ⟨_, rfl⟩
      have n4 : gr < gv := by omega
      rw [hgv] at hV2 ⊢
      clear hB hH hKs hR hbel hb2 hz hz60 HSz HLz H1 HB HST
      obtain ⟨va, vb, vc, vd, ve, vf, vg, vh⟩ := v
      rw [Hvh.out] at hV2
      go_loopw [13] (fun s13 wr => ∃ (i a b c d e f' g' h' : Nat), i ≤ 64 ∧ s13 = .int .i64 (i : Int)
          ∧ Hid (runN (exts 48 (words blk)) ⟨va, vb, vc, vd, ve, vf, vg, vh⟩ i = ⟨a, b, c, d, e, f', g', h'⟩) ∧ a < 4294967296 ∧ b < 4294967296 ∧ c < 4294967296 ∧ d < 4294967296 ∧ e < 4294967296 ∧ f' < 4294967296 ∧ g' < 4294967296 ∧ h' < 4294967296
          ∧ Blk wr gv 60 (u64s [a, b, c, d, e, f', g', h']) ∧ Blk wr gw 58 (half 64 64 (wf64 f) wz64) ∧ Blk wr gh 60 vh0 ∧ Blk wr gk 58 ks ∧ Blk wr gr 60 z8 ∧ Below gh w wr) (fun s13 _ => 64 - (intOf s13).toNat)
      case atStart =>
        have o := HV.out
        simp only [V8.list, List.mem_cons, List.not_mem_nil, or_false, forall_eq_or_imp, forall_eq] at o
        obtain ⟨o1, o2, o3, o4, o5, o6, o7, o8⟩ := o
        exact ⟨0, va, vb, vc, vd, ve, vf, vg, vh, by omega, rfl, rfl, o1, o2, o3, o4, o5, o6, o7, o8, hV2, hB2, hH2, hK2, hR2, hbel2⟩
      case round =>
        clear hV2 hB2 hH2 hK2 hR2 hbel2
        obtain ⟨i, a, b, c, d, e, f', g', h', hi, rfl, HR, ba, bb, bc, bd, be, bf, bg, bh, hV, hB, hH, hKs, hR, hbel⟩ := hrel
        by_cases hlt : i < 64
        · have ck : wr.cell? ⟨gk, i, none⟩ = some (.int .u64 (keyTab.getD i 0 : Int)) := hKs.cell (by rw [Hks.out]; exact u64s_get hlt)
          have cw : wr.cell? ⟨gw, i, none⟩ = some (.int .u64 (f i : Int)) := hB.cell (half_lt hlt hlt)
          have bk : keyTab.getD i 0 < 4294967296 := keyTab_lt i
          have HE : Hid (f i = (exts 48 (words blk)).getD i 0) := by unfold Hid; rw [HF.out]
          have bw : f i < 4294967296 := by rw [HF.out]; exact exts_lt (words_length blk) 48 (words_lt blk) i
          obtain ⟨ki, HKI⟩ : ∃ ki, Hid (ki = keyTab.getD i 0) := ⟨_, rfl⟩
          obtain ⟨wi, HWI⟩ : ∃ wi, Hid (wi = f i) := ⟨_, rfl⟩
          rw [← HKI.out] at ck bk
          rw [← HWI.out] at cw bw HE
          have c0 : wr.cell? ⟨gv, 0, none⟩ = some (.int .u64 (a : Int)) := hV.cell rfl
          have c1 : wr.cell? ⟨gv, 1, none⟩ = some (.int .u64 (b : Int)) := hV.cell rfl
          have c2 : wr.cell? ⟨gv, 2, none⟩ = some (.int .u64 (c : Int)) := hV.cell rfl
          have c3 : wr.cell? ⟨gv, 3, none⟩ = some (.int .u64 (d : Int)) := hV.cell rfl
          have c4 : wr.cell? ⟨gv, 4, none⟩ = some (.int .u64 (e : Int)) := hV.cell rfl
          have c5 : wr.cell? ⟨gv, 5, none⟩ = some (.int .u64 (f' : Int)) := hV.cell rfl
          have c6 : wr.cell? ⟨gv, 6, none⟩ = some (.int .u64 (g' : Int)) := hV.cell rfl
          have c7 : wr.cell? ⟨gv, 7, none⟩ = some (.int .u64 (h' : Int)) := hV.cell rfl
          have L1 := cho_64 be bf bg
          have L2 := maj_64 ba bb bc
          have L3 := up1_64 be
          have L4 := up0_64 ba
          have B1 := up1_lt be
          have B2 := up0_lt ba
          have B3 := cho_lt (f := f') (g := g') be
          have B4 := maj_lt (c := c) ba bb
          go_wp2_with fail
          go_quiet (fail)
          go_wp2_with fail
          refine (rturn6 e _ be).mono ?_
          rintro e' w' ⟨rfl, rfl⟩
          go_wp2_with fail
          refine (rturn11 e _ be).mono ?_
          rintro e' w' ⟨rfl, rfl⟩
          go_wp2_with fail
          refine (rturn25 e _ be).mono ?_
          rintro e' w' ⟨rfl, rfl⟩
          go_wp2_with fail
          go_quiet (fail)
          go_wp2_with fail
          refine (rturn2 a _ ba).mono ?_
          rintro e' w' ⟨rfl, rfl⟩
          go_wp2_with fail
          refine (rturn13 a _ ba).mono ?_
          rintro e' w' ⟨rfl, rfl⟩
          go_wp2_with fail
          refine (rturn22 a _ ba).mono ?_
          rintro e' w' ⟨rfl, rfl⟩
          go_wp2_with (refine wpList_store_blk (by rfl) 60 (.tmp 12) (.tmp 153) (by rfl) gv 60 (u64s [a, b, c, d, e, f', g', h']) _ (by exact hV.carry rfl) (by rfl) (by rfl) (by rw [u64s_length]; simp only [List.length_cons, List.length_nil]) (by simp only [List.length_cons, List.length_nil]; exact Tryd.size60) (by intro x hx; simp only [List.mem_cons, List.not_mem_nil, or_false] at hx; rcases hx with rfl | rfl | rfl | rfl | rfl | rfl | rfl | rfl <;> rfl) ?_; intro w2 hV2 hG2)
          have keep : ∀ j, j < gv → w2.heap[j]? = wr.heap[j]? := fun j hj => hG2.block j (Nat.lt_trans hj hV.lt) (by simp; omega)
          have HM1 : Hid (∀ z : Nat, z < 18446744073709551616 → bits .and .u64 (z : Int) 4294967295 = ((z % 4294967296 : Nat) : Int)) := all_64
          refine ⟨⟨i + 1, (h' + up1 e + cho e f' g' + ki + wi + up0 a + maj a b c) % 4294967296, a, b, c, (d + (h' + up1 e + cho e f' g' + ki + wi)) % 4294967296, e, f', g', by omega, by go_num, ?_, by omega, ba, bb, bc, by omega, be, bf, bg, ?_, hB.carry (keep gw (by omega)), hH.carry (keep gh (by omega)), hKs.carry (keep gk (by omega)), hR.carry (keep gr (by omega)), hbel.trans ⟨hG2.os, hG2.tape, hG2.output, hG2.size, fun j hj => keep j (by omega)⟩⟩, by simp [intOf]; omega⟩
          · show runN _ _ (i + 1) = _
            unfold runN
            rw [HR.out, ← HE.out, ← HKI.out]
            rfl
          · have e1 : (h' : Int) + (up1 e : Int) + (cho e f' g' : Int) + (ki : Int) + (wi : Int) + (up0 a : Int) + (maj a b c : Int) = ((h' + up1 e + cho e f' g' + ki + wi + up0 a + maj a b c : Nat) : Int) := by omega
            have e2 : (d : Int) + ((h' : Int) + (up1 e : Int) + (cho e f' g' : Int) + (ki : Int) + (wi : Int)) = ((d + (h' + up1 e + cho e f' g' + ki + wi) : Nat) : Int) := by omega
            have e3 := HM1.out (h' + up1 e + cho e f' g' + ki + wi + up0 a + maj a b c) (by omega)
            have e4 := HM1.out (d + (h' + up1 e + cho e f' g' + ki + wi)) (by omega)
            rw [← e1] at e3
            rw [← e2] at e4
            rw [e3, e4] at hV2
            exact hV2
        · have hz : (i : Int) = 64 := by omega
          rw [show i = 64 by omega] at HR
          obtain ⟨u, HU⟩ : ∃ u : V8, Hid (u = runN (exts 48 (words blk)) ⟨va, vb, vc, vd, ve, vf, vg, vh⟩ 64) := ⟨_, rfl⟩
          rw [← HU.out] at HR
          have HQ : Hid (comp ⟨va, vb, vc, vd, ve, vf, vg, vh⟩ blk = V8.plus ⟨va, vb, vc, vd, ve, vf, vg, vh⟩ ⟨a, b, c, d, e, f', g', h'⟩) := by
            unfold Hid comp
            rw [← HU.out, HR.out]
          clear HU HR HF hB hKs
          rw [Hvh.out] at hH
          go_wp2_with fail
          clear hz
          go_loopw [21] (fun s21 wr => ∃ (k : Nat), k ≤ 8 ∧ s21 = .int .i64 (k : Int) ∧ Blk wr gh 60 (u64s (mixd k ⟨va, vb, vc, vd, ve, vf, vg, vh⟩ ⟨a, b, c, d, e, f', g', h'⟩).list) ∧ Blk wr gv 60 (u64s [a, b, c, d, e, f', g', h']) ∧ Blk wr gr 60 z8 ∧ Below gh w wr) (fun s21 _ => 8 - (intOf s21).toNat)
          case atStart => exact ⟨0, by omega, rfl, hH, hV, hR, hbel⟩
          case round =>
            clear hH hV hR hbel
            obtain ⟨k, hk, rfl, hH, hV, hR, hbel⟩ := hrel
            by_cases hlt : k < 8
            · have hch := hH.cell (u64s_get (l := (mixd k ⟨va, vb, vc, vd, ve, vf, vg, vh⟩ ⟨a, b, c, d, e, f', g', h'⟩).list) (j := k) hlt)
              have hcv := hV.cell (u64s_get (l := [a, b, c, d, e, f', g', h']) (j := k) hlt)
              rw [mixd_get _ _ k hlt] at hch
              have hfr := hH.frozen k
              have bv := V8.ok_get HV.out k
              have bu : (V8.list ⟨a, b, c, d, e, f', g', h'⟩).getD k 0 < 4294967296 := by
                have hs : k = 0 ∨ k = 1 ∨ k = 2 ∨ k = 3 ∨ k = 4 ∨ k = 5 ∨ k = 6 ∨ k = 7 := by omega
                rcases hs with rfl | rfl | rfl | rfl | rfl | rfl | rfl | rfl <;> simp [V8.list] <;> assumption
              have HM : Hid _ := mixd_set ⟨va, vb, vc, vd, ve, vf, vg, vh⟩ ⟨a, b, c, d, e, f', g', h'⟩ k hlt
              have hcv' : wr.cell? ⟨gv, k, none⟩ = some (.int .u64 ((V8.list ⟨a, b, c, d, e, f', g', h'⟩).getD k 0 : Int)) := hcv
              clear hcv
              generalize (V8.list ⟨a, b, c, d, e, f', g', h'⟩).getD k 0 = uk at hcv' bu HM
              generalize (V8.list ⟨va, vb, vc, vd, ve, vf, vg, vh⟩).getD k 0 = vk at hch bv HM
              have HA : Hid (bits .and .u64 ((vk : Int) + (uk : Int)) 4294967295 = (((vk + uk) % 4294967296 : Nat) : Int)) := by
                have e : (vk : Int) + (uk : Int) = ((vk + uk : Nat) : Int) := by omega
                unfold Hid
                rw [e]
                exact all_64 _ (by omega)
              go_wp2_with fail
              go_region
              go_wp2_with fail
              refine ⟨⟨k + 1, by omega, by go_num, ?_, hV.other _ (by omega), hR.other _ (by omega), (hbel.setCell (Nat.le_refl gh) _).trans ⟨rfl, rfl, rfl, Nat.le_refl _, fun _ _ => rfl⟩⟩, by simp [intOf]; omega⟩
              refine Blk.setTo (l := u64s (mixd k ⟨va, vb, vc, vd, ve, vf, vg, vh⟩ ⟨a, b, c, d, e, f', g', h'⟩).list) hH (z' := (((vk + uk) % 4294967296 : Nat) : Int)) HA.out ?_
              rw [← HM.out]
              unfold u64s
              rw [List.map_set]
            · rw [show k = 8 by omega, mixd_all, ← HQ.out] at hH
              have hz : (k : Int) = 8 := by omega
              obtain ⟨res, HRes⟩ : ∃ res, Hid (res = u64s (comp ⟨va, vb, vc, vd, ve, vf, vg, vh⟩ blk).list) := ⟨_, rfl⟩
              rw [← HRes.out] at hH
              have HSz : Hid ((Tryd.prog.info? 60).map (·.size) = some res.length) := by unfold Hid; rw [HRes.out, u64s_length, V8.list_length]; exact Tryd.size60
              have HLz : Hid (res.length = z8.length) := by unfold Hid; rw [HRes.out, Hz8.out, u64s_length, V8.list_length]; rfl
              have H1 : Hid (∀ v ∈ res, v.oneCell' = true) := by rw [HRes.out]; exact one_u64s _
              go_wp2_with (first
                | (refine wpList_load_blk (by rfl) 60 (.tmp 3) (by rfl) gh 60 res hH (by rfl) (.array 8 30) Tryd.underlying60 rfl HSz.out ?_)
                | (refine wpList_store_blk (by rfl) 60 (.tmp 6) (.tmp 168) (by rfl) gr 60 z8 res hR (by rfl) (by rfl) HLz.out HSz.out H1.out ?_; intro w9 hR9 hG9))
              refine bodyPost_ret (v := .agg res.toArray) (results_cell_row (p := 6) (ty := 60) rfl _ _ gr 60 _ (0, 0) (.array 8 30) rfl hR9 Tryd.underlying60 rfl (by simpa using HSz.out)) rfl ?_
              rw [HRes.out, hgh]
              exact ⟨rfl, hbel.trans (grownTo hG9 (by omega) (Nat.le_of_lt (Nat.lt_trans (by omega) hR.lt)))⟩
end Go.Proofs.YtpibpjbeedcefaaDoor
