/- FrameCuts, the walk: frames that are parted anyhow come as they were, in their order. -/
import Derived.Test.YtbbfjfmcmckdmaaGot
import Derived.Test.YtbbfjfmcmckdmaaCutOwn
namespace Go.Proofs.Ytbbfjfmcmckdmaa
open Go.RowKit

set_option maxRecDepth 100000 in
set_option maxHeartbeats 2000000 in
theorem cuts_walk (ta : Option Addr) (tn tc : Nat) (ts : List (List UInt8)) (so : Option Addr) (sm sc : Nat) (zs : List Int) (w : World) (hT : Parts w w.heap.size ta tn tc ts) (hZ : RdI w so sm sc zs) :
    Calls Try.prog 4 #[.slice ta tn tc, .slice so sm sc] w fun e w' => e = .returned (.bool true) ∧ Below w.heap.size w w' := by
  obtain ⟨i28, hi, hz0, hz1, hz2⟩ := info_parts28
  have HI : Hid _ := hi
  have HZ0 : Hid _ := hz0
  have HZ1 : Hid _ := hz1
  clear hi hz0 hz1
  have htl := hT.le
  have htm := hT.max
  have hzl := hZ.le
  have hzm := hZ.max
  unfold maxLen at htm hzm
  by_cases h20 : 20 < tn
  · go_enter Try.func4, Try.ntmps4
    go_wp2_with (go_at_call 8; refine (begun_any _).mono ?_; rintro e w0 ⟨rfl, hb0⟩)
    go_ret
    exact ⟨rfl, hb0⟩
  · go_enter Try.func4, Try.ntmps4
    go_wp2_with (go_at_call 8; refine (begun_big _).mono ?_; rintro e w0 ⟨rfl, hb0, hgt⟩)
    have hT0 := (hT.low hb0.block).mono hb0.size
    refine (lsum_any ta tn tc ts w0 hT0 (by omega) 3000 (by omega)).mono ?_
    rintro e w9 ⟨⟨z, rfl, hz, hzs⟩, rfl⟩
    by_cases h3 : 3000 < z
    · go_wp2_with fail
      go_ret
      exact ⟨rfl, hb0⟩
    · by_cases h200 : 200 < sm
      · go_wp2_with fail
        go_ret
        exact ⟨rfl, hb0⟩
      · have hfl := hzs (by omega)
        have HSM : Hid (∀ l ∈ ts, l.length ≤ 65536) := fun l hl => by have := mem_flat ts l hl; omega
        clear hzs hz
        have hs0 := hb0.size
        go_wp2_with fail
        go_loopw [5, 6] (fun s5 s6 wr => ∃ (k : Nat) (a : Option Addr) (L c : Nat), k ≤ tn ∧ s6 = .int .i64 (k : Int) ∧ s5 = .slice a L c ∧ Rd wr a L c (enc (ts.take k)) ∧ ((a = none ∧ L = 0 ∧ c = 0) ∨ ∃ gb, a = some ⟨gb, 0, none⟩ ∧ w.heap.size ≤ gb ∧ gb < wr.heap.size) ∧ Below w.heap.size w wr ∧ w.heap.size < wr.heap.size) (fun _ s6 _ => tn - (intOf s6).toNat)
        case atStart => exact ⟨0, none, 0, 0, by omega, rfl, rfl, Rd.none' _ _, .inl ⟨rfl, rfl, rfl⟩, hb0, hgt⟩
        case round =>
          obtain ⟨k, a, L, c, hk, rfl, rfl, hR, hab, hB, hgr⟩ := hrel
          have hsz := hB.size
          by_cases hlt : k < tn
          · obtain ⟨l, hl⟩ : ∃ l, ts[k]? = some l := ⟨_, List.getElem?_eq_getElem (by rw [hT.len]; exact hlt)⟩
            have hTr := hT.low hB.block
            obtain ⟨b, off, v, rfl, hbg, hc, pa, pm, pc, rfl, hr, hlow⟩ := hTr.cell k l hl
            have HTK : Hid _ := enc_take ts k l hl
            have hpl := mem_flat ts l (List.mem_of_getElem? hl)
            rw [hr.len] at hpl
            have HPL : Hid _ := hr.len
            have hLl := enc_length (ts.take k) (fun x hx => HSM.out x (List.mem_of_mem_take hx))
            have hf1 := flat_le ts k
            rw [hR.len, List.length_take, hT.len] at hLl
            clear hl hTr
            go_wp2_with fail
            refine (frame_ok a L c _ pa pm pc l wr hR hr (by omega) (by omega)).mono ?_
            rintro e w1 ⟨g, c1, rfl, ho, hb⟩
            have hB1 : Below w.heap.size w w1 := hB.trans (hb.mono hsz)
            go_wp2_with fail
            refine ⟨⟨k + 1, _, _, c1, by omega, by go_num, rfl, ?_, .inr ⟨g, rfl, by have := ho.new; omega, ho.lt⟩, hB1, by have := hb.size; omega⟩, by simp [intOf]; omega⟩
            rw [HTK.out, HPL.out]
            exact ho.rd
          · have hkn : k = tn := by omega
            subst hkn
            rw [List.take_of_length_le (by rw [hT.len]; omega)] at hR
            have hLl := enc_length ts HSM.out
            rw [hR.len, hT.len] at hLl
            obtain ⟨gb, hbk, hgb0, hgb1⟩ : ∃ gb, Bk L a gb ∧ w.heap.size ≤ gb ∧ gb < wr.heap.size := by
              rcases hab with ⟨_, h0, _⟩ | ⟨gb, h0, h1, h2⟩
              · exact ⟨w.heap.size, fun h => by omega, Nat.le_refl _, hgr⟩
              · exact ⟨gb, fun _ => ⟨0, h0⟩, h1, h2⟩
            clear hab
            go_wp2_with fail
            refine (new_any wr).mono ?_
            rintro e w2 ⟨g, rfl, hg, hF, hb2⟩
            have hB2 : Below w.heap.size w w2 := hB.trans (hb2.mono hsz)
            have hR2 := hR.below hb2 (Nat.le_refl _)
            have hZ2 := hZ.below hB2 (Nat.le_refl _)
            have hgl := hF.lt
            have hgb2 : gb < g := by omega
            go_wp2_with fail
            refine (cut_own a L c (enc ts) so sm sc zs w2 hR2 hZ2 (by omega) (by omega) gb hbk (by omega)).mono ?_
            rintro e w3 ⟨pl, pn, pc, pvs, ls, rfl, hPA, hPB, hfl2, hpn, hb3⟩
            have hB3 : Below w.heap.size w w3 := hB2.trans (hb3.mono hB2.size)
            have hF3 : FR w3 g none ([], 0) := hF.carry (hb3.block g hgl) (fun b hb => by cases hb)
            have hS0 : GotS w w3 w3.heap.size g none 0 0 [] none [] := ⟨by rw [rd_nil]; rfl, .inl ⟨rfl, rfl, rfl, rfl⟩, by rw [rd_nil]; exact FV.nil _ _, (fun j a n c hj => by simp at hj), by rw [allS_nil]; exact hF3, (fun b hb => by cases hb), hB3, Nat.le_refl _⟩
            have hwg : w.heap.size ≤ g := by omega
            have hgB : g < w3.heap.size := by have := hb3.size; omega
            have hgB2 : g < w2.heap.size := hgl
            have hPA3 := hPA
            have HFL : Hid _ := hfl2
            have hBw2 : w2.heap.size ≤ w3.heap.size := hb3.size
            have hplB : ∀ gl, pl = some ⟨gl, 0, none⟩ → gl < w3.heap.size := fun gl hgl => by
              rcases hPA with ⟨h0, _⟩ | ⟨b, h0, ho⟩
              · rw [h0] at hgl; cases hgl
              · rw [h0] at hgl
                obtain rfl : b = gl := by simpa using hgl
                exact ho.lt
            clear hfl2 hb2 hb3 hB2 hB3 hF hF3 hR hR2 hZ2 hPA hgl hB
            generalize w3.heap.size = B at hS0 hgB hBw2 hplB
            have hgbB : gb < B := by omega
            have hlsl : ls.length = pn := by
              rw [← hPB.1]
              rcases hPA3 with ⟨_, h0, _, h1⟩ | ⟨b, _, ho⟩
              · rw [h0, h1]; rfl
              · exact ho.len
            have HRD : Hid (rd (enc ts) = (ts, [], 2)) := by
              have := rd_enc ts HSM.out []
              rw [rd_nil, List.append_nil, List.append_nil] at this
              exact this
            have htn := hT.len
            have HTN : Hid _ := htn
            clear htn hgb1 hg hsz hgr hbk hLl
            go_wp2_with fail
            go_loopw [11, 12] (fun s11 s12 wr => ∃ (k : Nat) (a : Option Addr) (m c : Nat) (vs : List Value) (q : Option Nat), k ≤ pn ∧ s12 = .int .i64 (k : Int) ∧ s11 = .slice a m c ∧ GotS w wr B g a m c vs q (ls.take k).flatten ∧ AppV 28 w2.heap.size wr pl pn pc pvs ∧ PB wr gb pvs ls) (fun _ s12 _ => pn - (intOf s12).toNat)
            case atStart => exact ⟨0, none, 0, 0, [], none, by omega, rfl, rfl, hS0, hPA3, hPB⟩
            case round =>
              clear hS0 hPA3 hPB
              obtain ⟨j, a2, m, c2, vs, q, hj, rfl, rfl, hS, hPA, hPB⟩ := hrel
              have hys := flat_le ls j
              rw [HFL.out] at hys
              have hel := enc_length ts HSM.out
              rw [HTN.out] at hel
              have hcnt := rd_count (ls.take j).flatten
              rw [← hS.num] at hcnt
              have hal := allS_len (ls.take j).flatten
              by_cases hlt2 : j < pn
              · obtain ⟨l, hl⟩ : ∃ l, ls[j]? = some l := ⟨_, List.getElem?_eq_getElem (by rw [hlsl]; exact hlt2)⟩
                obtain ⟨pa, pm, pcc, hv, hr, hbk⟩ := hPB.2 j l hl
                obtain ⟨gl, rfl, hol⟩ : ∃ gl, pl = some ⟨gl, 0, none⟩ ∧ OwnV 28 w2.heap.size wr gl pn pc pvs := by
                  rcases hPA with ⟨_, h0, _, _⟩ | h
                  · omega
                  · exact h
                have hcl := hol.cell hv
                have hpc1 := hol.le
                have hpc2 := hol.max
                unfold maxLen at hpc2
                have HFT : Hid _ := flat_take ls j l hl
                obtain ⟨p1, p2, p3⟩ := allS_put (ls.take j).flatten l
                have hys2 := flat_le ls (j + 1)
                rw [HFL.out, HFT.out, List.length_append, hr.len] at hys2
                rw [← HFT.out] at p1 p2 p3
                have hE0 : (allS (ls.take (j + 1)).flatten).2 = 0 := rd_begin _ (ls.drop (j + 1)).flatten (by rw [← List.flatten_append, List.take_append_drop, HFL.out, HRD.out])
                rw [hE0] at p3
                have HP2 : Hid _ := p2
                have HP3 : Hid _ := p3
                have HP1 : Hid _ := p1
                clear p1 p2 p3 hE0 hl hv
                go_wp2_with fail
                refine (put_at hS.fr hr (by omega) rfl HP3.out HP1.out).mono ?_
                rintro e w5 ⟨la, lk, lc, rfl, us, q', hP⟩
                have hA3 := hS.own.put hgB hS.fr hP.keep
                have hsz3 : B ≤ w5.heap.size := Nat.le_trans hS.size hP.keep.size
                have hlk : m + lk ≤ 4000 := by
                  have := rd_count (ls.take (j + 1)).flatten
                  rw [HP2.out, List.length_append, ← hS.num, ← hP.num, HFT.out, List.length_append, hr.len] at this
                  omega
                have hA5 := hP.own
                have h1c := hP.fv.one
                have hPA5 := hPA.put hgB2 hS.fr hP.keep
                have hPB5 : PB w5 gb pvs ls := hPB.carry (hP.keep.block gb (by have := hS.size; omega) (fun e => by rcases e with e | e; omega; have := hS.qn _ e; omega))
                clear hcl hPA hPB hol
                go_wp2_with (at_builtin; refine wpList_append_vals (P := Try.prog) _ (by rfl) (.tmp 69) (.tmp 70) 22 22 (by rfl) 28 i28 (.slice none 0 0) Try.underlying22 Try.underlying22 HI.out HZ0.out HZ1.out rfl hz2 B hsz3 (by rfl) hA3 (by rfl) hA5 h1c (by omega) ?_; intro a4 c4 w4 hA4 hb4 hg4)
                have hS4 := hS.step hgB hwg hP HP2.out hA3 hA4 hb4 hg4
                refine ⟨⟨j + 1, a4, _, c4, _, q', by omega, by go_num, rfl, hS4, ?_, hPB5.carry (hb4.block gb hgbB)⟩, by simp [intOf]; omega⟩
                rcases hPA5 with ⟨h0, _⟩ | ⟨b, h0, ho⟩
                · cases h0
                · obtain rfl : gl = b := by simpa using h0
                  exact .inr ⟨gl, rfl, ho.carry (hb4.block gl (hplB gl rfl))⟩
              · have hjn : ls.take j = ls := List.take_of_length_le (by rw [hlsl]; omega)
                rw [hjn, HFL.out] at hS
                have hnm := hS.num
                rw [HRD.out] at hnm
                simp only at hnm
                rw [HTN.out] at hnm
                subst hnm
                have hp1 : Parts wr wr.heap.size a2 m c2 ts := by
                  have := hS.own.parts hS.fv.pv (Nat.le_refl _)
                  rw [HRD.out] at this
                  exact this
                have hp2 : Parts wr wr.heap.size ta m tc ts := (hT.low hS.bel.block).mono hS.bel.size
                have hW : (allS (enc ts)).1.length = 0 := by unfold allS; rw [HRD.out]; rfl
                have HW : Hid _ := hW
                clear hW
                go_wp2_with fail
                refine (alike_any _ _ _ _ _ _ _ hp1 hp2 (by omega)).mono ?_
                rintro e w6 ⟨rfl, h6, hb6⟩
                have hr1 : FR w6 g q (allS (enc ts)) := hS.fr.carry (by rw [h6]) (fun _ _ _ => by rw [h6])
                have hb6' := hS.bel.trans (hb6.mono hS.bel.size)
                clear hp1 hp2 h6 hb6
                go_wp2_with fail
                refine (waits_at hr1 HW.out).mono ?_
                rintro e w9 ⟨rfl, rfl⟩
                go_wp2_with fail
                go_ret
                exact ⟨rfl, hb6'⟩
end Go.Proofs.Ytbbfjfmcmckdmaa
