/- DigestAll, the walk. -/
import Derived.Test.YtpibpjbeedcefaaDoorAKept
namespace Go.Proofs.YtpibpjbeedcefaaDoor
open Go.RowKit

theorem Tryd.equal32 (w : World) (hi lo : Nat) : (Op.equalIn 10000 32 (.agg (hcells hi lo).toArray) (.agg (hcells hi lo).toArray)).run Tryd.prog w = .ok true w := by
  rw [run_equalIn_struct w 9999 32 _ _ (by kernel_rfl) (by kernel_rfl)]
  have hf : (Tryd.prog.fieldsOf 32).toList.map (fun f => (f.name, f.type, f.offset)) = [("High", 30, 0), ("Low", 30, 1)] := by kernel_rfl
  generalize (Tryd.prog.fieldsOf 32).toList = fs at hf
  have hl : fs.length = 2 := by simpa using congrArg List.length hf
  obtain ⟨f, g, rfl⟩ : ∃ f g, fs = [f, g] := by
    match fs, hl with
    | [f, g], _ => exact ⟨f, g, rfl⟩
  simp only [List.map_cons, List.map_nil, List.cons.injEq, Prod.mk.injEq, and_true] at hf
  obtain ⟨⟨n1, t1, o1⟩, n2, t2, o2⟩ := hf
  simp [Op.eqFields, n1, n2, t1, t2, o1, o2, hcells, part, run_equalIn_int w 9998 30 .u64 .u64 _ _ Tryd.underlying30]

theorem Parts.mono {w : World} {g g' : Nat} {ao : Option Addr} {n cap : Nat} {ls : List (List UInt8)} (h : Parts w g ao n cap ls) (hg : g ≤ g') : Parts w g' ao n cap ls :=
  ⟨h.len, h.le, h.max, fun i l hl => by
    obtain ⟨b, off, v, h1, h2, h3, h4⟩ := h.cell i l hl
    exact ⟨b, off, v, h1, by omega, h3, h4.mono hg⟩⟩

theorem TV.pv {w : World} {B : Nat} {vs : List Value} {ls : List (List UInt8)} (h : TV w B vs ls) (hm : ls.flatten.length ≤ 1048576) : PV w w.heap.size vs ls :=
  ⟨h.1, fun j l hl => by
    obtain ⟨g, h1, h2, _⟩ := h.2 j l hl
    have hfl := flat_le ls (j + 1)
    rw [flat_take ls j l hl, List.length_append] at hfl
    have ho : Own 5 0 w g l.length (l.length + 3) l := h2.own 0 (Nat.zero_le _) (by simp [twinRow]) rfl (by omega) (by unfold maxLen; omega) (by simp [twinRow])
    exact ⟨_, h1, part_of ho.rd ho.rd.lowSize⟩⟩

set_option maxRecDepth 100000 in
set_option maxHeartbeats 1000000 in
theorem all_walk (ao : Option Addr) (n cap : Nat) (ls : List (List UInt8)) (bo : Option Addr) (m bcap : Nat) (bs : List UInt8) (w : World) (h : Parts w w.heap.size ao n cap ls) (hb : Rd w bo m bcap bs) (hk : Keys w) :
    Calls Tryd.prog 3 #[.slice ao n cap, .slice bo m bcap] w fun e w' => e = .returned (.bool true) ∧ Below w.heap.size w w' := by
  have hnc := h.le
  have hcm := h.max
  unfold maxLen at hcm
  have hmb := hb.le
  have hmx := hb.max
  unfold maxLen at hmx
  go_enter Tryd.func3, Tryd.ntmps3
  go_wp2_with fail
  refine (begun_any w hk).mono ?_
  rintro e w1 ⟨rfl, hb1⟩
  have h1 : Parts w1 w1.heap.size ao n cap ls := (h.low hb1.block).mono hb1.size
  have r1 := hb.below hb1 (Nat.le_refl _)
  have k1 := hk.below hb1 hk.lt
  clear h hb hk
  by_cases hbig : 100 < n
  · go_wp2_with fail
    go_ret
    exact ⟨rfl, hb1⟩
  · go_wp2_with fail
    refine (lsum_any ao n cap ls w1 h1 (by omega)).mono ?_
    rintro e w1' ⟨⟨z, rfl, hz, hzl⟩, rfl⟩
    by_cases hzb : 1500 < z
    · go_wp2_with fail
      go_ret
      exact ⟨rfl, hb1⟩
    · have hfl := hzl (by omega)
      by_cases hmb' : 1500 < m
      · go_wp2_with fail
        go_ret
        exact ⟨rfl, hb1⟩
      · go_wp2_with fail
        refine (twins_any ao n cap ls w1 h1 (by omega) (by omega)).mono ?_
        rintro e w2 ⟨a, c, vs, rfl, hA, hT, hb2⟩
        have hP2 := AppV.parts hA (hT.pv (by omega)) (Nat.le_refl _)
        have h2 : Parts w2 w2.heap.size ao n cap ls := (h1.low hb2.block).mono hb2.size
        have r2 := r1.below hb2 (Nat.le_refl _)
        have k2 := k1.below hb2 k1.lt
        have B2 := hb1.trans (hb2.mono hb1.size)
        go_wp2_with fail
        refine (sum_any a n c ls w2 hP2 k2 (by omega) (by omega)).mono ?_
        rintro e w3 ⟨rfl, hb3⟩
        have h3 : Parts w3 w3.heap.size ao n cap ls := (h2.low hb3.block).mono hb3.size
        have r3 := r2.below hb3 (Nat.le_refl _)
        have k3 := k2.below hb3 k2.lt
        have B3 := B2.trans (hb3.mono B2.size)
        have hA3 := hA.below hb3 (Nat.le_refl _)
        have hT3 := hT.carry (w' := w3) (fun g l hr => hb3.block g hr.lt)
        go_wp2_with fail
        refine (rsum_any ao n cap ls w3 h3 (by omega) (by omega)).mono ?_
        rintro e w4 ⟨rfl, hb4⟩
        have h4 : Parts w4 w4.heap.size ao n cap ls := (h3.low hb4.block).mono hb4.size
        have r4 := r3.below hb4 (Nat.le_refl _)
        have k4 := k3.below hb4 k3.lt
        have B4 := B3.trans (hb4.mono B3.size)
        have hA4 := hA3.below hb4 (Nat.le_refl _)
        have hT4 := hT3.carry (w' := w4) (fun g l hr => hb4.block g hr.lt)
        have heq := fun w => eql_same w (sha ls.flatten) (sha_length _)
        have heq2 := fun w => equalIn_same w (sha ls.flatten) (sha_length _)
        generalize (sha ls.flatten).map bval = cs at heq heq2 ⊢
        clear h1 h2 h3 r1 r2 r3 k1 k2 k3 hA hA3 hT hT3 hP2
        go_wp2_with fail
        refine (first_any bo m bcap bs w4 r4 k4 (by omega)).mono ?_
        rintro e w5 ⟨rfl, hb5⟩
        have h5 : Parts w5 w5.heap.size ao n cap ls := (h4.low hb5.block).mono hb5.size
        have r5 := r4.below hb5 (Nat.le_refl _)
        have B5 := B4.trans (hb5.mono B4.size)
        have hA5 := hA4.below hb5 (Nat.le_refl _)
        have hT5 := hT4.carry (w' := w5) (fun g l hr => hb5.block g hr.lt)
        go_wp2_with fail
        refine (rfirst_any bo m bcap bs w5 r5 (by omega)).mono ?_
        rintro e w6 ⟨rfl, hb6⟩
        have h6 : Parts w6 w6.heap.size ao n cap ls := (h5.low hb6.block).mono hb6.size
        have B6 := B5.trans (hb6.mono B5.size)
        have hA6 := hA5.below hb6 (Nat.le_refl _)
        have hT6 := hT5.carry (w' := w6) (fun g l hr => hb6.block g hr.lt)
        have heq3 := fun w => Tryd.equal32 w (high (sha bs) 8) (low (sha bs) 8)
        generalize hcells (high (sha bs) 8) (low (sha bs) 8) = ds at heq3 ⊢
        go_wp2_with fail
        refine (allkept_any a c vs ao n cap ls _ w6 hA6 hT6 h6 (by omega) (by omega)).mono ?_
        rintro e w7 ⟨rfl, hb7⟩
        go_wp2_with fail
        go_ret
        exact ⟨rfl, B6.trans (hb7.mono B6.size)⟩
end Go.Proofs.YtpibpjbeedcefaaDoor
