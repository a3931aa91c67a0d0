/- FrameLong, the walk: how long a frame may be, and what a nil reader, and a zero one, answers. -/
import Derived.Test.YtbbfjfmcmckdmaaFrame
namespace Go.Proofs.Ytbbfjfmcmckdmaa
open Go.RowKit

theorem rd_one (ss : List UInt8) (h : ss.length ≤ 65536) : rd ([] ++ (Lib.uvarint ss.length ++ ss)) = ([ss], [], 2) := by
  have ht : t1 (Lib.uvarint ss.length ++ ss) = (ss, (Lib.uvarint ss.length).length + ss.length, 0) := by
    have := tt_back ss [] (by omega) 65536 (by omega)
    rw [List.append_nil] at this
    exact this
  rw [List.nil_append, rd_at ht, List.drop_eq_nil_of_le (by rw [List.length_append]; omega), rd_nil]

set_option maxRecDepth 100000 in
set_option maxHeartbeats 1000000 in
theorem long_walk (z : Int) (w : World) (hz0 : 0 ≤ z) (hz1 : z ≤ 255) :
    Calls Try.prog 6 #[.int .u8 z] w fun e w' => e = .returned (.bool true) ∧ Below w.heap.size w w' := by
  obtain ⟨i5, hi, hz0', hz1', hz2⟩ := info_parts Try.info5
  obtain ⟨N, hN⟩ : ∃ N : Nat, 65534 + z % 5 = (N : Int) := ⟨(65534 + z % 5).toNat, by omega⟩
  have hmk : ∀ w : World, (Instr.makeSlice 28 (.int .i64 (N : Int)) (.int .i64 (N : Int))).run Try.prog w = .ok (.slice (some ⟨w.heap.size, 0, none⟩) N N) (w.alloc (.cells (zrow N) 5)) := fun w => by
    rw [run_make_bytes (P := Try.prog) w 28 5 i5 Try.underlying28 hi hz0' hz1' hz2 .i64 .i64 (N : Int) (N : Int) (by omega) (by omega) (by omega)]
    rfl
  have hN1 : N ≤ 65538 := by omega
  have hN2 : 65534 ≤ N := by omega
  go_enter Try.func6, Try.ntmps6
  go_wp2_with (go_at_call 8; refine (begun_any _).mono ?_; rintro e w0 ⟨rfl, hb0⟩)
  have hs0 := hb0.size
  have hR1 : Rd ((w0.alloc (.cells #[.int .u8 9] 5)).alloc (.cells (zrow N) 5)) (some ⟨w0.heap.size, 0, none⟩) 1 1 [9] := (rd_built 5 w0 [9] (by decide)).alloc _
  have hR2 : Rd ((w0.alloc (.cells #[.int .u8 9] 5)).alloc (.cells (zrow N) 5)) (some ⟨(w0.alloc (.cells #[.int .u8 9] 5)).heap.size, 0, none⟩) N N (List.replicate N 0) := (own_made (w0.alloc (.cells #[.int .u8 9] 5)) 5 0 (Nat.zero_le _) N N (Nat.le_refl _) (by unfold maxLen; omega)).rd
  have hb2 : Below w.heap.size w ((w0.alloc (.cells #[.int .u8 9] 5)).alloc (.cells (zrow N) 5)) := (hb0.alloc hs0 _).alloc (by simp; omega) _
  have he1 : (w0.alloc (.cells #[.int .u8 9] 5)).heap.size = w0.heap.size + 1 := by simp
  rw [he1] at hR2
  clear he1 hmk hN
  generalize (w0.alloc (.cells #[.int .u8 9] 5)).alloc (.cells (zrow N) 5) = w2 at hR1 hR2 hb2 ⊢
  have hs2 := hb2.size
  by_cases hbig : 65536 < N
  · refine (frame_long _ _ _ _ _ _ _ hbig).mono ?_
    rintro e w3 ⟨rfl, rfl⟩
    have hb3 : Below w.heap.size w (w2.alloc (.cells #[.bool false, .slice none 0 0, .int .i64 0] 48)) := hb2.alloc hs2 _
    have hB3 : Blk (w2.alloc (.cells #[.bool false, .slice none 0 0, .int .i64 0] 48)) w2.heap.size 48 [.bool false, .slice none 0 0, .int .i64 0] := Blk.new w2 48 _
    have hs3 := hb3.size
    go_wp2_with fail
    refine (put_none _ _ _ _).mono ?_
    rintro e w9 ⟨rfl, rfl⟩
    have hz3 : Below w2.heap.size w2 (w2.alloc (.cells #[.bool false, .slice none 0 0, .int .i64 0] 48)) := (Below.refl _ _).alloc (Nat.le_refl _) _
    have hl3 := hB3.lt
    generalize w2.alloc (.cells #[.bool false, .slice none 0 0, .int .i64 0] 48) = w4 at hb3 hB3 hs3 hz3 hl3 ⊢
    have hb4 : Below w.heap.size w (w4.alloc (.cells #[.int .u8 0] 5)) := hb3.alloc hs3 _
    have hB4 : Blk (w4.alloc (.cells #[.int .u8 0] 5)) w2.heap.size 48 [.bool false, .slice none 0 0, .int .i64 0] := hB3.alloc _
    have hz4 : Below w2.heap.size w2 (w4.alloc (.cells #[.int .u8 0] 5)) := hz3.alloc (Nat.le_of_lt hl3) _
    clear hz3 hB3 hb3
    go_wp2_with fail
    generalize w4.alloc (.cells #[.int .u8 0] 5) = w5 at hb4 hB4 hz4 ⊢
    refine (put_zero _ _ _ _ _ hB4).mono ?_
    rintro e w9 ⟨rfl, rfl⟩
    go_wp2_with fail
    refine (waits_none _).mono ?_
    rintro e w9 ⟨rfl, rfl⟩
    go_wp2_with fail
    refine (waits_zero _ _ hB4).mono ?_
    rintro e w9 ⟨rfl, rfl⟩
    have hs4 := hb4.size
    go_wp2_with fail
    go_ret
    exact ⟨rfl, hb4⟩
  · have HRO : Hid _ := rd_one (List.replicate N 0) (by simp; omega)
    rw [List.length_replicate] at HRO
    have hul := Lib.uvarint_length64 (x := N) (by omega)
    refine (frame_ok _ _ _ [9] _ _ _ (List.replicate N 0) _ hR1 hR2 (by omega) (by omega)).mono ?_
    rintro e w3 ⟨gf, cf, rfl, hof, hbf⟩
    have hb3' : Below w.heap.size w w3 := hb2.trans (hbf.mono hs2)
    have hs3' := hb3'.size
    clear hR1 hR2 hbf
    have hlf := hof.lt
    have hb3 : Below w.heap.size w (w3.alloc (.cells #[.bool false, .slice none 0 0, .int .i64 0] 48)) := hb3'.alloc hs3' _
    have hB3 : Blk (w3.alloc (.cells #[.bool false, .slice none 0 0, .int .i64 0] 48)) w3.heap.size 48 [.bool false, .slice none 0 0, .int .i64 0] := Blk.new w3 48 _
    have hs3 := hb3.size
    go_wp2_with fail
    refine (put_none _ _ _ _).mono ?_
    rintro e w9 ⟨rfl, rfl⟩
    have hz3 : Below w3.heap.size w3 (w3.alloc (.cells #[.bool false, .slice none 0 0, .int .i64 0] 48)) := (Below.refl _ _).alloc (Nat.le_refl _) _
    have hl3 := hB3.lt
    generalize w3.alloc (.cells #[.bool false, .slice none 0 0, .int .i64 0] 48) = w4 at hb3 hB3 hs3 hz3 hl3 ⊢
    have hb4 : Below w.heap.size w (w4.alloc (.cells #[.int .u8 0] 5)) := hb3.alloc hs3 _
    have hB4 : Blk (w4.alloc (.cells #[.int .u8 0] 5)) w3.heap.size 48 [.bool false, .slice none 0 0, .int .i64 0] := hB3.alloc _
    have hz4 : Below w3.heap.size w3 (w4.alloc (.cells #[.int .u8 0] 5)) := hz3.alloc (Nat.le_of_lt hl3) _
    clear hz3 hB3 hb3
    go_wp2_with fail
    generalize w4.alloc (.cells #[.int .u8 0] 5) = w5 at hb4 hB4 hz4 ⊢
    refine (put_zero _ _ _ _ _ hB4).mono ?_
    rintro e w9 ⟨rfl, rfl⟩
    go_wp2_with fail
    refine (waits_none _).mono ?_
    rintro e w9 ⟨rfl, rfl⟩
    go_wp2_with fail
    refine (waits_zero _ _ hB4).mono ?_
    rintro e w9 ⟨rfl, rfl⟩
    have hs4 := hb4.size
    have hof5 := hof.below hz4 hlf
    clear hof hz4 hB4
    have hc9 : w5.cell? ⟨gf, 0, none⟩ = some (.int .u8 9) := hof5.cell (j := 0) rfl
    have hle5 := hof5.le
    have hmx5 := hof5.max
    unfold maxLen at hmx5
    generalize hU : (Lib.uvarint N).length = U at hul hof5 hle5 ⊢
    go_wp2_with fail
    refine (new_any _).mono ?_
    rintro e w6 ⟨gr, rfl, hgr, hF6, hb6⟩
    have hof6 := hof5.below hb6 hof5.lt
    have hb6' : Below w.heap.size w w6 := hb4.trans (hb6.mono hs4)
    have hrr := hof6.rd.rest 1 (by omega)
    rw [if_neg (by omega), Nat.zero_add, List.append_assoc, show ([9] : List UInt8) ++ (Lib.uvarint N ++ List.replicate N 0) = 9 :: (Lib.uvarint N ++ List.replicate N 0) from rfl, List.drop_one, List.tail_cons] at hrr
    have hc6 : w6.cell? ⟨gf, 0, none⟩ = some (.int .u8 9) := hof6.cell (j := 0) rfl
    have hlf6 := hof6.lt
    have hgrf : gf < w5.heap.size := hof5.lt
    clear hc9 hof5 hU
    go_wp2_with fail
    refine (put_at (fs := [List.replicate N 0]) (er := 0) (s' := ([], 0)) hF6 hrr (by simp only [List.length_nil]; omega) (put_short HRO.out).1 (put_short HRO.out).2.1 (put_short HRO.out).2.2).mono ?_
    rintro e w7 ⟨a7, k7, c7, rfl, vs7, q7, hP⟩
    obtain rfl : k7 = 1 := hP.num
    obtain ⟨fo, fn, fc, hv, hres⟩ := hP.fv.2 0 (List.replicate N 0) rfl
    have hfn := hres.1.len
    rw [List.length_replicate] at hfn
    subst hfn
    obtain ⟨gl, rfl, hol⟩ : ∃ g, a7 = some ⟨g, 0, none⟩ ∧ OwnV 28 w6.heap.size w7 g 1 c7 vs7 := by
      rcases hP.own with ⟨_, h, _, _⟩ | h
      · omega
      · exact h
    have hcl := hol.cell hv
    have hcm := hol.max
    unfold maxLen at hcm
    have hcl1 := hol.le
    have hc7 : w7.cell? ⟨gf, 0, none⟩ = some (.int .u8 9) := (World.cell?_of_block (a := ⟨gf, 0, none⟩) (hP.keep.block gf hlf6 (fun e => by rcases e with e | e; omega; cases e))).trans hc6
    have hb7 : Below w.heap.size w w7 := below_keep hb6' hP.keep hb6'.size (fun k e => by rcases e with e | e; omega; cases e)
    clear hP hF6 hrr hres hv hc6 hof6
    go_wp2_with fail
    go_ret
    exact ⟨rfl, hb7⟩
end Go.Proofs.Ytbbfjfmcmckdmaa
