/- The walk of digest.First: the first sixteen bytes of the sum, as two numbers. No condition but that what is given can be read and is no longer than 2^40, and that roundWords holds the table. -/
import Derived.Test.YtpibpjbeedcefaaDoorCuts
namespace Go.Proofs.YtpibpjbeedcefaaDoor
open Go.RowKit

def hcells (hi lo : Nat) : List Value := [.int .u64 (hi : Int), .int .u64 (lo : Int)]
def high (s : List UInt8) (k : Nat) : Nat := n8 (s.take k)
def low (s : List UInt8) (k : Nat) : Nat := n8 ((s.drop 8).take k)

theorem or64 (a c : Nat) (ha : a < 72057594037927936) (hc : c < 256) : bits .or .u64 ((a : Int) * 256) (c : Int) = ((a * 256 + c : Nat) : Int) := by
  rw [bits_join .u64 64 (by decide) wraps_u64 8 ((a : Int) * 256) (c : Int) (by omega) (by omega) (by omega) (by omega) (by omega) (by omega)]
  omega
theorem high_step {s : List UInt8} {k : Nat} (hk : k < s.length) : high s (k + 1) = high s k * 256 + (s[k]).toNat := by
  unfold high
  rw [List.take_succ_eq_append_getElem hk, n8_snoc]
theorem low_step {s : List UInt8} {k : Nat} (hk : 8 + k < s.length) : low s (k + 1) = low s k * 256 + (s[8 + k]).toNat := by
  unfold low
  rw [List.take_succ_eq_append_getElem (by rw [List.length_drop]; omega), n8_snoc, List.getElem_drop]
theorem n8_take_lt (l : List UInt8) (k : Nat) (hk : k ≤ 7) : n8 (l.take k) < 72057594037927936 := by
  have h1 := n8_lt (l.take k)
  have h2 : 256 ^ (l.take k).length ≤ 256 ^ 7 := Nat.pow_le_pow_right (by decide) (by rw [List.length_take]; omega)
  omega

set_option maxRecDepth 100000 in
set_option maxHeartbeats 1000000 in
theorem first_any (ao : Option Addr) (n cap : Nat) (bs : List UInt8) (w : World) (h : Rd w ao n cap bs) (hk : Keys w) (hn : n ≤ 1048576) :
    Calls Tryd.prog 12 #[.slice ao n cap] w fun e w' => e = .returned (.agg (hcells (high (sha bs) 8) (low (sha bs) 8)).toArray) ∧ Below w.heap.size w w' := by
  obtain ⟨zs, Hzs⟩ : ∃ zs, Hid (zs = (List.range 32).map bz) := ⟨_, rfl⟩
  have hz27 : ∀ w : World, (zeroValue 27).run Tryd.prog w = .ok (.agg zs.toArray) w := by rw [Hzs.out]; exact (zero_of_info (n := 32) (by kernel_rfl)).1
  have HLz : Hid (((sha bs).map bval).length = zs.length) := by unfold Hid; rw [Hzs.out, List.length_map, sha_length]; simp
  have HSz : Hid ((Tryd.prog.info? 27).map (·.size) = some ((sha bs).map bval).length) := by unfold Hid; rw [List.length_map, sha_length]; exact Tryd.size27
  have hR0 : Blk (w.alloc (.cells #[.int .u64 0, .int .u64 0] 32)) w.heap.size 32 (hcells 0 0) := Blk.new w 32 (hcells 0 0)
  have hB0 : Below w.heap.size w (w.alloc (.cells #[.int .u64 0, .int .u64 0] 32)) := (Below.refl _ _).alloc (Nat.le_refl _) _
  have h1 := h.alloc (.cells #[.int .u64 0, .int .u64 0] 32)
  have hk1 := hk.alloc (.cells #[.int .u64 0, .int .u64 0] 32)
  have hs1 : (w.alloc (.cells #[.int .u64 0, .int .u64 0] 32)).heap.size = w.heap.size + 1 := by simp
  go_enter Tryd.func12, Tryd.ntmps12
  go_wp2_with fail
  have hS := sum_one ao n cap bs _ h1 hk1 (by omega)
  rw [hs1] at hS
  generalize w.alloc (.cells #[.int .u64 0, .int .u64 0] 32) = w1 at hR0 hB0 hs1 hS ⊢
  refine hS.mono ?_
  rintro e w2 ⟨rfl, hb2⟩
  have hR2 := hR0.below hb2 (by omega)
  have hB2 := hB0.trans (hb2.mono (by omega))
  have hs2 := hb2.size
  have HLs := sha_length bs
  have HS32 : Hid _ := HLs
  clear HLs hR0 hB0 hb2 h1 hk1 hS
  go_wp2_with (refine wpList_store_new (by rfl) 27 (.tmp 3) (.tmp 7) (by rfl) w2 zs _ (by rfl) (by rfl) HLz.out HSz.out (one_bytes _) ?_; intro w3 hS3 hb3)
  have hR3 := hR2.below hb3 (by omega)
  have hB3 := hB2.trans (hb3.mono (by omega))
  obtain ⟨gs, hgs⟩ : ∃ gs, w2.heap.size = gs := ⟨_, rfl⟩
  have n1 : w.heap.size < gs := by omega
  rw [hgs] at hS3 ⊢
  clear hR2 hB2 hb3 hs2 hz27
  obtain ⟨s, Hs⟩ : ∃ s, Hid (s = sha bs) := ⟨_, rfl⟩
  rw [← Hs.out] at hS3 HS32
  rw [← Hs.out]
  go_loopw [8] (fun s8 wr => ∃ k : Nat, k ≤ 8 ∧ s8 = .int .i64 (k : Int) ∧ Blk wr w.heap.size 32 (hcells (high s k) (low s k)) ∧ Blk wr gs 27 (s.map bval) ∧ Below w.heap.size w wr) (fun s8 _ => 8 - (intOf s8).toNat)
  case atStart => exact ⟨0, by omega, rfl, hR3, hS3, hB3⟩
  case round =>
    clear hR3 hS3 hB3
    obtain ⟨k, hk8, rfl, hR, hS, hB⟩ := hrel
    by_cases hlt : k < 8
    · have hk1 : k < s.length := by rw [HS32.out]; omega
      have hk2 : 8 + k < s.length := by rw [HS32.out]; omega
      have c0 : wr.cell? ⟨w.heap.size, 0, none⟩ = some (.int .u64 (high s k : Int)) := hR.cell rfl
      have c1 : wr.cell? ⟨w.heap.size, 1, none⟩ = some (.int .u64 (low s k : Int)) := hR.cell rfl
      have d0 : wr.cell? ⟨gs, k, none⟩ = some (.int .u8 ((s[k]).toNat : Int)) := hS.cell (by rw [List.getElem?_map, List.getElem?_eq_getElem hk1]; rfl)
      have d1 : wr.cell? ⟨gs, 8 + k, none⟩ = some (.int .u8 ((s[8 + k]).toNat : Int)) := hS.cell (by rw [List.getElem?_map, List.getElem?_eq_getElem hk2]; rfl)
      have f0 := hR.frozen 0
      have f1 := hR.frozen 1
      have H0 : Hid _ := high_step hk1
      have H1 : Hid _ := low_step hk2
      have b0 : high s k < 72057594037927936 := n8_take_lt s k (by omega)
      have b1 : low s k < 72057594037927936 := n8_take_lt (s.drop 8) k (by omega)
      have e0 : (s[k]).toNat < 256 := (s[k]).toNat_lt
      have e1 : (s[8 + k]).toNat < 256 := (s[8 + k]).toNat_lt
      generalize (s[k]).toNat = x at d0 H0 e0
      have HY' : bval s[8 + k] = .int .u8 ((s[8 + k]).toNat : Int) := rfl
      generalize (s[8 + k]).toNat = y at d1 H1 e1 HY'
      have HY : Hid _ := HY'
      clear HY'
      generalize high s k = hi at hR c0 H0 b0
      generalize low s k = lo at hR c1 H1 b1
      have L0 := or64 hi x b0 e0
      have L1 := or64 lo y b1 e1
      have HR1 : Hid (Blk (wr.setCell ⟨w.heap.size, 0, none⟩ (.int .u64 ((hi * 256 + x : Nat) : Int))) w.heap.size 32 (hcells (hi * 256 + x) lo)) := hR.set 0 _
      have HS1 : Hid (Blk (wr.setCell ⟨w.heap.size, 0, none⟩ (.int .u64 ((hi * 256 + x : Nat) : Int))) gs 27 (s.map bval)) := hS.other _ (by omega)
      have HB1 : Hid (Below w.heap.size w (wr.setCell ⟨w.heap.size, 0, none⟩ (.int .u64 ((hi * 256 + x : Nat) : Int)))) := hB.setCell (Nat.le_refl w.heap.size) _
      have z0 : ((hi * 256 + x : Nat) : Int) = (hi : Int) * 256 + (x : Int) := by omega
      rw [z0] at HR1 HS1 HB1
      go_wp2_with fail
      go_region
      have hR1 := HR1.out.drew
      have hS1 := HS1.out.drew
      have hB1 : Below w.heap.size w (wr.setCell ⟨w.heap.size, 0, none⟩ (.int .u64 ((hi : Int) * 256 + (x : Int)))).drew := HB1.out.trans ⟨rfl, rfl, rfl, Nat.le_refl _, fun _ _ => rfl⟩
      generalize (wr.setCell ⟨w.heap.size, 0, none⟩ (.int .u64 ((hi : Int) * 256 + (x : Int)))).drew = w5 at hR1 hS1 hB1 ⊢
      clear c0 c1 d0 d1 f0 f1 HR1 HS1 HB1 hR hS hB L0
      have c1 : w5.cell? ⟨w.heap.size, 1, none⟩ = some (.int .u64 (lo : Int)) := hR1.cell rfl
      have d1 : w5.cell? ⟨gs, 8 + k, none⟩ = some (.int .u8 (y : Int)) := hS1.cell (by rw [List.getElem?_map, List.getElem?_eq_getElem hk2]; exact congrArg some HY.out)
      have f1 := hR1.frozen 1
      go_wp2_with fail
      go_region
      go_wp2_with fail
      refine ⟨⟨k + 1, by omega, by go_num, ?_, (hS1.other _ (by omega)).drew, (hB1.setCell (Nat.le_refl w.heap.size) _).trans ⟨rfl, rfl, rfl, Nat.le_refl _, fun _ _ => rfl⟩⟩, by simp [intOf]; omega⟩
      rw [H0.out, H1.out]
      exact Blk.drew (Blk.setTo (l := hcells (hi * 256 + x) lo) hR1 (z' := ((lo * 256 + y : Nat) : Int)) (by omega) rfl)
    · have hz : (k : Int) = 8 := by omega
      rw [show k = 8 by omega] at hR
      have HSz2 : Hid ((Tryd.prog.info? 32).map (·.size) = some (hcells (high s 8) (low s 8)).length) := Tryd.size32
      have H1 : Hid (∀ v ∈ hcells (high s 8) (low s 8), v.oneCell' = true) := by intro v hv; simp only [hcells, List.mem_cons, List.not_mem_nil, or_false] at hv; rcases hv with rfl | rfl <;> rfl
      obtain ⟨cs, Hcs⟩ : ∃ cs, Hid (cs = hcells (high s 8) (low s 8)) := ⟨_, rfl⟩
      rw [← Hcs.out] at hR HSz2 H1
      go_wp2_with (first
        | (refine wpList_load_blk (by rfl) 32 (.tmp 2) (by rfl) w.heap.size 32 cs hR (by rfl) _ Tryd.underlying32 rfl HSz2.out ?_)
        | (refine wpList_store_blk (by rfl) 32 (.tmp 2) (.tmp 31) (by rfl) w.heap.size 32 cs cs hR (by rfl) (by rfl) rfl HSz2.out H1.out ?_; intro w9 hR9 hG9))
      refine bodyPost_ret (v := .agg cs.toArray) (results_cell_row (p := 2) (ty := 32) rfl _ _ w.heap.size 32 _ (0, 0) _ rfl hR9 Tryd.underlying32 rfl (by simpa using HSz2.out)) rfl ?_
      rw [Hcs.out, Hs.out]
      exact ⟨rfl, hB.trans (grownTo hG9 (Nat.le_refl _) (Nat.le_of_lt hR.lt))⟩
end Go.Proofs.YtpibpjbeedcefaaDoor
