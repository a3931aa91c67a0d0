/- The walks of digest.begin and digest.Sum: the sum of all bytes of the parts, one behind the other. No condition but that the parts can be read, that roundWords holds the table, and that there are at most 2^40 bytes in at most 2^40 parts. -/
import Derived.Test.YtpibpjbeedcefaaDoorEnd
namespace Go.Proofs.YtpibpjbeedcefaaDoor
open Go.RowKit

theorem h0_ok : h0.ok := by intro x hx; revert x; decide
theorem st_one (v : V8) (blk : List UInt8) (a b : Nat) : ∀ x ∈ stCells v blk a b, x.oneCell' = true := by
  intro x hx
  unfold stCells at hx
  rcases List.mem_append.1 hx with h | h
  · exact one_u32s _ x h
  · rcases List.mem_append.1 h with h | h
    · exact one_bytes _ x h
    · simp at h
      rcases h with rfl | rfl <;> rfl

section
variable {P : Program}
theorem wpList_build_list {ops : Array Oper} {rest : List Oper} {o : Oper} {a : Act} {w : World} {Q : Exit → Act → World → Prop} (hg : o.guard = none) (t : TypeId) (parts : List (Nat × Operand)) (ho : o.op = .build t parts.toArray) (cells : List Value)
    (hb : P.built t (parts.map fun (i, x) => (i, a.eval x)) = some cells.toArray) (h : wpList P ops Q rest (a.put o.dst (.agg cells.toArray)) w) : wpList P ops Q (o :: rest) a w := by
  have e : (parts.toArray.map fun (i, x) => (i, a.eval x)).toList = parts.map fun (i, x) => (i, a.eval x) := by simp
  exact wpList_build hg t parts.toArray ho (by rw [e, hb]; rfl) (by rw [e, hb]; exact h)
end

set_option maxRecDepth 100000 in
set_option maxHeartbeats 1000000 in
theorem begin_any (w : World) : Calls Tryd.prog 20 #[] w fun e w' => e = .returned (.agg (stCells h0 (zeros 64) 0 0).toArray) ∧ Below w.heap.size w w' := by
  obtain ⟨zs, Hzs⟩ : ∃ zs, Hid (zs = stCells ⟨0, 0, 0, 0, 0, 0, 0, 0⟩ (zeros 64) 0 0) := ⟨_, rfl⟩
  have hz49 : ∀ w : World, (zeroValue 49).run Tryd.prog w = .ok (.agg zs.toArray) w := by rw [Hzs.out]; exact (zero_of_info (n := 74) (by kernel_rfl)).1
  obtain ⟨hs, Hhs⟩ : ∃ hs, Hid (hs = stCells h0 (zeros 64) 0 0) := ⟨_, rfl⟩
  have HB : Hid (Tryd.prog.built 49 [(0, .agg #[.int .u32 1779033703, .int .u32 3144134277, .int .u32 1013904242, .int .u32 2773480762, .int .u32 1359893119, .int .u32 2600822924, .int .u32 528734635, .int .u32 1541459225])] = some hs.toArray) := by
    rw [Hhs.out]
    unfold Hid
    kernel_rfl
  have HL : Hid (hs.length = zs.length) := by unfold Hid; rw [Hhs.out, Hzs.out, stCells_length (by simp [zeros]), stCells_length (by simp [zeros])]
  have HSz : Hid ((Tryd.prog.info? 49).map (·.size) = some hs.length) := by unfold Hid; rw [Hhs.out, stCells_length (by simp [zeros])]; exact Tryd.size49
  have H1 : Hid (∀ v ∈ hs, v.oneCell' = true) := by rw [Hhs.out]; exact st_one _ _ _ _
  rw [← Hhs.out]
  go_enter Tryd.func20, Tryd.ntmps20
  go_wp2_with (first
    | (refine wpList_build_list (by rfl) 49 [(0, .tmp 1)] (by rfl) hs HB.out ?_)
    | (refine wpList_store_new (by rfl) 49 (.tmp 0) (.tmp 2) (by rfl) w zs hs (by rfl) (by rfl) HL.out HSz.out H1.out ?_; intro w2 hW2 hb2))
  refine bodyPost_ret (v := .agg hs.toArray) (results_cell_row (p := 0) (ty := 49) rfl _ _ w.heap.size 49 _ (0, 0) _ rfl hW2 Tryd.underlying49 rfl (by simpa using HSz.out)) rfl ?_
  exact ⟨rfl, hb2⟩

/-- A part: a slice value that reads as bytes that lie below g. -/
def Part (w : World) (g : Nat) (v : Value) (bs : List UInt8) : Prop := ∃ a n c, v = .slice a n c ∧ Rd w a n c bs ∧ Low n a g

/-- Parts, all below g. -/
structure Parts (w : World) (g : Nat) (ao : Option Addr) (n cap : Nat) (ls : List (List UInt8)) : Prop where
  len : ls.length = n
  le : n ≤ cap
  max : cap ≤ maxLen
  cell : ∀ i l, ls[i]? = some l → ∃ b off v, ao = some ⟨b, off, none⟩ ∧ b < g ∧ w.cell? ⟨b, off + i, none⟩ = some v ∧ Part w g v l

theorem Part.low {w w' : World} {g : Nat} {v : Value} {bs : List UInt8} (h : Part w g v bs) (hb : ∀ k, k < g → w'.heap[k]? = w.heap[k]?) : Part w' g v bs := by
  obtain ⟨a, n, c, h1, h2, h3⟩ := h
  exact ⟨a, n, c, h1, h2.low h3 hb, h3⟩
theorem Low.mono {n : Nat} {ao : Option Addr} {g g' : Nat} (h : Low n ao g) (hg : g ≤ g') : Low n ao g' := fun h0 a ha => Nat.lt_of_lt_of_le (h h0 a ha) hg
theorem Part.mono {w : World} {g g' : Nat} {v : Value} {bs : List UInt8} (h : Part w g v bs) (hg : g ≤ g') : Part w g' v bs := by
  obtain ⟨a, n, c, h1, h2, h3⟩ := h
  exact ⟨a, n, c, h1, h2, h3.mono hg⟩
theorem Parts.low {w w' : World} {g : Nat} {ao : Option Addr} {n cap : Nat} {ls : List (List UInt8)} (h : Parts w g ao n cap ls) (hb : ∀ k, k < g → w'.heap[k]? = w.heap[k]?) : Parts w' g ao n cap ls :=
  ⟨h.len, h.le, h.max, fun i l hl => by
    obtain ⟨b, off, v, h1, h2, h3, h4⟩ := h.cell i l hl
    exact ⟨b, off, v, h1, h2, (World.cell?_of_block (hb b h2)).trans h3, h4.low hb⟩⟩

theorem taken_start {w : World} {g : Nat} (h : Blk w g 49 (stCells h0 (zeros 64) 0 0)) : Taken w g [] 0 (zeros 64) :=
  ⟨⟨h, h0_ok, by simp [zeros]⟩, rfl⟩

theorem flat_take (ls : List (List UInt8)) (k : Nat) (l : List UInt8) (h : ls[k]? = some l) : (ls.take (k + 1)).flatten = (ls.take k).flatten ++ l := by
  rw [List.take_add_one, h]
  simp
theorem flat_le (ls : List (List UInt8)) (k : Nat) : (ls.take k).flatten.length ≤ ls.flatten.length := by
  conv => rhs; rw [← List.take_append_drop k ls]
  rw [List.flatten_append, List.length_append]
  omega

set_option maxRecDepth 100000 in
set_option maxHeartbeats 1000000 in
theorem sum_any (ao : Option Addr) (n cap : Nat) (ls : List (List UInt8)) (w : World) (h : Parts w w.heap.size ao n cap ls) (hk : Keys w) (hn : n ≤ 1099511627776) (ht : ls.flatten.length ≤ 1099511627776) :
    Calls Tryd.prog 10 #[.slice ao n cap] w fun e w' => e = .returned (.agg ((sha ls.flatten).map bval).toArray) ∧ Below w.heap.size w w' := by
  obtain ⟨zs, Hzs⟩ : ∃ zs, Hid (zs = (List.range 32).map bz) := ⟨_, rfl⟩
  have hz27 : ∀ w : World, (zeroValue 27).run Tryd.prog w = .ok (.agg zs.toArray) w := by rw [Hzs.out]; exact (zero_of_info (n := 32) (by kernel_rfl)).1
  obtain ⟨ys, Hys⟩ : ∃ ys, Hid (ys = stCells ⟨0, 0, 0, 0, 0, 0, 0, 0⟩ (zeros 64) 0 0) := ⟨_, rfl⟩
  have hz49 : ∀ w : World, (zeroValue 49).run Tryd.prog w = .ok (.agg ys.toArray) w := by rw [Hys.out]; exact (zero_of_info (n := 74) (by kernel_rfl)).1
  have HL : Hid ((stCells h0 (zeros 64) 0 0).length = ys.length) := by unfold Hid; rw [Hys.out, stCells_length (by simp [zeros]), stCells_length (by simp [zeros])]
  have HSz : Hid ((Tryd.prog.info? 49).map (·.size) = some (stCells h0 (zeros 64) 0 0).length) := by unfold Hid; rw [stCells_length (by simp [zeros])]; exact Tryd.size49
  have H1 : Hid (∀ v ∈ stCells h0 (zeros 64) 0 0, v.oneCell' = true) := st_one _ _ _ _
  have hO0 : Blk (w.alloc (.cells zs.toArray 27)) w.heap.size 27 zs := Blk.new _ _ _
  have hB0 : Below w.heap.size w (w.alloc (.cells zs.toArray 27)) := (Below.refl _ _).alloc (Nat.le_refl _) _
  have hs0 : (w.alloc (.cells zs.toArray 27)).heap.size = w.heap.size + 1 := by simp
  go_enter Tryd.func10, Tryd.ntmps10
  go_wp2_with fail
  generalize w.alloc (.cells zs.toArray 27) = w1 at hO0 hB0 hs0 ⊢
  refine (begin_any w1).mono ?_
  rintro e w2 ⟨rfl, hb2⟩
  have hO2 := hO0.below hb2 (by omega)
  have hB2 := hB0.trans (hb2.mono (by omega))
  have hs2 := hb2.size
  have hT0 := fun w3 (x : Blk w3 w2.heap.size 49 (stCells h0 (zeros 64) 0 0)) => taken_start x
  generalize stCells h0 (zeros 64) 0 0 = cs at HL HSz H1 hT0 ⊢
  clear hO0 hB0 hb2
  go_wp2_with (refine wpList_store_new (by rfl) 49 (.tmp 3) (.tmp 6) (by rfl) w2 ys cs (by rfl) (by rfl) HL.out HSz.out H1.out ?_; intro w3 hW3 hb3)
  have hT := hT0 w3 hW3
  have hg0 : 0 < w2.heap.size := by omega
  have hB3 : Below w.heap.size w w3 := hB2.trans (hb3.mono (by omega))
  have hO3 := hO2.below hb3 (by omega)
  have hK3 := hk.below hB3 hk.lt
  have hP3 := h.low hB3.block
  have hwg : w.heap.size < w2.heap.size := by omega
  have hsz3 := hW3.lt
  generalize w2.heap.size = g at hT hg0 hwg hsz3 ⊢
  clear hT0 HL HSz H1 hW3 hb3 hs2 hB2 hO2 hz27 hz49 h hk hs0
  go_loopw [9] (fun s9 wr => ∃ (k : Nat) (blk : List UInt8), k ≤ n ∧ s9 = .int .i64 (k : Int) ∧ Taken wr g (ls.take k).flatten (ls.take k).flatten.length blk ∧ Below g w3 wr) (fun s9 _ => n - (intOf s9).toNat)
  case atStart => exact ⟨0, _, by omega, rfl, by simpa using hT, Below.refl _ _⟩
  case round =>
    clear hT
    obtain ⟨k, blk, hkn, rfl, hT, hB⟩ := hrel
    have hfl := flat_le ls k
    by_cases hlt : k < n
    · obtain ⟨l, hl⟩ : ∃ l, ls[k]? = some l := ⟨_, List.getElem?_eq_getElem (by rw [hP3.len]; exact hlt)⟩
      have hP := hP3.low (w' := wr) (fun j hj => hB.block j (by omega))
      obtain ⟨b, off, v, rfl, hbg, hc, a, m, c, rfl, hr, hlow⟩ := hP.cell k l hl
      have hfl2 := flat_le ls (k + 1)
      have HF : Hid _ := flat_take ls k l hl
      rw [HF.out, List.length_append, hr.len] at hfl2
      have hK := hK3.below hB hg0
      have hnc := hP3.le
      have hcm := hP3.max
      unfold maxLen at hcm
      clear hl hP
      go_wp2_with fail
      refine (take_any g _ l blk _ a m c wr hT hK hg0 hr (hlow.mono (by omega)) (by omega) (by omega)).mono ?_
      rintro e w5 ⟨rfl, ⟨blk', hT5⟩, hB5⟩
      go_wp2_with fail
      refine ⟨⟨k + 1, blk', by omega, by go_num, ?_, hB.trans hB5⟩, by simp [intOf]; omega⟩
      rw [HF.out, List.length_append, hr.len]
      exact hT5
    · have hz : (k : Int) = n := by omega
      have hT2 : Taken wr g ls.flatten ls.flatten.length blk := by rw [List.take_of_length_le (by rw [hP3.len]; omega)] at hT; exact hT
      have hO4 := hO3.below hB (by omega)
      have HSz : Hid ((Tryd.prog.info? 27).map (·.size) = some ((sha ls.flatten).map bval).length) := by unfold Hid; rw [List.length_map, sha_length]; exact Tryd.size27
      have HLz : Hid (((sha ls.flatten).map bval).length = zs.length) := by unfold Hid; rw [Hzs.out, List.length_map, sha_length]; simp
      go_wp2_with fail
      refine (end_any g ls.flatten blk _ wr hT2 (hK3.below hB hg0) hg0 (by omega) rfl).mono ?_
      rintro e w5 ⟨rfl, hB5⟩
      have hO5 := hO4.below hB5 (by omega)
      have hB6 : Below w.heap.size w w5 := hB3.trans ((hB.trans hB5).mono (by omega))
      go_wp2_with (refine wpList_store_blk (by rfl) 27 (.tmp 2) (.tmp 16) (by rfl) w.heap.size 27 zs _ hO5 (by rfl) (by rfl) HLz.out HSz.out (one_bytes _) ?_; intro w9 hO9 hG9)
      refine bodyPost_ret (v := .agg ((sha ls.flatten).map bval).toArray) (results_cell_row (p := 2) (ty := 27) rfl _ _ w.heap.size 27 _ (0, 0) (.array 32 5) rfl hO9 Tryd.underlying27 rfl (by simpa using HSz.out)) rfl ?_
      exact ⟨rfl, hB6.trans (grownTo hG9 (Nat.le_refl _) (Nat.le_of_lt hO5.lt))⟩
end Go.Proofs.YtpibpjbeedcefaaDoor
