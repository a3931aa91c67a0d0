/- The walk of digest.(*state).take: bytes are put behind those that came before. No condition but that the state is one, that the bytes lie below it, and that there are at most 2^40. -/
import Derived.Test.YtpibpjbeedcefaaDoorClear
namespace Go.Proofs.YtpibpjbeedcefaaDoor
open Go.RowKit

theorem absorb_append (m : Nat) (bs cs : List UInt8) (h : 64 * m ≤ bs.length) : absorb m (bs ++ cs) = absorb m bs := by
  induction m with
  | zero => rfl
  | succ m ih =>
    unfold absorb
    rw [ih (by omega)]
    congr 1
    rw [List.drop_append_of_le_length (by omega), List.take_append_of_le_length (by simp; omega)]

def TakenIs (bs blk : List UInt8) : Prop := blk.take (bs.length % 64) = bs.drop (64 * (bs.length / 64))
structure Taken (w : World) (g : Nat) (bs : List UInt8) (len : Nat) (blk : List UInt8) : Prop where
  st : St w g (absorb (bs.length / 64) bs) blk (bs.length % 64) len
  is : TakenIs bs blk

theorem put_take (blk cs : List UInt8) (r : Nat) (hl : r + cs.length ≤ blk.length) : (put blk r cs).take (r + cs.length) = blk.take r ++ cs := by
  unfold put splice
  have e : (blk.take r ++ cs).length = r + cs.length := by rw [List.length_append, List.length_take]; omega
  rw [← List.append_assoc, List.take_append_of_le_length (by omega), List.take_of_length_le (by omega)]

theorem taken_some {bs blk cs : List UInt8} (h : TakenIs bs blk) (hl : blk.length = 64) (hc : bs.length % 64 + cs.length < 64) :
    (bs ++ cs).length / 64 = bs.length / 64 ∧ (bs ++ cs).length % 64 = bs.length % 64 + cs.length ∧ absorb ((bs ++ cs).length / 64) (bs ++ cs) = absorb (bs.length / 64) bs ∧ TakenIs (bs ++ cs) (put blk (bs.length % 64) cs) := by
  have e1 : (bs ++ cs).length / 64 = bs.length / 64 := by rw [List.length_append]; omega
  have e2 : (bs ++ cs).length % 64 = bs.length % 64 + cs.length := by rw [List.length_append]; omega
  refine ⟨e1, e2, by rw [e1]; exact absorb_append _ _ _ (by omega), ?_⟩
  unfold TakenIs at h ⊢
  rw [e1, e2, put_take _ _ _ (by omega), h, List.drop_append_of_le_length (by omega)]

theorem taken_full {bs blk cs : List UInt8} (h : TakenIs bs blk) (hl : blk.length = 64) (hc : bs.length % 64 + cs.length = 64) :
    (bs ++ cs).length % 64 = 0 ∧ absorb ((bs ++ cs).length / 64) (bs ++ cs) = comp (absorb (bs.length / 64) bs) (put blk (bs.length % 64) cs) ∧ ∀ b, TakenIs (bs ++ cs) b := by
  have e1 : (bs ++ cs).length / 64 = bs.length / 64 + 1 := by rw [List.length_append]; omega
  have e2 : (bs ++ cs).length % 64 = 0 := by rw [List.length_append]; omega
  have e3 : (put blk (bs.length % 64) cs).length = 64 := by unfold put; rw [splice_length _ _ _ (by omega)]; exact hl
  refine ⟨e2, ?_, fun b => ?_⟩
  · rw [e1]
    show comp (absorb (bs.length / 64) (bs ++ cs)) _ = _
    rw [absorb_append _ _ _ (by omega)]
    congr 1
    have h1 := put_take blk cs (bs.length % 64) (by omega)
    rw [List.take_of_length_le (by omega)] at h1
    rw [h1, h, List.drop_append_of_le_length (by omega), List.take_of_length_le (by simp; omega)]
  · unfold TakenIs
    rw [e2, List.take_zero, List.drop_eq_nil_of_le (by omega)]

/-- What a copy takes of bytes that can be read. -/
theorem Rd.srcs {w : World} {ao : Option Addr} {n cap : Nat} {bs : List UInt8} (h : Rd w ao n cap bs) (k : Nat) (hk : k ≤ n) (hpos : 0 < k) : ∃ ad, ao = some ad ∧ ∀ j v, ((bs.take k).map bval)[j]? = some v → w.cell? (ad.add j) = some v := by
  cases ao with
  | none => have := h.nil rfl; have := h.le; omega
  | some a =>
    refine ⟨a, rfl, fun j v hv => ?_⟩
    rw [List.getElem?_map] at hv
    cases hj : (bs.take k)[j]? with
    | none => rw [hj] at hv; cases hv
    | some u =>
      rw [hj] at hv
      simp only [Option.map_some, Option.some.injEq] at hv
      subst hv
      have hjk : j < k := by have := (List.getElem?_eq_some_iff.1 hj).1; simp at this; omega
      rw [List.getElem?_take_of_lt hjk] at hj
      exact h.cells a rfl j u hj

def lenOf : Value → Nat
  | .slice _ n _ => n
  | _ => 0

/-- Below g. -/
def Low (n : Nat) (ao : Option Addr) (g : Nat) : Prop := 0 < n → ∀ a, ao = some a → a.block < g

theorem Rd.lowSize {w : World} {ao : Option Addr} {n cap : Nat} {bs : List UInt8} (h : Rd w ao n cap bs) : Low n ao w.heap.size := fun h0 a ha => by
  have hl := h.len
  have h1 := h.cells a ha 0 (bs[0]'(by omega)) (List.getElem?_eq_getElem _)
  have h2 := World.block_lt_of_cell? w _ h1
  unfold Addr.add at h2
  split at h2 <;> simpa using h2

theorem Rd.low {w w' : World} {ao : Option Addr} {n cap g : Nat} {bs : List UInt8} (h : Rd w ao n cap bs) (hl : Low n ao g) (hb : ∀ k, k < g → w'.heap[k]? = w.heap[k]?) : Rd w' ao n cap bs :=
  ⟨h.len, h.le, h.max, h.nil, fun a ha j u hu => by
    have h1 := h.cells a ha j u hu
    refine (World.cell?_of_block ?_).trans h1
    refine hb _ ?_
    have hj : j < bs.length := (List.getElem?_eq_some_iff.1 hu).1
    have := hl (by have := h.len; omega) a ha
    unfold Addr.add
    split <;> simpa using this⟩

/-- What is left behind the first k. -/
theorem Rd.rest {w : World} {b off n cap : Nat} {bs : List UInt8} (h : Rd w (some ⟨b, off, none⟩) n cap bs) (k : Nat) (hk : k ≤ n) : Rd w (if cap = k then some ⟨b, off, none⟩ else some ⟨b, off + k, none⟩) (n - k) (cap - k) (bs.drop k) := by
  have hle := h.le
  have hmax := h.max
  have hlen := h.len
  by_cases e : cap = k
  · obtain rfl : n = k := by omega
    rw [if_pos e, List.drop_eq_nil_of_le (by omega)]
    subst e
    rw [Nat.sub_self]
    exact Rd.none' _ _
  · rw [if_neg e]
    have := h.cut (w := w) k (n - k) (cap - k) (by omega) (by omega) (by omega)
    rwa [List.take_of_length_le (by simp; omega)] at this
theorem low_if {b off k g n m : Nat} (h : Low n (some ⟨b, off, none⟩) g) (hn : m ≤ n) (c : Prop) [Decidable c] : Low m (if c then some ⟨b, off, none⟩ else some ⟨b, off + k, none⟩) g := by
  intro h0 a ha
  have := h (by omega) _ rfl
  split at ha
  · obtain rfl : ⟨b, off, none⟩ = a := by simpa using ha
    exact this
  · obtain rfl : ⟨b, off + k, none⟩ = a := by simpa using ha
    exact this

set_option maxRecDepth 100000 in
set_option maxHeartbeats 1000000 in
theorem take_any (g : Nat) (bs ps blk : List UInt8) (len : Nat) (ao : Option Addr) (n cap : Nat) (w : World) (h : Taken w g bs len blk) (hk : Keys w) (hg : 0 < g) (hr : Rd w ao n cap ps) (hlow : Low n ao g) (hn : n ≤ 1099511627776) (hlen : len ≤ 1099511627776) :
    Calls Tryd.prog 21 #[.pointer (some ⟨g, 0, none⟩), .slice ao n cap] w fun e w' => e = .returned (.tuple #[]) ∧ (∃ blk', Taken w' g (bs ++ ps) (len + n) blk') ∧ Below g w w' := by
  have hc73 := h.st.lenAt
  have hf73 := h.st.row.frozen 73
  go_enter Tryd.func21, Tryd.ntmps21
  go_wp2_with fail
  have hS0 : St (w.setCell ⟨g, 73, none⟩ (.int .u64 ((len : Int) + (n : Int)))) g (absorb (bs.length / 64) bs) blk (bs.length % 64) (len + n) := h.st.setLen (by omega)
  have hB0 : Below g w (w.setCell ⟨g, 73, none⟩ (.int .u64 ((len : Int) + (n : Int)))) := (Below.refl g w).setCell (Nat.le_refl g) _
  have hsz5 : (Tryd.prog.info? 5).map (·.size) = some 1 := by kernel_rfl
  have HS5 : Hid _ := hsz5
  clear hsz5
  go_loopw [1] (fun s1 wr => ∃ (m : Nat) (ao' : Option Addr) (c' : Nat) (blk' : List UInt8), m ≤ n ∧ s1 = .slice ao' (n - m) c' ∧ Rd wr ao' (n - m) c' (ps.drop m) ∧ Low (n - m) ao' g ∧ Taken wr g (bs ++ ps.take m) (len + n) blk' ∧ Below g w wr) (fun s1 _ => lenOf s1)
  case atStart => exact ⟨0, ao, cap, blk, by omega, rfl, by simpa using hr.low hlow hB0.block, hlow, by simpa using ⟨hS0, h.is⟩, hB0⟩
  case round =>
    have HPS : Hid (ps.length = n) := hr.len
    clear hS0 hB0 hr hc73 hf73 h
    obtain ⟨m, ao', c', blk', hm, rfl, hr, hl, hT, hb⟩ := hrel
    have hKr := hk.below hb hg
    by_cases hlt : m < n
    · obtain ⟨b, off, rfl, _, _⟩ := hr.at (show 0 < n - m by omega)
      have hle := hr.le
      have hcmax := hr.max
      unfold maxLen at hcmax
      obtain ⟨r, Hr⟩ : ∃ r, Hid (r = (bs ++ ps.take m).length % 64) := ⟨_, rfl⟩
      have hr64 : r < 64 := by rw [Hr.out]; omega
      have hS := hT.st
      have hTI : Hid _ := hT.is
      rw [← Hr.out] at hS
      obtain ⟨k, Hk⟩ : ∃ k, Hid (k = Nat.min (n - m) (64 - r)) := ⟨_, rfl⟩
      have hk1 : k ≤ n - m := by rw [Hk.out]; exact Nat.min_le_left _ _
      have hk2 : k ≤ 64 - r := by rw [Hk.out]; exact Nat.min_le_right _ _
      have hk0 : 0 < k := by rw [Hk.out]; exact Nat.lt_min.2 ⟨by omega, by omega⟩
      have hc72 := hS.heldAt
      have hf72 := hS.row.frozen 72
      have hsl := sliceAt_l g 8 r (r : Int) rfl hr64
      obtain ⟨cs, Hcs⟩ : ∃ cs, Hid (cs = (ps.drop m).take k) := ⟨_, rfl⟩
      have hcl : cs.length = k := by rw [Hcs.out, List.length_take, List.length_drop, HPS.out]; omega
      have C1 : Hid ((cs.map bval).length = Nat.min (n - m) (64 - r)) := by unfold Hid; rw [← Hk.out, List.length_map, hcl]
      have C2 : Hid (∃ ad, some (⟨b, off, none⟩ : Addr) = some ad ∧ ∀ j v, (cs.map bval)[j]? = some v → wr.drew.cell? (ad.add j) = some v) := by rw [Hcs.out]; exact hr.srcs k (by omega) hk0
      have C3 : Hid (8 + r + (cs.map bval).length ≤ (stCells (absorb ((bs ++ ps.take m).length / 64) (bs ++ ps.take m)) blk' r (len + n)).length) := by
        unfold Hid; rw [C1.out, ← Hk.out, stCells_length hS.l64]; omega
      have C4 : Hid (∀ v ∈ cs.map bval, v.oneCell' = true) := one_bytes _
      have C5 : Hid (Below g w wr.drew) := hb.trans ⟨rfl, rfl, rfl, Nat.le_refl _, fun _ _ => rfl⟩
      have C6 : Hid (wr.drew.heap[g]? = some (.cells (stCells (absorb ((bs ++ ps.take m).length / 64) (bs ++ ps.take m)) blk' r (len + n)).toArray 49 (0, 0))) := hS.row
      go_wp2_with fail
      go_region_law ((refine step_copy_splice rfl (.tmp 25) (.tmp 26) 23 23 rfl 5 Tryd.underlying23 HS5.out (some ⟨g, 8 + r, none⟩) (some ⟨b, off, none⟩) (64 - r) (64 - r) (n - m) c' (by rfl) (by rfl) g (8 + r) _ 49 C6.out (cs.map bval) C1.out (fun _ => ⟨rfl, C2.out⟩) C3.out C4.out g w C5.out (Nat.le_refl _) ?_; intro w2 hg2 hb2))
      have hS2 : St w2 g _ (put blk' r cs) r (len + n) := hS.splice r cs (by omega) hg2.out
      have hr2 := hr.low hl (w' := w2) (fun k hk => (hb2.block k hk).trans (hb.block k hk).symm)
      have hk2' := hk.below hb2 hg
      have hc72 := hS2.heldAt
      have hf72 := hS2.row.frozen 72
      have hS3 : St (w2.setCell ⟨g, 72, none⟩ (.int .i64 ((r : Int) + (k : Int)))) g _ (put blk' r cs) (r + k) (len + n) := hS2.setHeld (by omega)
      have hB3 : Below g w (w2.setCell ⟨g, 72, none⟩ (.int .i64 ((r : Int) + (k : Int)))) := hb2.setCell (Nat.le_refl g) _
      have hK3 := hk.below hB3 hg
      have hr3 := hr2.low hl (w' := w2.setCell ⟨g, 72, none⟩ (.int .i64 ((r : Int) + (k : Int)))) (fun k hk => (hB3.block k hk).trans (hb2.block k hk).symm)
      have hN := hr3.rest k (by omega)
      have HE : Hid (bs ++ ps.take m ++ cs = bs ++ ps.take (m + k)) := by unfold Hid; rw [Hcs.out, List.append_assoc, ← List.take_add]
      have HL : Hid (cs.length = k) := hcl
      have hl3 := low_if (k := k) (m := n - (m + k)) hl (by omega) (c' = k)
      rw [List.drop_drop, show n - m - k = n - (m + k) by omega] at hN
      clear C1 C2 C3 C4 C5 C6 hg2 hS hsl hcl hr hr2 hr3 hb2 hKr hS2 hk2'
      by_cases hfull : r + k = 64
      · have HX := taken_full hTI.out hT.st.l64 (cs := cs) (by rw [HL.out, ← Hr.out]; exact hfull)
        obtain ⟨x1, x2, x3⟩ := HX
        rw [HE.out] at x1 x2 x3
        rw [← Hr.out] at x2
        have X1 : Hid _ := x1
        have X2 : Hid _ := x2
        have X3 : Hid _ := x3
        clear x1 x2 x3
        by_cases hck : c' = k
        · rw [if_pos hck, show c' - k = 0 by omega] at hN
          rw [if_pos hck] at hl3
          subst hck
          go_wp2_with fail
          refine (mix_any g _ _ _ _ _ hS3 hK3).mono ?_
          rintro e w4 ⟨rfl, hS4, hG4⟩
          have hB4 := hB3.trans (grownTo hG4 (Nat.le_refl g) (Nat.le_of_lt hS3.lt))
          go_wp2_with fail
          refine ⟨⟨m + c', _, _, put blk' r cs, by omega, by rw [show n - (m + c') = 0 by omega], ?_, hl3, ⟨?_, X3.out _⟩, hB4⟩, by simp [lenOf]; omega⟩
          · exact hN.low hl3 (fun k hk => (hB4.block k hk).trans (hB3.block k hk).symm)
          · rw [X1.out, X2.out]; exact hS4
        · rw [if_neg hck] at hN hl3
          go_wp2_with fail
          refine (mix_any g _ _ _ _ _ hS3 hK3).mono ?_
          rintro e w4 ⟨rfl, hS4, hG4⟩
          have hB4 := hB3.trans (grownTo hG4 (Nat.le_refl g) (Nat.le_of_lt hS3.lt))
          go_wp2_with fail
          refine ⟨⟨m + k, _, _, put blk' r cs, by omega, by rw [show n - m - k = n - (m + k) by omega], ?_, hl3, ⟨?_, X3.out _⟩, hB4⟩, by simp [lenOf]; omega⟩
          · exact hN.low hl3 (fun k hk => (hB4.block k hk).trans (hB3.block k hk).symm)
          · rw [X1.out, X2.out]; exact hS4
      · have HX := taken_some hTI.out hT.st.l64 (cs := cs) (by rw [HL.out, ← Hr.out]; omega)
        obtain ⟨_, x1, x2, x3⟩ := HX
        rw [HE.out] at x1 x2 x3
        rw [← Hr.out, HL.out] at x1
        rw [← Hr.out] at x3
        have X1 : Hid _ := x1
        have X2 : Hid _ := x2
        have X3 : Hid _ := x3
        clear x1 x2 x3
        by_cases hck : c' = k
        · rw [if_pos hck, show c' - k = 0 by omega] at hN
          rw [if_pos hck] at hl3
          subst hck
          go_wp2_with fail
          refine ⟨⟨m + c', _, _, put blk' r cs, by omega, by rw [show n - (m + c') = 0 by omega], hN, hl3, ⟨?_, X3.out⟩, hB3⟩, by simp [lenOf]; omega⟩
          rw [X1.out, X2.out]; exact hS3
        · rw [if_neg hck] at hN hl3
          go_wp2_with fail
          refine ⟨⟨m + k, _, _, put blk' r cs, by omega, by rw [show n - m - k = n - (m + k) by omega], hN, hl3, ⟨?_, X3.out⟩, hB3⟩, by simp [lenOf]; omega⟩
          rw [X1.out, X2.out]; exact hS3
    · obtain rfl : m = n := by omega
      have hT2 : Taken wr g (bs ++ ps) (len + m) blk' := by rw [List.take_of_length_le (by rw [HPS.out]; exact Nat.le_refl _)] at hT; exact hT
      go_wp2_with fail
      go_end0
      exact ⟨rfl, ⟨_, hT2⟩, hb⟩
end Go.Proofs.YtpibpjbeedcefaaDoor
