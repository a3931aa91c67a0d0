/- The walks of level's room, May and walks. No condition but that what was given is a level in memory, and that argCounts holds what the program's text lays. -/
import Derived.Test.YtekdalbhgdkckaaGreatDoorLRMay
import Derived.Deep.RegionHeld3
namespace Go.Proofs.YtekdalbhgdkckaaGreatDoor
open Go.RowKit

/-- A room's cells. -/
def rcells (P D q U : Int) : List Value := [.int .i64 P, .int .i64 D, .int .i64 q, .int .i64 U]

set_option maxRecDepth 100000 in
set_option maxHeartbeats 400000 in
theorem number_any (k n : Int) (args : List Lv) (a : Option Addr) (cap : Nat) (g : Nat) (P D q U : Int) (w : World) (B : Nat) (hN : Node w (· < B) k n args a cap) (hg : Blk w g 217 (rcells P D q U)) (hU0 : 0 ≤ U) (hU1 : U ≤ 65536) (hq : q ≤ 65536) :
    Calls Tryz.prog 135 #[.pointer (some ⟨g, 0, none⟩), .agg #[.int .i64 k, .int .i64 n, .slice a args.length cap]] w fun e w' => e = .returned (.bool (numB q k n)) ∧ Keep w w' (· = g) ∧
      ∃ U', Blk w' g 217 (rcells P D q U') ∧ (numB q k n = true → U' = max U (if k = 4 then n + 1 else 0)) := by
  have hk0 := hN.k0
  have hk1 := hN.k1
  have hn0 := hN.n0
  have hn1 := hN.n1
  have hlt := hg.lt
  by_cases h4 : k = 4
  · subst h4
    have g2 := hg.cell (j := 2) rfl
    have g3 := hg.cell (j := 3) rfl
    have f3 := hg.frozen 3
    have fin : ∀ (X : Int), Keep w (((w.setCell ⟨g, 3, none⟩ (.int .i64 X)).alloc (.cells #[.int .i64 4, .int .i64 n, .slice a args.length cap] 92))) (· = g) ∧
        Blk (((w.setCell ⟨g, 3, none⟩ (.int .i64 X)).alloc (.cells #[.int .i64 4, .int .i64 n, .slice a args.length cap] 92))) g 217 (rcells P D q X) := fun X =>
      ⟨(((Keep.refl w (· = g)).setCell (g := g) (fun _ => rfl) 3 _).alloc _), ((hg.set 3 _).alloc _)⟩
    by_cases h0 : 0 ≤ n
    · have hd : decide (0 ≤ n) = true := by simpa using h0
      by_cases hnq : n < q
      · have HN : Hid (numB q 4 n = true) := by show _ = _; unfold numB; simp [h0, hnq]
        by_cases hUn : U < n + 1
        · go_enter Tryz.func135, Tryz.ntmps135
          go_wp2_with fail
          go_region
          go_wp2_with fail
          go_quiet (fail)
          go_wp2_with fail
          go_ret
          exact ⟨ret_bool HN.out.symm, (fin _).1.drewN _, _, (fin _).2.drewN _, fun _ => by omega⟩
        · go_enter Tryz.func135, Tryz.ntmps135
          go_wp2_with fail
          go_region
          go_wp2_with fail
          go_quiet (fail)
          go_wp2_with fail
          go_ret
          exact ⟨ret_bool HN.out.symm, (fin _).1.drewN _, _, (fin _).2.drewN _, fun _ => by omega⟩
      · have HN : Hid (numB q 4 n = false) := by show _ = _; unfold numB; simp [hnq]
        by_cases hUn : U < wrap64 (n + 1)
        · go_enter Tryz.func135, Tryz.ntmps135
          go_wp2_with fail
          go_region
          go_wp2_with fail
          go_quiet (fail)
          go_wp2_with fail
          go_ret
          exact ⟨ret_bool (by rw [HN.out]; simpa using hnq), (fin _).1.drewN _, _, (fin _).2.drewN _, fun h => by rw [HN.out] at h; cases h⟩
        · go_enter Tryz.func135, Tryz.ntmps135
          go_wp2_with fail
          go_region
          go_wp2_with fail
          go_quiet (fail)
          go_wp2_with fail
          go_ret
          exact ⟨ret_bool (by rw [HN.out]; simpa using hnq), (fin _).1.drewN _, _, (fin _).2.drewN _, fun h => by rw [HN.out] at h; cases h⟩
    · have hd : decide (0 ≤ n) = false := by simpa using h0
      have HN : Hid (numB q 4 n = false) := by show _ = _; unfold numB; simp [h0]
      have hUn : ¬ U < n + 1 := by omega
      go_enter Tryz.func135, Tryz.ntmps135
      go_wp2_with fail
      go_region
      go_wp2_with fail
      go_quiet (fail)
      go_wp2_with fail
      go_ret
      exact ⟨ret_bool HN.out.symm, (fin _).1.drewN _, _, (fin _).2.drewN _, fun h => by rw [HN.out] at h; cases h⟩
  · go_enter Tryz.func135, Tryz.ntmps135
    go_wp2_with fail
    go_ret
    refine ⟨ret_bool ?_, (Keep.refl _ _).alloc _, U, hg.alloc _, fun _ => by omega⟩
    unfold numB
    rw [if_neg h4]
    exact (Bool.beq_eq_decide_eq n 0)

/-- What holds answers, and leaves of the room. -/
structure HP (w w' : World) (g : Nat) (P D q U : Int) (r : Bool) (size used : Int) : Prop where
  keep : Keep w w' (· = g)
  room : ∃ P' U', Blk w' g 217 (rcells P' D q U') ∧ (r = true → P' = P - size ∧ U' = max U used)

def holdB (q D : Int) (d : Nat) (P : Int) (L : Lv) : Bool := L.ok q D d && decide ((L.size : Int) ≤ P)

theorem Lv.useds_le {q : Int} (hq : 0 ≤ q) (l : List Lv) (h : ∀ L ∈ l, L.used ≤ q) : Lv.useds l ≤ q := by
  induction l with
  | nil => simpa [Lv.useds] using hq
  | cons x r ihr =>
    simp only [Lv.useds]
    have h2 := h x (by simp)
    have h3 := ihr (fun L hL => h L (by simp [hL]))
    omega

theorem Lv.used_le {q D : Int} (hq : 0 ≤ q) (L : Lv) : ∀ d, L.ok q D d = true → L.used ≤ q := by
  refine Lv.ind (P := fun L => ∀ d, L.ok q D d = true → L.used ≤ q) ?_ L
  intro k n args ih d h
  rw [Lv.ok_mk] at h
  simp only [Bool.and_eq_true] at h
  obtain ⟨⟨_, hn⟩, ho⟩ := h
  rw [Lv.oks_iff] at ho
  rw [Lv.used_mk]
  have h1 : Lv.useds args ≤ q := Lv.useds_le hq args (fun L hL => ih L hL _ (ho L hL))
  unfold numB at hn
  split at hn
  · simp at hn; split <;> omega
  · split <;> omega

theorem holdB_bad {q D : Int} {d : Nat} {P : Int} {k n : Int} {args : List Lv} {j : Nat} {L : Lv} (hL : args[j]? = some L) (h : holdB q D (d + 1) (P - 1 - Lv.sizes (args.take j)) L = false) : holdB q D d P (.mk k n args) = false := by
  unfold holdB at h ⊢
  rw [Lv.ok_mk, Lv.size_mk]
  by_cases ho : L.ok q D (d + 1) = true
  · rw [ho] at h
    simp at h
    have h1 := Lv.sizes_take hL
    have h2 := Lv.sizes_take_le args (j + 1)
    have : ¬ ((Lv.sizes args + 1 : Nat) : Int) ≤ P := by omega
    rw [decide_eq_false this, Bool.and_false]
  · have : L.ok q D (d + 1) = false := by simpa using ho
    rw [Lv.oks_false hL this]
    simp

set_option maxRecDepth 100000 in
set_option maxHeartbeats 1000000 in
theorem holds_node (k n q D : Int) (args : List Lv) (d : Nat) (g : Nat) (hq0 : 0 ≤ q) (hq : q ≤ 65536) (hD : D ≤ 65536) (hd : d ≤ 65537)
    (ih : ∀ L ∈ args, ∀ (P U : Int) (w : World) (B : Nat) (v : Value), P ≤ 65536 → 0 ≤ P → 0 ≤ U → U ≤ 65536 → d + 1 ≤ 65537 → 5 ≤ B → B ≤ g → Tabs w → In w (· < B) L v → Blk w g 217 (rcells P D q U) →
      Calls Tryz.prog 130 #[.pointer (some ⟨g, 0, none⟩), v, .int .i64 ((d + 1 : Nat) : Int)] w fun e w' => e = .returned (.bool (holdB q D (d + 1) P L)) ∧ HP w w' g P D q U (holdB q D (d + 1) P L) L.size L.used)
    (P U : Int) (w : World) (B : Nat) (a : Option Addr) (cap : Nat) (hP : P ≤ 65536) (_hP0 : 0 ≤ P) (hU0 : 0 ≤ U) (hU1 : U ≤ 65536) (hB2 : 5 ≤ B) (hB : B ≤ g) (hT : Tabs w) (hN : Node w (· < B) k n args a cap) (hg : Blk w g 217 (rcells P D q U)) :
    Calls Tryz.prog 130 #[.pointer (some ⟨g, 0, none⟩), .agg #[.int .i64 k, .int .i64 n, .slice a args.length cap], .int .i64 (d : Int)] w fun e w' => e = .returned (.bool (holdB q D d P (.mk k n args))) ∧ HP w w' g P D q U (holdB q D d P (.mk k n args)) (Lv.mk k n args).size (Lv.mk k n args).used := by
  have hle := hN.le
  have hmx := hN.max
  have hk0 := hN.k0
  have hk1 := hN.k1
  have hn0 := hN.n0
  have hn1 := hN.n1
  have hlt := hg.lt
  have g0 := hg.cell (j := 0) rfl
  have g1 := hg.cell (j := 1) rfl
  have f0 := hg.frozen 0
  have hsp := Lv.size_pos (Lv.mk k n args)
  -- every way out with false
  have no : holdB q D d P (.mk k n args) = false → ∀ w' P' U', Keep w w' (· = g) → Blk w' g 217 (rcells P' D q U') → HP w w' g P D q U (holdB q D d P (.mk k n args)) (Lv.mk k n args).size (Lv.mk k n args).used :=
    fun h w' P' U' hk hb => ⟨hk, P', U', hb, fun e => by rw [h] at e; cases e⟩
  by_cases hP1 : P ≤ 0
  · have HR : Hid (holdB q D d P (.mk k n args) = false) := by show _ = _; unfold holdB; simp; omega
    go_enter Tryz.func130, Tryz.ntmps130
    go_wp2_with fail
    go_ret
    exact ⟨ret_bool HR.out.symm, no HR.out _ _ _ ((Keep.refl _ _).alloc _) (hg.alloc _)⟩
  by_cases hdD : D < (d : Int)
  · have HR : Hid (holdB q D d P (.mk k n args) = false) := by show _ = _; unfold holdB; rw [Lv.ok_mk]; simp; omega
    go_enter Tryz.func130, Tryz.ntmps130
    go_wp2_with fail
    go_ret
    exact ⟨ret_bool HR.out.symm, no HR.out _ _ _ ((Keep.refl _ _).alloc _) (hg.alloc _)⟩
  -- the world behind the first step
  obtain ⟨w1, hw1, K1, R1, X1, T1, S1⟩ : ∃ w1, (w.setCell ⟨g, 0, none⟩ (.int .i64 (P - 1))).alloc (.cells #[.int .i64 k, .int .i64 n, .slice a args.length cap] 92) = w1 ∧ Keep w w1 (· = g) ∧ Blk w1 g 217 (rcells (P - 1) D q U) ∧
      Blk w1 w.heap.size 92 [.int .i64 k, .int .i64 n, .slice a args.length cap] ∧ Tabs w1 ∧ w1.heap.size = w.heap.size + 1 := by
    have hK : Keep w ((w.setCell ⟨g, 0, none⟩ (.int .i64 (P - 1))).alloc (.cells #[.int .i64 k, .int .i64 n, .slice a args.length cap] 92)) (· = g) := ((Keep.refl w (· = g)).setCell (g := g) (fun _ => rfl) 0 _).alloc _
    refine ⟨_, rfl, hK, (hg.set 0 _).alloc _, ?_, hT.keep hK (by omega), by simp [World.setCell]⟩
    have := Blk.new (w.setCell ⟨g, 0, none⟩ (.int .i64 (P - 1))) 92 [.int .i64 k, .int .i64 n, .slice a args.length cap]
    simpa [World.setCell] using this
  have x0 := X1.cell (j := 0) rfl
  have x1 := X1.cell (j := 1) rfl
  have x2 := X1.cell (j := 2) rfl
  by_cases hk : k < 0
  · have HR : Hid (holdB q D d P (.mk k n args) = false) := by show _ = _; unfold holdB; rw [Lv.ok_mk, show cnt k = -1 by unfold cnt; rw [if_neg (by omega), if_neg (by omega), if_neg (by omega)]]; simp
    have hd' : decide (k < 0) = true := by simpa using hk
    go_enter Tryz.func130, Tryz.ntmps130
    go_wp2_with fail
    go_quiet (fail)
    go_wp2_with fail
    go_ret
    exact ⟨ret_bool HR.out.symm, no HR.out _ _ _ (K1.drewN _) (R1.drewN _)⟩
  have hd' : decide (k < 0) = false := by simpa using hk
  by_cases hk5 : 5 ≤ k
  · have HR : Hid (holdB q D d P (.mk k n args) = false) := by show _ = _; unfold holdB; rw [Lv.ok_mk, show cnt k = -1 by unfold cnt; rw [if_neg (by omega), if_neg (by omega), if_neg (by omega)]]; simp
    have hd5 : decide (5 ≤ k) = true := by simpa using hk5
    go_enter Tryz.func130, Tryz.ntmps130
    go_wp2_with fail
    go_quiet (fail)
    go_wp2_with fail
    go_ret
    exact ⟨ret_bool HR.out.symm, no HR.out _ _ _ (K1.drewN _) (R1.drewN _)⟩
  have hd5 : decide (5 ≤ k) = false := by simpa using hk5
  obtain ⟨m, rfl⟩ : ∃ m : Nat, k = m := ⟨k.toNat, by omega⟩
  have t0 := T1.counts m (by omega)
  by_cases hc : cnt (m : Int) = args.length
  · have hcc : ((args.length : Int) != cnt (m : Int)) = false := by rw [hc]; simp
    have N1 : Node w1.drew (· < B) (m : Int) n args a cap := (hN.keep K1 (by omega) (by omega)).carry (fun _ _ => rfl) (fun _ h => h)
    by_cases hnum : numB q (m : Int) n = true
    · go_enter Tryz.func130, Tryz.ntmps130
      go_wp2_with fail
      go_region_held3 (fun w' => w'.cell? ⟨w.heap.size, 0, none⟩ = some (.int .i64 (m : Int)) ∧ w'.cell? ⟨w.heap.size, 1, none⟩ = some (.int .i64 n) ∧ w'.cell? ⟨w.heap.size, 2, none⟩ = some (.slice a args.length cap) ∧ w'.cell? ⟨3, m, none⟩ = some (.int .i64 (cnt (m : Int)))) (go_keep)
        ((go_at_call 135; refine (number_any (m : Int) n args a cap g (P - 1) D q U w1.drew B N1 R1.drew hU0 hU1 hq).mono ?_; rintro e w2 ⟨rfl, K2, U2, R2, hU2⟩; have X2 := X1.drew.keep K2 (by omega); have y0 := X2.cell (j := 0) rfl; have y1 := X2.cell (j := 1) rfl; have y2 := X2.cell (j := 2) rfl; have y3 := (T1.keep (Keep.trans (Keep.drew (Keep.refl w1 _)) K2 (fun _ _ h => h)) (by omega)).counts m (by omega)))
      have K3 : Keep w w2 (· = g) := K1.drew.trans K2 (fun _ _ h => h)
      have HU : Hid (U2 = max U (if (m : Int) = 4 then n + 1 else 0)) := hU2 hnum
      have hown : (if (m : Int) = 4 then n + 1 else 0) ≤ q := by
        unfold numB at hnum
        split at hnum
        · simp at hnum; rw [if_pos ‹_›]; omega
        · rw [if_neg ‹_›]; exact hq0
      have HO : Hid ((m : Int) ≤ 4 ∧ U2 ≤ 65536 ∧ 0 ≤ U2 ∧ cnt (m : Int) = args.length ∧ numB q (m : Int) n = true) := ⟨by omega, by have := HU.out; omega, by have := HU.out; omega, hc, hnum⟩
      clear K1 K2 R1 X1 X2 T1 S1 x0 x1 x2 y0 y1 y3 t0 hw1 hd' hd5 hcc N1 hU2 hown hc hnum
      go_wp2_with fail
      go_loopw [56] (fun i wr => ∃ (j : Nat) (P' U' : Int), i = .int .i64 (j : Int) ∧ j ≤ args.length ∧ Lv.oks q D (d + 1) (args.take j) = true ∧ P' = P - 1 - Lv.sizes (args.take j) ∧ 0 ≤ P' ∧ U' = max U2 (Lv.useds (args.take j)) ∧ U' ≤ 65536 ∧ Blk wr g 217 (rcells P' D q U') ∧ Keep w wr (· = g)) (fun i _ => args.length - (intOf i).toNat)
      case atStart => exact ⟨0, P - 1, U2, rfl, by omega, by simp [Lv.oks], by simp [Lv.sizes], by omega, by have := HO.out.2.2.1; simp [Lv.useds]; omega, HO.out.2.1, R2, K3⟩
      case round =>
        clear K3 R2
        obtain ⟨j, P', U', rfl, hj, hok, hPe, hPp, hUe, hUl, hR, hK⟩ := hrel
        have HE : Hid (Lv.oks q D (d + 1) (args.take j) = true ∧ P' = P - 1 - Lv.sizes (args.take j) ∧ U' = max U2 (Lv.useds (args.take j))) := ⟨hok, hPe, hUe⟩
        have hU'0 : 0 ≤ U' := by have := HO.out.2.2.1; omega
        have hP'1 : P' ≤ 65536 := by omega
        clear hok hPe hUe
        have hsz : w.heap.size ≤ wr.heap.size := hK.size
        by_cases hltj : j < args.length
        · obtain ⟨L, hL⟩ : ∃ L, args[j]? = some L := ⟨_, List.getElem?_eq_getElem hltj⟩
          obtain ⟨b, off, k', n', args', a', cap', rfl, hS, rfl, e0, e1, e2, hN'⟩ := (hN.keep hK (by omega) (by omega)).get hL
          have HL : Hid (args[j]? = some (.mk k' n' args')) := hL
          clear hL
          have hKa : ∀ w3, Keep (wr.alloc (.cells #[.int .i64 k', .int .i64 n', .slice a' args'.length cap'] 92)) w3 (· = g) → Keep w w3 (· = g) := fun w3 h => (hK.alloc _).trans h (fun _ _ h => h)
          cases hr : holdB q D (d + 1) P' (.mk k' n' args') with
          | true =>
            go_wp2_with (go_at_call 130; rw [show ((d : Int) + 1) = ((d + 1 : Nat) : Int) by omega]; go_must (refine (ih _ (List.mem_of_getElem? HL.out) P' U' _ B _ (by omega) (by omega) (by omega) (by omega) (by omega) hB2 hB ((hT.keep hK (by omega)).alloc _) (hN'.below ((Below.refl _ _).alloc (Nat.le_refl _) _) (by omega)).is (hR.alloc _)).mono ?_); rintro e w3 ⟨rfl, hh⟩)
            go_roundw
            case rel =>
              obtain ⟨o1, o2, o3⟩ := HE.out
              obtain ⟨P3, U3, hR3, hv⟩ := hh.room
              obtain ⟨rfl, rfl⟩ := hv hr
              have hr' := hr
              unfold holdB at hr'
              simp only [Bool.and_eq_true, decide_eq_true_eq] at hr'
              have s1 := Lv.sizes_take HL.out
              have s2 := Lv.useds_take HL.out
              have s3 := Lv.used_le hq0 _ _ hr'.1
              exact ⟨j + 1, _, _, by go_num, by omega, Lv.oks_take_succ HL.out o1 hr'.1, by omega, by omega, by omega, by omega, hR3, hKa _ hh.keep⟩
            case measure => simp [intOf]; omega
          | false =>
            go_wp2_with (go_at_call 130; rw [show ((d : Int) + 1) = ((d + 1 : Nat) : Int) by omega]; go_must (refine (ih _ (List.mem_of_getElem? HL.out) P' U' _ B _ (by omega) (by omega) (by omega) (by omega) (by omega) hB2 hB ((hT.keep hK (by omega)).alloc _) (hN'.below ((Below.refl _ _).alloc (Nat.le_refl _) _) (by omega)).is (hR.alloc _)).mono ?_); rintro e w3 ⟨rfl, hh⟩)
            go_ret
            have hbad : holdB q D d P (.mk m n args) = false := holdB_bad HL.out (by rw [← HE.out.2.1]; exact hr)
            obtain ⟨P3, U3, hR3, _⟩ := hh.room
            exact ⟨ret_bool hbad.symm, no hbad _ _ _ (hKa _ hh.keep) hR3⟩
        · go_wp2_with fail
          go_ret
          obtain ⟨o1, o2, o3⟩ := HE.out
          obtain ⟨p1, p2, p3, p4, p5⟩ := HO.out
          have q1 := HU.out
          rw [List.take_of_length_le (by omega)] at o1 o2 o3
          have hgood : holdB q D d P (.mk m n args) = true := by
            unfold holdB
            rw [Lv.ok_mk, Lv.size_mk, o1, p5, p4]
            simp; omega
          refine ⟨ret_bool hgood.symm, hK, P', U', hR, fun _ => ?_⟩
          rw [Lv.size_mk, Lv.used_mk]
          constructor <;> omega
    · have hnum' : numB q (m : Int) n = false := by simpa using hnum
      clear hnum
      have HR : Hid (holdB q D d P (.mk m n args) = false) := by show _ = _; unfold holdB; rw [Lv.ok_mk]; simp [hnum']
      go_enter Tryz.func130, Tryz.ntmps130
      go_wp2_with fail
      go_region_held3 (fun w' => w'.cell? ⟨w.heap.size, 0, none⟩ = some (.int .i64 (m : Int)) ∧ w'.cell? ⟨w.heap.size, 1, none⟩ = some (.int .i64 n) ∧ w'.cell? ⟨w.heap.size, 2, none⟩ = some (.slice a args.length cap) ∧ w'.cell? ⟨3, m, none⟩ = some (.int .i64 (cnt (m : Int)))) (go_keep)
        ((go_at_call 135; refine (number_any (m : Int) n args a cap g (P - 1) D q U w1.drew B N1 R1.drew hU0 hU1 hq).mono ?_; rintro e w2 ⟨rfl, K2, U2, R2, hU2⟩; have X2 := X1.drew.keep K2 (by omega); have y0 := X2.cell (j := 0) rfl; have y1 := X2.cell (j := 1) rfl; have y2 := X2.cell (j := 2) rfl; have y3 := (T1.keep (Keep.trans (Keep.drew (Keep.refl w1 _)) K2 (fun _ _ h => h)) (by omega)).counts m (by omega)))
      go_wp2_with fail
      go_ret
      exact ⟨ret_bool HR.out.symm, no HR.out _ _ _ (K1.drew.trans K2 (fun _ _ h => h)) R2⟩
  · have HR : Hid (holdB q D d P (.mk m n args) = false) := by show _ = _; unfold holdB; rw [Lv.ok_mk]; simp [hc]
    have hcc : ((args.length : Int) != cnt (m : Int)) = true := by simp; omega
    go_enter Tryz.func130, Tryz.ntmps130
    go_wp2_with fail
    go_quiet (fail)
    go_wp2_with fail
    go_ret
    exact ⟨ret_bool HR.out.symm, no HR.out _ _ _ (K1.drewN _) (R1.drewN _)⟩

theorem holds_any (q D : Int) (g : Nat) (hq0 : 0 ≤ q) (hq : q ≤ 65536) (hD : D ≤ 65536) (L : Lv) : ∀ (d : Nat) (P U : Int) (w : World) (B : Nat) (v : Value), P ≤ 65536 → 0 ≤ P → 0 ≤ U → U ≤ 65536 → d ≤ 65537 → 5 ≤ B → B ≤ g → Tabs w → In w (· < B) L v → Blk w g 217 (rcells P D q U) →
      Calls Tryz.prog 130 #[.pointer (some ⟨g, 0, none⟩), v, .int .i64 (d : Int)] w fun e w' => e = .returned (.bool (holdB q D d P L)) ∧ HP w w' g P D q U (holdB q D d P L) L.size L.used := by
  refine Lv.ind (P := fun L => ∀ (d : Nat) (P U : Int) (w : World) (B : Nat) (v : Value), P ≤ 65536 → 0 ≤ P → 0 ≤ U → U ≤ 65536 → d ≤ 65537 → 5 ≤ B → B ≤ g → Tabs w → In w (· < B) L v → Blk w g 217 (rcells P D q U) →
      Calls Tryz.prog 130 #[.pointer (some ⟨g, 0, none⟩), v, .int .i64 (d : Int)] w fun e w' => e = .returned (.bool (holdB q D d P L)) ∧ HP w w' g P D q U (holdB q D d P L) L.size L.used) ?_ L
  intro k n args ih d P U w B v hP hP0 hU0 hU1 hd hB2 hB hT hin hg
  obtain ⟨a, cap, rfl, hN⟩ := hin.node
  exact holds_node k n q D args d g hq0 hq hD hd (fun L hL P U w B v h1 h1' h2 h3 h4 h5 h6 h7 h8 h9 => ih L hL (d + 1) P U w B v h1 h1' h2 h3 h4 h5 h6 h7 h8 h9) P U w B a cap hP hP0 hU0 hU1 hB2 hB hT hN hg

end Go.Proofs.YtekdalbhgdkckaaGreatDoor
