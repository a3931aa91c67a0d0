/- The walks of term's isFormed, isWhole and free. No condition but that the part lies in memory, and that the tables hold what the program's text lays. -/
import Derived.Test.YtekdalbhgdkckaaGreatDoorNext
import Derived.Test.YtekdalbhgdkckaaGreatDoorOver
namespace Go.Proofs.YtekdalbhgdkckaaGreatDoor
open Go.RowKit

/-- Has it as many Args as its kind names? -/
def Tr.formB (T : Tr) : Bool := decide (tcnt T.k = T.args.length)

/-- Is a text empty? -/
def emB (s : ByteArray) : Bool := decide (s.toList = [])

def varB (T : Tr) : Bool := decide (0 ≤ T.n) && (decide (T.n ≤ 1073741824) && (emB T.s && decide (T.ls.length = 0)))

def sortB (T : Tr) : Bool := decide (T.n = 0) && (emB T.s && decide (T.ls.length = 1))

def constB (T : Tr) : Bool := decide (T.n = 0)

def bareB (T : Tr) : Bool := decide (T.n = 0) && (emB T.s && decide (T.ls.length = 0))

/-- Is it whole, whatever its Args are? -/
def Tr.wholeB (T : Tr) : Bool := T.formB && (if T.k = 0 then varB T else if T.k = 1 then sortB T else if T.k = 2 then constB T else bareB T)

theorem tcnt_in {k : Int} (h : 0 ≤ tcnt k) : 0 ≤ k ∧ k < 7 := by
  unfold tcnt at h
  by_cases h1 : k = 0 ∨ k = 1 ∨ k = 2
  · omega
  · rw [if_neg h1] at h
    by_cases h2 : k = 3 ∨ k = 4 ∨ k = 5
    · omega
    · rw [if_neg h2] at h
      by_cases h3 : k = 6
      · omega
      · rw [if_neg h3] at h; omega

theorem Tr.formB_in {T : Tr} (h : T.formB = true) : 0 ≤ T.k ∧ T.k < 7 := tcnt_in (by unfold Tr.formB at h; simp at h; omega)

set_option maxRecDepth 100000 in
set_option maxHeartbeats 400000 in
theorem isFormed_any (p : Pt) (w : World) (hT : Tabs w) (hc : TCells w p.b p.off p.t) (hle : p.t.args.length ≤ 9223372036854775807) :
    Calls Tryz.prog 108 #[p.val] w fun e w' => e = .returned (.bool p.t.formB) ∧ Below w.heap.size w w' := by
  obtain ⟨b, off, t, d, m⟩ := p
  simp only at *
  have hlb := hc.lt
  have c0 := hc.c0
  have c4 := hc.c4
  unfold Pt.val Tr.formB
  simp only
  generalize t.k = k at *
  generalize t.args.length = len at *
  generalize t.c = cap at *
  generalize t.a = ta at *
  obtain ⟨w1, hw1, hb1, P1, hs1⟩ := one_new w [.pointer (some ⟨b, off, none⟩), .int .i64 (d : Int), .int .i64 (m : Int)] 178
  have p0 := over_cell (P1.cell (j := 0) rfl)
  have p1 := over_cell (P1.cell (j := 1) rfl)
  have p2 := over_cell (P1.cell (j := 2) rfl)
  have C0 := over_cell (((bcell hb1).1 b off hlb).trans c0)
  have C4 := over_cell (((bcell hb1).1 b (off + 4) hlb).trans c4)
  have T1 := hT.on hb1
  have hcall : ∀ u, Calls Tryz.prog 122 #[.agg #[.pointer (some ⟨b, off, none⟩), .int .i64 (d : Int), .int .i64 (m : Int)]] (over w1 u) fun e w'' => e = .returned (.bool (decide (0 ≤ k ∧ k < 7))) ∧ ∃ u', w'' = over w1 u' := fun u => Calls.over (hasKind_any b off d m k (over w1 u) (C0 u))
  by_cases hk : 0 ≤ k ∧ k < 7
  · obtain ⟨j, rfl⟩ : ∃ j : Nat, k = j := ⟨k.toNat, by omega⟩
    have A1 := over_cell (T1.targs j (by omega))
    have hkd : decide (0 ≤ (j : Int) ∧ (j : Int) < 7) = true := by simpa using hk
    rw [hkd] at hcall
    clear hkd
    go_enter Tryz.func108, Tryz.ntmps108
    go_wp2_with fail
    refine wp_region_over w1 (Below.refl _ _) (by kernel_rfl) (by kernel_rfl) ?_
    repeat (go_big_quiet_step (first | (go_at_call 122; exact hcall _)))
    refine wpQuiet_nil ?_
    rintro _ ⟨u, rfl⟩
    go_wp2_with fail
    go_ret
    exact ⟨ret_bool (by rw [Bool.eq_iff_iff]; simp; omega), hb1.trans ((over_below w1 u).mono (by omega))⟩
  · have hkd : decide (0 ≤ k ∧ k < 7) = false := by simpa using hk
    rw [hkd] at hcall
    have hf : decide (tcnt k = (len : Int)) = false := by
      simp only [decide_eq_false_iff_not]
      intro h
      exact hk (tcnt_in (by omega))
    rw [hf]
    clear hk hkd hf
    go_enter Tryz.func108, Tryz.ntmps108
    go_wp2_with fail
    refine wp_region_over w1 (Below.refl _ _) (by kernel_rfl) (by kernel_rfl) ?_
    repeat (go_big_quiet_step (first | (go_at_call 122; exact hcall _)))
    refine wpQuiet_nil ?_
    rintro _ ⟨u, rfl⟩
    go_wp2_with fail
    go_ret
    exact ⟨rfl, hb1.trans ((over_below w1 u).mono (by omega))⟩

set_option maxRecDepth 100000 in
set_option maxHeartbeats 400000 in
theorem isWholeVar_any (p : Pt) (w : World) (hc : TCells w p.b p.off p.t) (hl : p.t.ls.length ≤ 9223372036854775807) :
    Calls Tryz.prog 104 #[p.val] w fun e w' => e = .returned (.bool (varB p.t)) ∧ Below w.heap.size w w' := by
  obtain ⟨b, off, t, d, m⟩ := p
  simp only at *
  have hlb := hc.lt
  have c1 := hc.c1
  have c2 := hc.c2
  have c3 := hc.c3
  unfold Pt.val varB
  simp only
  generalize t.n = n at *
  generalize t.s = s at *
  generalize t.ls.length = len at *
  generalize t.lc = cap at *
  generalize t.la = ta at *
  obtain ⟨w1, hw1, hb1, P1, hs1⟩ := one_new w [.pointer (some ⟨b, off, none⟩), .int .i64 (d : Int), .int .i64 (m : Int)] 178
  have p0 := P1.cell (j := 0) rfl
  have p1 := P1.cell (j := 1) rfl
  have p2 := P1.cell (j := 2) rfl
  have C1 := ((bcell hb1).1 b (off + 1) hlb).trans c1
  have C2 := ((bcell hb1).1 b (off + 2) hlb).trans c2
  have C3 := ((bcell hb1).1 b (off + 3) hlb).trans c3
  go_enter Tryz.func104, Tryz.ntmps104
  go_wp2_with fail
  all_goals
    go_ret
    exact ⟨ret_bool (by unfold emB; rw [Bool.eq_iff_iff]; simp_all <;> omega), hb1⟩

set_option maxRecDepth 100000 in
set_option maxHeartbeats 400000 in
theorem isWholeSort_any (p : Pt) (w : World) (hc : TCells w p.b p.off p.t) (hl : p.t.ls.length ≤ 9223372036854775807) :
    Calls Tryz.prog 105 #[p.val] w fun e w' => e = .returned (.bool (sortB p.t)) ∧ Below w.heap.size w w' := by
  obtain ⟨b, off, t, d, m⟩ := p
  simp only at *
  have hlb := hc.lt
  have c1 := hc.c1
  have c2 := hc.c2
  have c3 := hc.c3
  unfold Pt.val sortB
  simp only
  generalize t.n = n at *
  generalize t.s = s at *
  generalize t.ls.length = len at *
  generalize t.lc = cap at *
  generalize t.la = ta at *
  obtain ⟨w1, hw1, hb1, P1, hs1⟩ := one_new w [.pointer (some ⟨b, off, none⟩), .int .i64 (d : Int), .int .i64 (m : Int)] 178
  have p0 := P1.cell (j := 0) rfl
  have p1 := P1.cell (j := 1) rfl
  have p2 := P1.cell (j := 2) rfl
  have C1 := ((bcell hb1).1 b (off + 1) hlb).trans c1
  have C2 := ((bcell hb1).1 b (off + 2) hlb).trans c2
  have C3 := ((bcell hb1).1 b (off + 3) hlb).trans c3
  go_enter Tryz.func105, Tryz.ntmps105
  go_wp2_with fail
  all_goals
    go_ret
    exact ⟨ret_bool (by unfold emB; rw [Bool.eq_iff_iff]; simp_all <;> omega), hb1⟩

set_option maxRecDepth 100000 in
set_option maxHeartbeats 400000 in
theorem isWholeConst_any (p : Pt) (w : World) (hc : TCells w p.b p.off p.t) (hl : p.t.ls.length ≤ 9223372036854775807) :
    Calls Tryz.prog 106 #[p.val] w fun e w' => e = .returned (.bool (constB p.t)) ∧ Below w.heap.size w w' := by
  obtain ⟨b, off, t, d, m⟩ := p
  simp only at *
  have hlb := hc.lt
  have c1 := hc.c1
  have c2 := hc.c2
  have c3 := hc.c3
  unfold Pt.val constB
  simp only
  generalize t.n = n at *
  generalize t.s = s at *
  generalize t.ls.length = len at *
  generalize t.lc = cap at *
  generalize t.la = ta at *
  obtain ⟨w1, hw1, hb1, P1, hs1⟩ := one_new w [.pointer (some ⟨b, off, none⟩), .int .i64 (d : Int), .int .i64 (m : Int)] 178
  have p0 := P1.cell (j := 0) rfl
  have p1 := P1.cell (j := 1) rfl
  have p2 := P1.cell (j := 2) rfl
  have C1 := ((bcell hb1).1 b (off + 1) hlb).trans c1
  have C2 := ((bcell hb1).1 b (off + 2) hlb).trans c2
  have C3 := ((bcell hb1).1 b (off + 3) hlb).trans c3
  go_enter Tryz.func106, Tryz.ntmps106
  go_wp2_with fail
  all_goals
    go_ret
    exact ⟨ret_bool (by rw [Bool.eq_iff_iff]; simp_all <;> omega), hb1⟩

set_option maxRecDepth 100000 in
set_option maxHeartbeats 400000 in
theorem isBare_any (p : Pt) (w : World) (hc : TCells w p.b p.off p.t) (hl : p.t.ls.length ≤ 9223372036854775807) :
    Calls Tryz.prog 107 #[p.val] w fun e w' => e = .returned (.bool (bareB p.t)) ∧ Below w.heap.size w w' := by
  obtain ⟨b, off, t, d, m⟩ := p
  simp only at *
  have hlb := hc.lt
  have c1 := hc.c1
  have c2 := hc.c2
  have c3 := hc.c3
  unfold Pt.val bareB
  simp only
  generalize t.n = n at *
  generalize t.s = s at *
  generalize t.ls.length = len at *
  generalize t.lc = cap at *
  generalize t.la = ta at *
  obtain ⟨w1, hw1, hb1, P1, hs1⟩ := one_new w [.pointer (some ⟨b, off, none⟩), .int .i64 (d : Int), .int .i64 (m : Int)] 178
  have p0 := P1.cell (j := 0) rfl
  have p1 := P1.cell (j := 1) rfl
  have p2 := P1.cell (j := 2) rfl
  have C1 := ((bcell hb1).1 b (off + 1) hlb).trans c1
  have C2 := ((bcell hb1).1 b (off + 2) hlb).trans c2
  have C3 := ((bcell hb1).1 b (off + 3) hlb).trans c3
  go_enter Tryz.func107, Tryz.ntmps107
  go_wp2_with fail
  all_goals
    go_ret
    exact ⟨ret_bool (by unfold emB; rw [Bool.eq_iff_iff]; simp_all <;> omega), hb1⟩

end Go.Proofs.YtekdalbhgdkckaaGreatDoor
