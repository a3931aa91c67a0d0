/- The walks of package text's reader as far as a name asks them: isLetter, isDigit, byteAt, next, isInName, name, isName. No condition. -/
import Derived.Test.YtekdalbhgdkckaaGreatDoorCl
import Derived.BigQuiet
import Derived.Deep.QuietTactic
namespace Go.Proofs.YtekdalbhgdkckaaGreatDoor
open Go.RowKit

/-- The byte at a place, 0 where there is none. -/
def bt (s : List UInt8) (i : Nat) : Nat := (s.getD i 0).toNat

def isL (c : Nat) : Bool := (decide (97 ≤ c) && decide (c ≤ 122)) || (decide (65 ≤ c) && decide (c ≤ 90))

def isD (c : Nat) : Bool := decide (48 ≤ c) && decide (c ≤ 57)

/-- Does the byte at i go on with a name? -/
def inN (s : List UInt8) (i : Nat) : Bool := isL (bt s i) || isD (bt s i) || decide (bt s i = 95) || (decide (bt s i = 46) && isL (bt s (i + 1)))

theorem bt_lt (s : List UInt8) (i : Nat) : bt s i < 256 := by unfold bt; exact UInt8.toNat_lt _

theorem bt_end {s : List UInt8} {i : Nat} (h : s.length ≤ i) : bt s i = 0 := by unfold bt; rw [List.getD_eq_getElem?_getD, List.getElem?_eq_none h]; rfl

theorem inN_end {s : List UInt8} {i : Nat} (h : s.length ≤ i) : inN s i = false := by unfold inN; rw [bt_end h]; simp [isL, isD]

theorem letter_any (c : Nat) (w : World) : Calls Tryz.prog 127 #[.int .u8 (c : Int)] w fun e w' => e = .returned (.bool (isL c)) ∧ w = w' := by
  obtain ⟨r, hr⟩ : ∃ r, isL c = r := ⟨_, rfl⟩
  rw [hr]
  unfold isL at hr
  by_cases h97 : 97 ≤ c
  · have d97 : decide ((97 : Int) ≤ (c : Int)) = true := by simp; omega
    by_cases h122 : c ≤ 122
    · have d122 : decide ((c : Int) ≤ (122 : Int)) = true := by simp; omega
      obtain rfl : true = r := by rw [← hr]; simp [h97, h122]
      clear hr
      go_enter Tryz.func127, Tryz.ntmps127
      go_wp2_with fail
      go_ret
      exact ⟨by simp, rfl⟩
    · have d122 : decide ((c : Int) ≤ (122 : Int)) = false := by simp; omega
      have d65 : decide ((65 : Int) ≤ (c : Int)) = true := by simp; omega
      have d90 : decide ((c : Int) ≤ (90 : Int)) = false := by simp; omega
      obtain rfl : false = r := by rw [← hr]; simp [h122]; omega
      clear hr
      go_enter Tryz.func127, Tryz.ntmps127
      go_wp2_with fail
      go_ret
      exact ⟨by simp, rfl⟩
  · have d97 : decide ((97 : Int) ≤ (c : Int)) = false := by simp; omega
    by_cases h65 : 65 ≤ c
    · have d65 : decide ((65 : Int) ≤ (c : Int)) = true := by simp; omega
      by_cases h90 : c ≤ 90
      · have d90 : decide ((c : Int) ≤ (90 : Int)) = true := by simp; omega
        obtain rfl : true = r := by rw [← hr]; simp [h65, h90]
        clear hr
        go_enter Tryz.func127, Tryz.ntmps127
        go_wp2_with fail
        go_ret
        exact ⟨by simp, rfl⟩
      · have d90 : decide ((c : Int) ≤ (90 : Int)) = false := by simp; omega
        obtain rfl : false = r := by rw [← hr]; simp [h97, h90]
        clear hr
        go_enter Tryz.func127, Tryz.ntmps127
        go_wp2_with fail
        go_ret
        exact ⟨by simp, rfl⟩
    · have d65 : decide ((65 : Int) ≤ (c : Int)) = false := by simp; omega
      obtain rfl : false = r := by rw [← hr]; simp [h97, h65]
      clear hr
      go_enter Tryz.func127, Tryz.ntmps127
      go_wp2_with fail
      go_ret
      exact ⟨by simp, rfl⟩

theorem digit_any (c : Nat) (w : World) : Calls Tryz.prog 140 #[.int .u8 (c : Int)] w fun e w' => e = .returned (.bool (isD c)) ∧ w = w' := by
  obtain ⟨r, hr⟩ : ∃ r, isD c = r := ⟨_, rfl⟩
  rw [hr]
  unfold isD at hr
  by_cases h48 : 48 ≤ c
  · have d48 : decide ((48 : Int) ≤ (c : Int)) = true := by simp; omega
    by_cases h57 : c ≤ 57
    · have d57 : decide ((c : Int) ≤ (57 : Int)) = true := by simp; omega
      obtain rfl : true = r := by rw [← hr]; simp [h48, h57]
      clear hr
      go_enter Tryz.func140, Tryz.ntmps140
      go_wp2_with fail
      go_ret
      exact ⟨by simp, rfl⟩
    · have d57 : decide ((c : Int) ≤ (57 : Int)) = false := by simp; omega
      obtain rfl : false = r := by rw [← hr]; simp [h57]
      clear hr
      go_enter Tryz.func140, Tryz.ntmps140
      go_wp2_with fail
      go_ret
      exact ⟨by simp, rfl⟩
  · have d48 : decide ((48 : Int) ≤ (c : Int)) = false := by simp; omega
    obtain rfl : false = r := by rw [← hr]; simp [h48]
    clear hr
    go_enter Tryz.func140, Tryz.ntmps140
    go_wp2_with fail
    go_ret
    exact ⟨by simp, rfl⟩

/-- A reader of the text s that stands at i. -/
def rcl (s : List UInt8) (i : Nat) (f p : Int) : List Value := [.string ⟨s.toArray⟩, .int .i64 (i : Int), .int .i64 f, .int .i64 p, .map none, .map none, .int .i64 0, .int .i64 0]

set_option maxRecDepth 100000 in
theorem byteAt_any (g : Nat) (s : List UInt8) (at_ i : Nat) (f p : Int) (w : World) (hg : Blk w g 211 (rcl s at_ f p)) (_hs : s.length ≤ 1000000000) :
    Calls Tryz.prog 132 #[.pointer (some ⟨g, 0, none⟩), .int .i64 (i : Int)] w fun e w' => e = .returned (.int .u8 (bt s i : Int)) ∧ w = w' := by
  have c0 := hg.cell (j := 0) rfl
  have hsz : (ByteArray.mk s.toArray).size = s.length := by simp [ByteArray.size]
  by_cases hi : s.length ≤ i
  · have hd : decide ((s.length : Int) ≤ (i : Int)) = true := by simp; omega
    rw [bt_end hi]
    clear hg
    go_enter Tryz.func132, Tryz.ntmps132
    go_wp2_with fail
    go_ret
    exact ⟨rfl, rfl⟩
  · have hd : decide ((s.length : Int) ≤ (i : Int)) = false := by simp; omega
    have hil : i < s.length := by omega
    clear hg
    go_enter Tryz.func132, Tryz.ntmps132
    go_wp2_with fail
    go_ret
    exact ⟨ret_int (by simp only [bt, List.getD_eq_getElem?_getD, List.getElem?_eq_getElem hil, Option.getD_some]; rfl), rfl⟩

set_option maxRecDepth 100000 in
theorem next_any (g : Nat) (s : List UInt8) (i : Nat) (f p : Int) (w : World) (hg : Blk w g 211 (rcl s i f p)) (hs : s.length ≤ 1000000000) :
    Calls Tryz.prog 128 #[.pointer (some ⟨g, 0, none⟩)] w fun e w' => e = .returned (.int .u8 (bt s i : Int)) ∧ w = w' := by
  have c1 := hg.cell (j := 1) rfl
  have h := byteAt_any g s i i f p w hg hs
  clear hg
  go_enter Tryz.func128, Tryz.ntmps128
  go_wp2_with (go_at_call 132; refine h.mono ?_; rintro e w' ⟨rfl, rfl⟩)
  go_ret
  exact ⟨rfl, rfl⟩

set_option maxRecDepth 100000 in
set_option maxHeartbeats 4000000 in
theorem inName_any (g : Nat) (s : List UInt8) (i : Nat) (f p : Int) (w : World) (hg : Blk w g 211 (rcl s i f p)) (hs : s.length ≤ 1000000000) (hi : i ≤ 1000000000) :
    Calls Tryz.prog 133 #[.pointer (some ⟨g, 0, none⟩)] w fun e w' => e = .returned (.bool (inN s i)) ∧ w = w' := by
  have c1 := hg.cell (j := 1) rfl
  have h95 := next_any g s i f p w hg hs
  have h99 := byteAt_any g s i (i + 1) f p w hg hs
  obtain ⟨r, hr⟩ : ∃ r, inN s i = r := ⟨_, rfl⟩
  rw [hr]
  unfold inN at hr
  obtain ⟨d, hd⟩ : ∃ d, bt s (i + 1) = d := ⟨_, rfl⟩
  rw [hd] at hr h99
  obtain ⟨c, hc⟩ : ∃ c, bt s i = c := ⟨_, rfl⟩
  rw [hc] at hr h95
  have hL := fun w => letter_any c w
  have hD := fun w => digit_any c w
  have hL2 := fun w => letter_any d w
  have hi1 : ((i : Int) + 1) = ((i + 1 : Nat) : Int) := by omega
  rw [← hi1] at h99
  clear hg hi1
  generalize isL d = l2 at *
  generalize isL c = l1 at *
  generalize isD c = d1 at *
  by_cases h1 : c = 95
  · have e95 : ((c : Int) == 95) = true := by simp; omega
    have e46 : ((c : Int) == 46) = false := by simp; omega
    obtain rfl : true = r := by rw [← hr]; simp [h1]
    clear hr hc hd h1
    cases l1 <;> cases d1
    all_goals
      (go_enter Tryz.func133, Tryz.ntmps133
       go_wp2_with (first | (go_at_call 128; refine h95.mono ?_; rintro e w' ⟨rfl, rfl⟩) | (go_at_call 127; with_reducible refine (hL _).mono ?_; rintro e w' ⟨rfl, rfl⟩) | (go_at_call 140; refine (hD _).mono ?_; rintro e w' ⟨rfl, rfl⟩))
       go_ret
       exact ⟨by simp, rfl⟩)
  · have e95 : ((c : Int) == 95) = false := by simp; omega
    by_cases h2 : c = 46
    · have e46 : ((c : Int) == 46) = true := by simp; omega
      obtain rfl : (l1 || d1 || l2) = r := by rw [← hr]; simp [h2]
      clear hr hc hd h1 h2
      cases l1 <;> cases d1 <;> cases l2
      all_goals
        (go_enter Tryz.func133, Tryz.ntmps133
         go_wp2_with (first | (go_at_call 128; refine h95.mono ?_; rintro e w' ⟨rfl, rfl⟩) | (go_at_call 140; refine (hD _).mono ?_; rintro e w' ⟨rfl, rfl⟩) | (go_at_call 132; refine h99.mono ?_; rintro e w' ⟨rfl, rfl⟩) | (go_at_call 127; with_reducible refine (hL _).mono ?_; rintro e w' ⟨rfl, rfl⟩) | (go_at_call 127; with_reducible refine (hL2 _).mono ?_; rintro e w' ⟨rfl, rfl⟩))
         go_ret
         exact ⟨by simp, rfl⟩)
    · have e46 : ((c : Int) == 46) = false := by simp; omega
      obtain rfl : (l1 || d1) = r := by rw [← hr]; simp [h1, h2]
      clear hr hc hd h1 h2
      cases l1 <;> cases d1
      all_goals
        (go_enter Tryz.func133, Tryz.ntmps133
         go_wp2_with (first | (go_at_call 128; refine h95.mono ?_; rintro e w' ⟨rfl, rfl⟩) | (go_at_call 127; with_reducible refine (hL _).mono ?_; rintro e w' ⟨rfl, rfl⟩) | (go_at_call 140; refine (hD _).mono ?_; rintro e w' ⟨rfl, rfl⟩))
         go_ret
         exact ⟨by simp, rfl⟩)

end Go.Proofs.YtekdalbhgdkckaaGreatDoor
