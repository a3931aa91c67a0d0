/- The walks of the program's reader: fail, begin, wide, kind, number, upTo, name: what they tell is what the plain functions tell. No condition but that the bytes can be read and are no longer than 2^40. -/
import Derived.Test.YtkbpmpcbajnmlaaDoorRp
import Derived.Test.YtkbpmpcbajnmlaaDoorTwin
import Derived.Test.YtkbpmpcbajnmlaaDoorRw
namespace Go.Proofs.YtkbpmpcbajnmlaaDoor
open Go.RowKit

/-- Bytes that can be read, below block B. -/
structure RdB (w : World) (B : Nat) (ao : Option Addr) (n cap : Nat) (bs : Bs) : Prop where
  rd : Rd w ao n cap bs
  low : ∀ a, ao = some a → a.block < B
  le : n ≤ 1099511627776

theorem RdB.keep {w w' : World} {B : Nat} {ao : Option Addr} {n cap : Nat} {bs : Bs} {S : Nat → Prop} (h : RdB w B ao n cap bs) (hk : Keep w w' S) (hS : ∀ k, S k → B ≤ k) : RdB w' B ao n cap bs :=
  ⟨⟨h.rd.len, h.rd.le, h.rd.max, h.rd.nil, fun a ha j u hu => by
    have h1 := h.rd.cells a ha j u hu
    have h2 := h.low a ha
    have h3 := World.block_lt_of_cell? w _ h1
    have h4 : (a.add j).block = a.block := by unfold Addr.add; split <;> rfl
    exact (World.cell?_of_block (hk.block _ h3 (fun s => by have := hS _ s; omega))).trans h1⟩, h.low, h.le⟩

/-- The reader stands at these bytes, with this fault. -/
def RSt (w : World) (B g : Nat) (bs : Bs) (c : Nat) : Prop := ∃ ao n cap, Blk w g 83 [.slice ao n cap, .int .i64 (c : Int)] ∧ RdB w B ao n cap bs ∧ B ≤ g ∧ c ≤ 30

def RSx (w : World) (B g : Nat) : Er Bs → Prop
  | .bad c => c ≠ 0 ∧ ∃ bs, RSt w B g bs c
  | .ok bs => RSt w B g bs 0

theorem RSt.keep {w w' : World} {B g : Nat} {bs : Bs} {c : Nat} {S : Nat → Prop} (h : RSt w B g bs c) (hk : Keep w w' S) (hg : ¬ S g) (hS : ∀ k, S k → B ≤ k) : RSt w' B g bs c := by
  obtain ⟨ao, n, cap, h1, h2, h3, h4⟩ := h
  exact ⟨ao, n, cap, h1.keep hk hg, h2.keep hk hS, h3, h4⟩

theorem RSx.keep {w w' : World} {B g : Nat} {st : Er Bs} {S : Nat → Prop} (h : RSx w B g st) (hk : Keep w w' S) (hg : ¬ S g) (hS : ∀ k, S k → B ≤ k) : RSx w' B g st := by
  cases st with
  | bad c => exact ⟨h.1, h.2.elim fun bs hb => ⟨bs, hb.keep hk hg hS⟩⟩
  | ok bs => exact RSt.keep h hk hg hS

/-- fail: the first fault stays. -/
def fl (c e : Nat) : Nat := if c = 0 then e else c

theorem fail_any (B g : Nat) (bs : Bs) (c e : Nat) (w : World) (he : e ≤ 30) (h : RSt w B g bs c) :
    Calls Tryd.prog 76 #[.pointer (some ⟨g, 0, none⟩), .int .i64 (e : Int)] w fun x w' => x = .returned (.tuple #[]) ∧ RSt w' B g bs (fl c e) ∧ Keep w w' (· = g) := by
  obtain ⟨ao, n, cap, h1, h2, h3, h4⟩ := h
  have c1 := h1.cell (j := 1) rfl
  have f1 := h1.frozen 1
  by_cases h0 : c = 0
  · subst h0
    have K : Keep w (w.setCell ⟨g, 1, none⟩ (.int .i64 (e : Int))) (· = g) := (Keep.refl w (· = g)).setCell (fun _ => rfl) 1 _
    have R : RSt (w.setCell ⟨g, 1, none⟩ (.int .i64 (e : Int))) B g bs (fl 0 e) := ⟨ao, n, cap, h1.set 1 _, h2.keep K (fun k hk => by rw [hk]; exact h3), h3, by simp [fl]; exact he⟩
    go_enter Tryd.func76, Tryd.ntmps76
    go_wp2_with fail
    go_end0
    exact ⟨rfl, R, K⟩
  · have hd : ((c : Int) == 0) = false := beq_eq_false_iff_ne.2 (by omega)
    have R : RSt w B g bs (fl c e) := ⟨ao, n, cap, by simp only [fl, if_neg h0]; exact h1, h2, h3, by simp only [fl, if_neg h0]; exact h4⟩
    go_enter Tryd.func76, Tryd.ntmps76
    go_wp2_with fail
    go_end0
    exact ⟨rfl, R, Keep.refl _ _⟩

/-- A slice's end. -/
theorem RdB.drop {w : World} {B : Nat} {a : Addr} {n cap : Nat} {bs : Bs} (h : RdB w B (some a) n cap bs) (k : Nat) (hk : k ≤ n) : RdB w B (some (a.add k)) (n - k) (cap - k) (bs.drop k) := by
  have hle := h.rd.le
  have hmx := h.rd.max
  have hlen := h.rd.len
  have hb : (a.add k).block = a.block := by unfold Addr.add; split <;> rfl
  refine ⟨⟨by simp; omega, by omega, by omega, (fun h => by cases h), fun a' ha' j u hu => ?_⟩, fun a' ha' => by simp at ha'; subst ha'; rw [hb]; exact h.low a rfl, by have := h.le; omega⟩
  simp at ha'
  subst ha'
  rw [List.getElem?_drop] at hu
  have h1 := h.rd.cells a rfl (k + j) u hu
  have h2 : (a.add k).add j = a.add (k + j) := by
    unfold Addr.add
    by_cases hk0 : k = 0
    · subst hk0; simp
    · by_cases hj0 : j = 0
      · subst hj0; simp
      · rw [if_neg hj0, if_neg hk0, if_neg (by omega), Nat.add_assoc]
  rw [h2]
  exact h1

theorem RdB.none {w : World} {B : Nat} {ao : Option Addr} {n cap : Nat} {bs : Bs} (h : RdB w B ao n cap bs) (k : Nat) (hk : k ≤ n) (hc : cap = k) : RdB w B ao 0 0 (bs.drop k) := by
  have hle := h.rd.le
  have hlen := h.rd.len
  rw [List.drop_of_length_le (show bs.length ≤ k by omega)]
  exact ⟨Rd.none' w ao, h.low, by omega⟩

theorem rWide_ok {bs r : Bs} {v : Nat} (h : rWide bs = .ok (v, r)) : v < 18446744073709551616 ∧ r.length ≤ bs.length := by
  unfold rWide at h
  split at h
  · cases h
  · simp only [Er.ok.injEq, Prod.mk.injEq] at h
    have := tv_bounds bs 0 0 (by omega) (by decide)
    rw [← h.1, ← h.2]
    exact ⟨this.1, by simp⟩

theorem wide_end {w : World} {B g : Nat} {bs : Bs} {v hd er : Nat} (hr : tv 0 0 bs = (v, hd, er)) (h : RSt w B g (bs.drop hd) (fl 0 er)) : (rWide bs).told 0 = v ∧ RSx w B g (rWide bs).rest := by
  have hbad := tv_bad bs 0 0
  have hf : fl 0 er = er := by simp [fl]
  rw [hf] at h
  unfold rWide
  rw [hr] at hbad ⊢
  simp only at hbad ⊢
  by_cases h0 : er = 0
  · subst h0
    rw [if_neg (by simp)]
    exact ⟨rfl, h⟩
  · rw [if_pos h0]
    exact ⟨(hbad h0).1.symm, h0, _, h⟩

set_option maxRecDepth 100000 in
set_option maxHeartbeats 1000000 in
theorem wide_any (B g : Nat) (st : Er Bs) (w : World) (h : RSx w B g st) :
    Calls Tryd.prog 77 #[.pointer (some ⟨g, 0, none⟩)] w fun x w' => x = .returned (.int .u64 (((st.bind rWide).told 0 : Nat) : Int)) ∧ RSx w' B g (st.bind rWide).rest ∧ Keep w w' (· = g) := by
  cases st with
  | bad c =>
    obtain ⟨h0, bs, ao, n, cap, h1, h2, h3, h4⟩ := h
    have c1 := h1.cell (j := 1) rfl
    have hd : ((c : Int) == 0) = false := beq_eq_false_iff_ne.2 (by omega)
    have R : RSx w B g (.bad c) := ⟨h0, bs, ao, n, cap, h1, h2, h3, h4⟩
    go_enter Tryd.func77, Tryd.ntmps77
    go_wp2_with fail
    go_ret
    exact ⟨rfl, R, Keep.refl _ _⟩
  | ok bs =>
    obtain ⟨ao, n, cap, h1, h2, h3, h4⟩ := h
    have c0 := h1.cell (j := 0) rfl
    have c1 := h1.cell (j := 1) rfl
    have f0 := h1.frozen 0
    obtain ⟨v, hd, er, hr⟩ : ∃ v hd er, tv 0 0 bs = (v, hd, er) := ⟨_, _, _, rfl⟩
    have hb := tv_bounds bs 0 0 (by omega) (by decide)
    rw [hr] at hb
    simp only at hb
    obtain ⟨hv, hhd, her⟩ := hb
    rw [h2.rd.len] at hhd
    have HR : Hid (tv 0 0 bs = (v, hd, er)) := hr
    have hle := h2.rd.le
    have hmx := h2.rd.max
    unfold maxLen at hmx
    clear hr
    have hhn : hd ≤ n := by omega
    clear hhd
    have K : ∀ x, Keep w (w.setCell ⟨g, 0, none⟩ x) (· = g) := fun x => (Keep.refl w (· = g)).setCell (fun _ => rfl) 0 _
    have hS : ∀ k, k = g → B ≤ k := fun k hk => by rw [hk]; exact h3
    have ways : cap = hd ∨ hd < cap ∧ ∃ a, ao = some a := by
      by_cases hc : cap = hd
      · exact .inl hc
      · refine .inr ⟨by omega, ?_⟩
        cases ao with
        | none => have := h2.rd.nil rfl; omega
        | some a => exact ⟨a, rfl⟩
    rcases ways with hc | ⟨hc, a, rfl⟩
    · have R : RSt (w.setCell ⟨g, 0, none⟩ (.slice ao 0 0)) B g (bs.drop hd) 0 := ⟨ao, 0, 0, h1.set 0 _, (h2.none hd hhn hc).keep (K _) hS, h3, by omega⟩
      have hF := fail_any B g (bs.drop hd) 0 er _ (by omega) R
      subst hc
      go_enter Tryd.func77, Tryd.ntmps77
      go_wp2_with fail
      refine (takeVar_at h2.rd HR.out).mono ?_
      rintro e w1 ⟨rfl, rfl⟩
      go_wp2_with fail
      refine hF.mono ?_
      rintro e w2 ⟨rfl, R2, K2⟩
      have E := wide_end HR.out R2
      go_wp2_with fail
      go_ret
      exact ⟨by show _ = Ending.returned (.int .u64 (((rWide bs).told 0 : Nat) : Int)); rw [E.1]; rfl, E.2, (K _).trans K2 (fun _ _ h => h)⟩
    · have R : RSt (w.setCell ⟨g, 0, none⟩ (.slice (some (a.add hd)) (n - hd) (cap - hd))) B g (bs.drop hd) 0 := ⟨some (a.add hd), n - hd, cap - hd, h1.set 0 _, (h2.drop hd hhn).keep (K _) hS, h3, by omega⟩
      have hF := fail_any B g (bs.drop hd) 0 er _ (by omega) R
      have hne : ¬ cap = hd := by omega
      go_enter Tryd.func77, Tryd.ntmps77
      go_wp2_with fail
      refine (takeVar_at h2.rd HR.out).mono ?_
      rintro e w1 ⟨rfl, rfl⟩
      go_wp2_with fail
      refine hF.mono ?_
      rintro e w2 ⟨rfl, R2, K2⟩
      have E := wide_end HR.out R2
      go_wp2_with fail
      go_ret
      exact ⟨by show _ = Ending.returned (.int .u64 (((rWide bs).told 0 : Nat) : Int)); rw [E.1]; rfl, E.2, (K _).trans K2 (fun _ _ h => h)⟩

/-- A number that is tested behind it. -/
theorem chk_told (p : Nat → Bool) (c : Nat) (x : Er (Nat × Bs)) : (chk p c x).told 0 = if p (x.told 0) = true then x.told 0 else 0 := by
  cases x with
  | bad c => show 0 = if p 0 = true then 0 else 0; cases p 0 <;> rfl
  | ok y =>
    obtain ⟨v, r⟩ := y
    by_cases hp : p v = true
    · simp [chk, Er.told, hp]
    · simp [chk, Er.told, hp]

theorem fail_x (B g : Nat) (x : Er (Nat × Bs)) (p : Nat → Bool) (e : Nat) (w : World) (he : e ≤ 30) (he0 : e ≠ 0) (hp : p (x.told 0) = false) (h : RSx w B g x.rest) :
    Calls Tryd.prog 76 #[.pointer (some ⟨g, 0, none⟩), .int .i64 (e : Int)] w fun y w' => y = .returned (.tuple #[]) ∧ RSx w' B g (chk p e x).rest ∧ Keep w w' (· = g) := by
  cases x with
  | bad c =>
    obtain ⟨h0, bs, h1⟩ := h
    refine (fail_any B g bs c e w he h1).mono ?_
    rintro y w' ⟨rfl, R, K⟩
    rw [fl, if_neg h0] at R
    exact ⟨rfl, ⟨h0, bs, R⟩, K⟩
  | ok y =>
    obtain ⟨v, r⟩ := y
    simp only [Er.told] at hp
    refine (fail_any B g r 0 e w he h).mono ?_
    rintro y w' ⟨rfl, R, K⟩
    rw [fl, if_pos rfl] at R
    have e2 : chk p e (.ok (v, r)) = .bad e := by simp [chk, hp]
    rw [e2]
    exact ⟨rfl, ⟨he0, r, R⟩, K⟩

theorem chk_rest {p : Nat → Bool} {c : Nat} {x : Er (Nat × Bs)} (hp : p (x.told 0) = true) : (chk p c x).rest = x.rest := by
  cases x with
  | bad c => rfl
  | ok y => obtain ⟨v, r⟩ := y; simp only [Er.told] at hp; simp only [chk, hp]; rfl

theorem told_lt (x : Er Bs) : (x.bind rWide).told 0 < 18446744073709551616 := by
  cases x with
  | bad c => simp [Er.bind, Er.told]
  | ok bs =>
    show (rWide bs).told 0 < _
    cases e : rWide bs with
    | bad c => simp [Er.told]
    | ok y => obtain ⟨v, r⟩ := y; exact (rWide_ok e).1

theorem bind_chk (x : Er Bs) (p : Nat → Bool) (c : Nat) (f : Bs → Er (Nat × Bs)) : x.bind (fun bs => chk p c (f bs)) = chk p c (x.bind f) := by
  cases x <;> rfl

set_option maxRecDepth 100000 in
set_option maxHeartbeats 1000000 in
theorem number_any (B g : Nat) (st : Er Bs) (w : World) (h : RSx w B g st) :
    Calls Tryd.prog 52 #[.pointer (some ⟨g, 0, none⟩)] w fun x w' => x = .returned (.int .i64 (((st.bind rNum).told 0 : Nat) : Int)) ∧ RSx w' B g (st.bind rNum).rest ∧ Keep w w' (· = g) := by
  have hl := told_lt st
  have hW := wide_any B g st w h
  have HB : Hid (st.bind rNum = chk (fun v => decide (v ≤ 1073741824)) 4 (st.bind rWide)) := bind_chk st _ _ _
  generalize hx : st.bind rWide = x at *
  have ht := chk_told (fun v => decide (v ≤ 1073741824)) 4 x
  obtain ⟨v, hv⟩ : ∃ v, x.told 0 = v := ⟨_, rfl⟩
  have hc := fun w1 hp h1 => fail_x B g x (fun v => decide (v ≤ 1073741824)) 4 w1 (by omega) (by omega) hp h1
  have hr := chk_rest (p := fun v => decide (v ≤ 1073741824)) (c := 4) (x := x)
  rw [hv] at hW hl ht hc hr
  have HT : Hid _ := ht
  have HC : Hid _ := hc
  have HRS : Hid _ := hr
  clear ht hc hr hx hv h
  by_cases hle : v ≤ 1073741824
  · have hd : decide ((1073741824 : Int) < (v : Int)) = false := decide_eq_false (by omega)
    go_enter Tryd.func52, Tryd.ntmps52
    go_wp2_with fail
    refine hW.mono ?_
    rintro e w1 ⟨rfl, R1, K1⟩
    go_wp2_with fail
    go_ret
    rw [HB.out]
    exact ⟨by rw [HT.out, if_pos (by simpa using hle)]; rfl, by rw [HRS.out (by simpa using hle)]; exact R1, K1⟩
  · have hd : decide ((1073741824 : Int) < (v : Int)) = true := decide_eq_true (by omega)
    have hp : decide (v ≤ 1073741824) = false := decide_eq_false hle
    go_enter Tryd.func52, Tryd.ntmps52
    go_wp2_with fail
    refine hW.mono ?_
    rintro e w1 ⟨rfl, R1, K1⟩
    go_wp2_with fail
    refine (HC.out w1 hp R1).mono ?_
    rintro e w2 ⟨rfl, R2, K2⟩
    go_wp2_with fail
    go_ret
    rw [HB.out]
    exact ⟨by rw [HT.out, if_neg (by simpa using hle)]; rfl, R2, K1.trans K2 (fun _ _ h => h)⟩

theorem num_told (x : Er Bs) : (x.bind rNum).told 0 ≤ 1073741824 := by
  have : x.bind rNum = chk (fun v => decide (v ≤ 1073741824)) 4 (x.bind rWide) := bind_chk x _ _ _
  rw [this, chk_told]
  split
  · rename_i h; simpa using h
  · omega

set_option maxRecDepth 100000 in
set_option maxHeartbeats 1000000 in
theorem upTo_any (B g : Nat) (st : Er Bs) (most c : Nat) (hc0 : c ≠ 0) (hc1 : c ≤ 30) (w : World) (h : RSx w B g st) :
    Calls Tryd.prog 47 #[.pointer (some ⟨g, 0, none⟩), .int .i64 (most : Int), .int .i64 (c : Int)] w fun x w' => x = .returned (.int .i64 (((st.bind (rUpTo most c)).told 0 : Nat) : Int)) ∧ RSx w' B g (st.bind (rUpTo most c)).rest ∧ Keep w w' (· = g) := by
  have hl := num_told st
  have hW := number_any B g st w h
  have HB : Hid (st.bind (rUpTo most c) = chk (fun v => decide (v ≤ most)) c (st.bind rNum)) := bind_chk st _ _ _
  generalize hx : st.bind rNum = x at *
  have ht := chk_told (fun v => decide (v ≤ most)) c x
  obtain ⟨v, hv⟩ : ∃ v, x.told 0 = v := ⟨_, rfl⟩
  have hc := fun w1 hp h1 => fail_x B g x (fun v => decide (v ≤ most)) c w1 hc1 hc0 hp h1
  have hr := chk_rest (p := fun v => decide (v ≤ most)) (c := c) (x := x)
  rw [hv] at hW hl ht hc hr
  have HT : Hid _ := ht
  have HC : Hid _ := hc
  have HRS : Hid _ := hr
  clear ht hc hr hx hv h
  by_cases hle : v ≤ most
  · have hd : decide ((most : Int) < (v : Int)) = false := decide_eq_false (by omega)
    go_enter Tryd.func47, Tryd.ntmps47
    go_wp2_with fail
    refine hW.mono ?_
    rintro e w1 ⟨rfl, R1, K1⟩
    go_wp2_with fail
    go_ret
    rw [HB.out]
    exact ⟨by rw [HT.out, if_pos (by simpa using hle)]; rfl, by rw [HRS.out (by simpa using hle)]; exact R1, K1⟩
  · have hd : decide ((most : Int) < (v : Int)) = true := decide_eq_true (by omega)
    have hp : decide (v ≤ most) = false := decide_eq_false hle
    go_enter Tryd.func47, Tryd.ntmps47
    go_wp2_with fail
    refine hW.mono ?_
    rintro e w1 ⟨rfl, R1, K1⟩
    go_wp2_with fail
    refine (HC.out w1 hp R1).mono ?_
    rintro e w2 ⟨rfl, R2, K2⟩
    go_wp2_with fail
    go_ret
    rw [HB.out]
    exact ⟨by rw [HT.out, if_neg (by simpa using hle)]; rfl, R2, K1.trans K2 (fun _ _ h => h)⟩

set_option maxRecDepth 100000 in
set_option maxHeartbeats 1000000 in
theorem kind_any (B g : Nat) (st : Er Bs) (lo hi : Nat) (hlo : lo ≤ 1000) (hhi : hi ≤ 1000) (w : World) (h : RSx w B g st) :
    Calls Tryd.prog 46 #[.pointer (some ⟨g, 0, none⟩), .int .i64 (lo : Int), .int .i64 (hi : Int)] w fun x w' => x = .returned (.int .i64 (((st.bind (rKind lo hi)).told 0 : Nat) : Int)) ∧ RSx w' B g (st.bind (rKind lo hi)).rest ∧ Keep w w' (· = g) := by
  have hl := told_lt st
  have hW := wide_any B g st w h
  have HB : Hid (st.bind (rKind lo hi) = chk (fun v => decide (lo ≤ v) && decide (v ≤ hi)) 5 (st.bind rWide)) := bind_chk st _ _ _
  generalize hx : st.bind rWide = x at *
  have ht := chk_told (fun v => decide (lo ≤ v) && decide (v ≤ hi)) 5 x
  obtain ⟨v, hv⟩ : ∃ v, x.told 0 = v := ⟨_, rfl⟩
  have hc := fun w1 hp h1 => fail_x B g x (fun v => decide (lo ≤ v) && decide (v ≤ hi)) 5 w1 (by omega) (by omega) hp h1
  have hr := chk_rest (p := fun v => decide (lo ≤ v) && decide (v ≤ hi)) (c := 5) (x := x)
  rw [hv] at hW hl ht hc hr
  have HT : Hid _ := ht
  have HC : Hid _ := hc
  have HRS : Hid _ := hr
  clear ht hc hr hx hv h
  have e1 : IntKind.u64.wrap (lo : Int) = (lo : Int) := wraps_u64 _ (by omega) (by omega)
  have e2 : IntKind.u64.wrap (hi : Int) = (hi : Int) := wraps_u64 _ (by omega) (by omega)
  have ways : (lo ≤ v ∧ v ≤ hi) ∨ v < lo ∨ (lo ≤ v ∧ hi < v) := by omega
  rcases ways with ⟨g1, g2⟩ | g1 | ⟨g1, g2⟩
  · have hd1 : decide ((v : Int) < (lo : Int)) = false := decide_eq_false (by omega)
    have hd2 : decide ((hi : Int) < (v : Int)) = false := decide_eq_false (by omega)
    have hp : (decide (lo ≤ v) && decide (v ≤ hi)) = true := by simp [g1, g2]
    have HP : Hid _ := hp
    clear hp
    go_enter Tryd.func46, Tryd.ntmps46
    go_wp2_with fail
    refine hW.mono ?_
    rintro e w1 ⟨rfl, R1, K1⟩
    go_wp2_with fail
    go_ret
    rw [HB.out]
    exact ⟨by rw [HT.out, if_pos HP.out]; rfl, by rw [HRS.out HP.out]; exact R1, K1⟩
  · have hd1 : decide ((v : Int) < (lo : Int)) = true := decide_eq_true (by omega)
    have hp : (decide (lo ≤ v) && decide (v ≤ hi)) = false := by simp; omega
    have HP : Hid _ := hp
    clear hp
    go_enter Tryd.func46, Tryd.ntmps46
    go_wp2_with fail
    refine hW.mono ?_
    rintro e w1 ⟨rfl, R1, K1⟩
    go_wp2_with fail
    refine (HC.out w1 HP.out R1).mono ?_
    rintro e w2 ⟨rfl, R2, K2⟩
    go_wp2_with fail
    go_ret
    rw [HB.out]
    exact ⟨by rw [HT.out, if_neg (by rw [HP.out]; decide)]; rfl, R2, K1.trans K2 (fun _ _ h => h)⟩
  · have hd1 : decide ((v : Int) < (lo : Int)) = false := decide_eq_false (by omega)
    have hd2 : decide ((hi : Int) < (v : Int)) = true := decide_eq_true (by omega)
    have hp : (decide (lo ≤ v) && decide (v ≤ hi)) = false := by simp; omega
    have HP : Hid _ := hp
    clear hp
    go_enter Tryd.func46, Tryd.ntmps46
    go_wp2_with fail
    refine hW.mono ?_
    rintro e w1 ⟨rfl, R1, K1⟩
    go_wp2_with fail
    refine (HC.out w1 HP.out R1).mono ?_
    rintro e w2 ⟨rfl, R2, K2⟩
    go_wp2_with fail
    go_ret
    rw [HB.out]
    exact ⟨by rw [HT.out, if_neg (by rw [HP.out]; decide)]; rfl, R2, K1.trans K2 (fun _ _ h => h)⟩

theorem res_keep {w1 w2 : World} {B1 g : Nat} {ao : Option Addr} {n cap : Nat} {s : Bs} (h : Res 5 B1 w1 ao n cap s) (K : Keep w1 w2 (· = g)) (hg : g < B1) : Rd w2 ao n cap s := by
  rcases h.2 with ⟨rfl, rfl, rfl⟩ | ⟨g', rfl, ho⟩
  · have := h.1.len
    obtain rfl : s = [] := List.eq_nil_of_length_eq_zero this
    exact Rd.none' w2 none
  · exact (ho.carry (K.block g' ho.lt (by have := ho.new; omega))).rd

theorem name_end {w : World} {B g : Nat} {bs : Bs} (h : RSt w B g (bs.drop (tt bs 24).2.1) (fl 0 (tt bs 24).2.2)) : (rName bs).told [] = (tt bs 24).1 ∧ RSx w B g (rName bs).rest := by
  have hbad := tt_bad bs 24
  have hf : fl 0 (tt bs 24).2.2 = (tt bs 24).2.2 := by simp [fl]
  rw [hf] at h
  unfold rName
  by_cases h0 : (tt bs 24).2.2 = 0
  · rw [if_neg (by simp [h0])]
    rw [h0] at h
    exact ⟨rfl, h⟩
  · rw [if_pos h0]
    exact ⟨(hbad h0).1.symm, h0, _, h⟩

set_option maxRecDepth 100000 in
set_option maxHeartbeats 1000000 in
theorem name_any (B g : Nat) (st : Er Bs) (w : World) (h : RSx w B g st) :
    Calls Tryd.prog 53 #[.pointer (some ⟨g, 0, none⟩)] w fun x w' => x = .returned (.string ⟨((st.bind rName).told []).toArray⟩) ∧ RSx w' B g (st.bind rName).rest ∧ Keep w w' (· = g) := by
  cases st with
  | bad c =>
    obtain ⟨h0, bs, ao, n, cap, h1, h2, h3, h4⟩ := h
    have c1 := h1.cell (j := 1) rfl
    have hd : ((c : Int) == 0) = false := beq_eq_false_iff_ne.2 (by omega)
    have R : RSx w B g (.bad c) := ⟨h0, bs, ao, n, cap, h1, h2, h3, h4⟩
    go_enter Tryd.func53, Tryd.ntmps53
    go_wp2_with fail
    go_ret
    exact ⟨rfl, R, Keep.refl _ _⟩
  | ok bs =>
    obtain ⟨ao, n, cap, h1, h2, h3, h4⟩ := h
    have c0 := h1.cell (j := 0) rfl
    have c1 := h1.cell (j := 1) rfl
    have hb := tt_bounds bs 24
    have hF := fun w' R => fail_any B g (bs.drop (tt bs 24).2.1) 0 (tt bs 24).2.2 w' (by omega) R
    have hE := fun (w' : World) => name_end (w := w') (B := B) (g := g) (bs := bs)
    have hT := takeText_any ao n cap bs 24 w h2.rd (by have := h2.le; omega) (by decide) (by decide)
    have hD1 := fun (a : Addr) (e : ao = some a) => RdB.drop (a := a) (e ▸ h2) (tt bs 24).2.1
    have hD2 := h2.none (tt bs 24).2.1
    rw [h2.rd.len] at hb
    obtain ⟨s, hd, er, hr⟩ : ∃ s hd er, tt bs 24 = (s, hd, er) := ⟨_, _, _, rfl⟩
    rw [hr] at hb hF hE hT hD1 hD2
    simp only at hb hF hE hT hD1 hD2
    obtain ⟨hhn, her, hsl⟩ := hb
    have hle := h2.rd.le
    have hmx := h2.rd.max
    unfold maxLen at hmx
    have hS : ∀ k, k = g → B ≤ k := fun k hk => by rw [hk]; exact h3
    have ways : cap = hd ∨ hd < cap ∧ ∃ a, ao = some a := by
      by_cases hc : cap = hd
      · exact .inl hc
      · refine .inr ⟨by omega, ?_⟩
        cases ao with
        | none => have := h2.rd.nil rfl; omega
        | some a => exact ⟨a, rfl⟩
    have HE : Hid _ := hE
    have HF : Hid _ := hF
    have HSL : Hid _ := hsl
    clear hE hF hr hsl
    obtain ⟨sl, hsl⟩ : ∃ sl, s.length = sl := ⟨_, rfl⟩
    rw [hsl] at hT
    clear hsl
    rcases ways with hc | ⟨hc, a, rfl⟩
    · have D := hD2 hhn hc
      clear hD1 hD2
      subst hc
      go_enter Tryd.func53, Tryd.ntmps53
      go_wp2_with fail
      refine hT.mono ?_
      rintro e w1 ⟨ao', cap', rfl, hres, hb1⟩
      have K1 : Keep w w1 (· = g) := Keep.of_below hb1 (Nat.le_refl _)
      have Q1 := h1.below hb1 h1.lt
      have d0 := Q1.cell (j := 0) rfl
      have d1 := Q1.cell (j := 1) rfl
      have f0 := Q1.frozen 0
      have K2 : Keep w1 (w1.setCell ⟨g, 0, none⟩ (.slice ao 0 0)) (· = g) := (Keep.refl w1 (· = g)).setCell (fun _ => rfl) 0 _
      have R : RSt (w1.setCell ⟨g, 0, none⟩ (.slice ao 0 0)) B g (bs.drop cap) 0 := ⟨ao, 0, 0, Q1.set 0 _, (D.keep K1 hS).keep K2 hS, h3, by omega⟩
      clear hT
      go_wp2_with fail
      refine (HF.out _ R).mono ?_
      rintro e w2 ⟨rfl, R2, K3⟩
      have hcv := str_of (res_keep hres (K2.trans K3 (fun _ _ h => h)) h1.lt)
      have E := HE.out _ R2
      go_wp2_with fail
      go_ret
      exact ⟨by show _ = Ending.returned (.string ⟨((rName bs).told []).toArray⟩); rw [E.1]; rfl, E.2, (K1.trans K2 (fun _ _ h => h)).trans K3 (fun _ _ h => h)⟩
    · have D := hD1 a rfl hhn
      clear hD1 hD2
      have hne : ¬ cap = hd := by omega
      go_enter Tryd.func53, Tryd.ntmps53
      go_wp2_with fail
      refine hT.mono ?_
      rintro e w1 ⟨ao', cap', rfl, hres, hb1⟩
      have K1 : Keep w w1 (· = g) := Keep.of_below hb1 (Nat.le_refl _)
      have Q1 := h1.below hb1 h1.lt
      have d0 := Q1.cell (j := 0) rfl
      have d1 := Q1.cell (j := 1) rfl
      have f0 := Q1.frozen 0
      have K2 : Keep w1 (w1.setCell ⟨g, 0, none⟩ (.slice (some (a.add hd)) (n - hd) (cap - hd))) (· = g) := (Keep.refl w1 (· = g)).setCell (fun _ => rfl) 0 _
      have R : RSt (w1.setCell ⟨g, 0, none⟩ (.slice (some (a.add hd)) (n - hd) (cap - hd))) B g (bs.drop hd) 0 := ⟨some (a.add hd), n - hd, cap - hd, Q1.set 0 _, (D.keep K1 hS).keep K2 hS, h3, by omega⟩
      clear hT
      go_wp2_with fail
      refine (HF.out _ R).mono ?_
      rintro e w2 ⟨rfl, R2, K3⟩
      have hcv := str_of (res_keep hres (K2.trans K3 (fun _ _ h => h)) h1.lt)
      have E := HE.out _ R2
      go_wp2_with fail
      go_ret
      exact ⟨by show _ = Ending.returned (.string ⟨((rName bs).told []).toArray⟩); rw [E.1]; rfl, E.2, (K1.trans K2 (fun _ _ h => h)).trans K3 (fun _ _ h => h)⟩

/-- Parts that are too many, or too deep. -/
def beg (many deep : Bool) : Nat := if many then 3 else if deep then 6 else 0

def Er.fail {α : Type} (e : Er α) (c : Nat) : Er α := if c = 0 then e else match e with | .bad d => .bad d | .ok _ => .bad c

set_option maxRecDepth 100000 in
theorem begin_any (B g : Nat) (st : Er Bs) (many deep : Bool) (w : World) (h : RSx w B g st) :
    Calls Tryd.prog 45 #[.pointer (some ⟨g, 0, none⟩), .bool many, .bool deep] w fun x w' => x = .returned (.tuple #[]) ∧ RSx w' B g (st.fail (beg many deep)) ∧ Keep w w' (· = g) := by
  have hF : ∀ c : Nat, c ≤ 30 → c ≠ 0 → Calls Tryd.prog 76 #[.pointer (some ⟨g, 0, none⟩), .int .i64 (c : Int)] w fun y w' => y = .returned (.tuple #[]) ∧ RSx w' B g (st.fail c) ∧ Keep w w' (· = g) := fun c hc1 hc0 => by
    cases st with
    | bad d =>
      obtain ⟨h0, bs, h1⟩ := h
      refine (fail_any B g bs d c w hc1 h1).mono ?_
      rintro y w' ⟨rfl, R, K⟩
      rw [fl, if_neg h0] at R
      exact ⟨rfl, by unfold Er.fail; rw [if_neg hc0]; exact ⟨h0, bs, R⟩, K⟩
    | ok bs =>
      refine (fail_any B g bs 0 c w hc1 h).mono ?_
      rintro y w' ⟨rfl, R, K⟩
      rw [fl, if_pos rfl] at R
      exact ⟨rfl, by unfold Er.fail; rw [if_neg hc0]; exact ⟨hc0, bs, R⟩, K⟩
  cases many with
  | true =>
    go_enter Tryd.func45, Tryd.ntmps45
    go_wp2_with fail
    refine (hF 3 (by omega) (by omega)).mono ?_
    rintro e w1 ⟨rfl, R1, K1⟩
    go_wp2_with fail
    go_end0
    exact ⟨rfl, R1, K1⟩
  | false =>
    cases deep with
    | true =>
      go_enter Tryd.func45, Tryd.ntmps45
      go_wp2_with fail
      refine (hF 6 (by omega) (by omega)).mono ?_
      rintro e w1 ⟨rfl, R1, K1⟩
      go_wp2_with fail
      go_end0
      exact ⟨rfl, R1, K1⟩
    | false =>
      go_enter Tryd.func45, Tryd.ntmps45
      go_wp2_with fail
      go_end0
      exact ⟨rfl, h, Keep.refl _ _⟩
end Go.Proofs.YtkbpmpcbajnmlaaDoor
