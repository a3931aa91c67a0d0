/- What is read is the bytes that are written of it, and is formed as the writer asks: plain facts. No condition. -/
import Derived.Test.YtkbpmpcbajnmlaaDoorWr3
import Derived.Test.YtkbpmpcbajnmlaaDoorRp
namespace Go.Proofs.YtkbpmpcbajnmlaaDoor

theorem toU8o (x : Nat) (h : x < 256) : x.toUInt8.toNat = x := by simp; omega

/-- What is read as a number is the bytes that are written of it. -/
theorem tv_only (l : List UInt8) : ∀ (i acc v hd : Nat), tv i acc l = (v, hd, 0) → ∃ x, v = acc + x * 2 ^ (7 * i) ∧ hd = i + (Lib.uvarint x).length ∧ (Lib.uvarint x).length ≤ l.length ∧ l.take (Lib.uvarint x).length = Lib.uvarint x ∧ (0 < i → 0 < x) := by
  induction l with
  | nil => intro i acc v hd h; simp [tv] at h
  | cons c r ih =>
    intro i acc v hd h
    have hc := c.toNat_lt
    rw [tv] at h
    by_cases h1 : i = 9 ∧ 1 < c.toNat
    · rw [if_pos h1] at h; simp at h
    · rw [if_neg h1] at h
      by_cases h2 : 128 ≤ c.toNat
      · rw [if_pos h2] at h
        obtain ⟨x, e1, e2, e3, e4, e5⟩ := ih _ _ _ _ h
        have hx := e5 (by omega)
        have hb : Lib.uvarint (c.toNat % 128 + 128 * x) = c :: Lib.uvarint x := by
          rw [Lib.uvarint_big (by omega), show (c.toNat % 128 + 128 * x) / 128 = x by omega, show (c.toNat % 128 + 128 * x) % 128 + 128 = c.toNat by omega]
          simp
        refine ⟨c.toNat % 128 + 128 * x, ?_, ?_, ?_, ?_, fun _ => by omega⟩
        · rw [e1, show 7 * (i + 1) = 7 * i + 7 by omega, Nat.pow_add, Nat.add_mul]
          have : x * (2 ^ (7 * i) * 2 ^ 7) = 128 * x * 2 ^ (7 * i) := by
            rw [show (2 : Nat) ^ 7 = 128 by decide, Nat.mul_comm (2 ^ (7 * i)) 128, ← Nat.mul_assoc, Nat.mul_comm x 128]
          omega
        · rw [hb, List.length_cons]; omega
        · rw [hb, List.length_cons, List.length_cons]; omega
        · rw [hb, List.length_cons, List.take_succ_cons, e4]
      · rw [if_neg h2] at h
        by_cases h3 : c.toNat = 0 ∧ 0 < i
        · rw [if_pos h3] at h; simp at h
        · rw [if_neg h3] at h
          simp only [Prod.mk.injEq, and_true] at h
          have hs : Lib.uvarint c.toNat = [c] := by rw [Lib.uvarint_small (by omega)]; simp
          refine ⟨c.toNat, h.1.symm, ?_, ?_, ?_, fun hi => by omega⟩
          · rw [hs]; simp; omega
          · rw [hs]; simp
          · rw [hs]; simp

theorem Er.bind_ok {α β : Type} {x : Er α} {f : α → Er β} {y : β} (h : x.bind f = .ok y) : ∃ a, x = .ok a ∧ f a = .ok y := by
  cases x with
  | bad c => simp [Er.bind] at h
  | ok a => exact ⟨a, rfl, h⟩

theorem rWide_only {bs r : Bs} {v : Nat} (h : rWide bs = .ok (v, r)) : bs = Lib.uvarint v ++ r := by
  unfold rWide at h
  split at h
  · cases h
  · rename_i h0
    simp only [Er.ok.injEq, Prod.mk.injEq] at h
    obtain ⟨h1, h2⟩ := h
    obtain ⟨x, e1, e2, _, e4, _⟩ := tv_only bs 0 0 (tv 0 0 bs).1 (tv 0 0 bs).2.1 (Prod.ext rfl (Prod.ext rfl (by simpa using h0)))
    have ex : x = v := by rw [← h1, e1]; simp
    subst ex
    rw [e2, Nat.zero_add] at h2
    conv => lhs; rw [← List.take_append_drop (Lib.uvarint x).length bs]
    rw [e4, h2]

theorem chk_ok {p : Nat → Bool} {c v : Nat} {r : Bs} {x : Er (Nat × Bs)} (h : chk p c x = .ok (v, r)) : x = .ok (v, r) ∧ p v = true := by
  cases x with
  | bad d => simp [chk] at h
  | ok y =>
    obtain ⟨a, b⟩ := y
    simp only [chk] at h
    split at h
    · rename_i hp
      simp only [Er.ok.injEq, Prod.mk.injEq] at h
      obtain ⟨rfl, rfl⟩ := h
      exact ⟨rfl, hp⟩
    · cases h

theorem rKind_only {lo hi v : Nat} {bs r : Bs} (h : rKind lo hi bs = .ok (v, r)) : bs = Lib.uvarint v ++ r ∧ lo ≤ v ∧ v ≤ hi := by
  obtain ⟨h1, h2⟩ := chk_ok h
  simp at h2
  exact ⟨rWide_only h1, h2.1, h2.2⟩

theorem rNum_only {v : Nat} {bs r : Bs} (h : rNum bs = .ok (v, r)) : bs = Lib.uvarint v ++ r ∧ v ≤ 1073741824 := by
  obtain ⟨h1, h2⟩ := chk_ok h
  simp at h2
  exact ⟨rWide_only h1, h2⟩

theorem rUpTo_only {most c v : Nat} {bs r : Bs} (h : rUpTo most c bs = .ok (v, r)) : bs = Lib.uvarint v ++ r ∧ v ≤ most ∧ v ≤ 1073741824 := by
  obtain ⟨h1, h2⟩ := chk_ok h
  simp at h2
  obtain ⟨h3, h4⟩ := rNum_only h1
  exact ⟨h3, h2, h4⟩

theorem rName_only {bs r s : Bs} (h : rName bs = .ok (s, r)) : bs = eX s ++ r ∧ s.length ≤ 24 := by
  unfold rName at h
  split at h
  · cases h
  · rename_i h0
    simp only [Er.ok.injEq, Prod.mk.injEq] at h
    obtain ⟨h1, h2⟩ := h
    have h0' : (tt bs 24).2.2 = 0 := by simpa using h0
    unfold tt at h0' h1 h2
    by_cases c1 : (tv 0 0 bs).2.2 ≠ 0
    · rw [if_pos c1] at h0'; exact absurd h0' c1
    · rw [if_neg c1] at h0' h1 h2
      by_cases c2 : (24 : Int).toNat < (tv 0 0 bs).1
      · rw [if_pos c2] at h0'; simp at h0'
      · rw [if_neg c2] at h0' h1 h2
        by_cases c3 : bs.length - (tv 0 0 bs).2.1 < (tv 0 0 bs).1
        · rw [if_pos c3] at h0'; simp at h0'
        · rw [if_neg c3] at h1 h2
          simp only at h1 h2
          obtain ⟨x, e1, e2, e3, e4, _⟩ := tv_only bs 0 0 (tv 0 0 bs).1 (tv 0 0 bs).2.1 (Prod.ext rfl (Prod.ext rfl (by simpa using c1)))
          have ex : (tv 0 0 bs).1 = x := by rw [e1]; simp
          rw [ex] at h1 h2 c2 c3
          rw [e2, Nat.zero_add] at h1 h2 c3
          have hl : s.length = x := by rw [← h1, List.length_take, List.length_drop]; omega
          have hx : x ≤ 24 := by
            have : (24 : Int).toNat = 24 := rfl
            omega
          refine ⟨?_, by omega⟩
          unfold eX
          rw [hl, ← h1, ← h2, List.append_assoc, ← List.drop_drop]
          conv => lhs; rw [← List.take_append_drop (Lib.uvarint x).length bs]
          rw [e4, List.take_append_drop]

/-- What several are, if each is so. -/
theorem rMany_only {σ β : Type} {rd : σ → Er (β × σ)} {R : σ → List β → σ → Prop} (h0 : ∀ s, R s [] s) (h1 : ∀ s x s1 ys s2, rd s = .ok (x, s1) → R s1 ys s2 → R s (x :: ys) s2) :
    ∀ (n : Nat) (s : σ) (ys : List β) (s2 : σ), rMany rd n s = .ok (ys, s2) → R s ys s2 ∧ ys.length = n
  | 0, s, ys, s2, h => by
    simp only [rMany, Er.ok.injEq, Prod.mk.injEq] at h
    obtain ⟨rfl, rfl⟩ := h
    exact ⟨h0 _, rfl⟩
  | n + 1, s, ys, s2, h => by
    simp only [rMany] at h
    obtain ⟨⟨x, s1⟩, e1, h⟩ := Er.bind_ok h
    obtain ⟨⟨zs, s3⟩, e2, h⟩ := Er.bind_ok h
    simp only [Er.ok.injEq, Prod.mk.injEq] at h
    obtain ⟨rfl, rfl⟩ := h
    obtain ⟨r1, r2⟩ := rMany_only h0 h1 n s1 zs s3 e2
    exact ⟨h1 _ _ _ _ _ e1 r1, by simp [r2]⟩

theorem sizes_le {l : List Lv} {L : Lv} (h : L ∈ l) : L.size ≤ Lv.sizes l := by
  induction l with
  | nil => cases h
  | cons x r ih =>
    simp only [Lv.sizes]
    rcases List.mem_cons.1 h with rfl | h
    · omega
    · have := ih h; omega

theorem rLv_only (f : Nat) : ∀ (p : Nat) (bs : Bs) (L : Lv) (p' : Nat) (r : Bs), rLv f (p, bs) = .ok (L, p', r) → bs = eL L ++ r ∧ WfL L ∧ p' = p + L.size ∧ (p ≤ 64 → p' ≤ 64) := by
  induction f with
  | zero =>
    intro p bs L p' r h
    simp only [rLv] at h
    split at h <;> cases h
  | succ f ih =>
    intro p bs L p' r h
    simp only [rLv] at h
    split at h
    · cases h
    · rename_i hp
      obtain ⟨⟨k, r1⟩, e1, h⟩ := Er.bind_ok h
      obtain ⟨b1, _, hk⟩ := rKind_only e1
      simp only at h
      split at h
      · rename_i h4
        subst h4
        obtain ⟨⟨n, r2⟩, e2, h⟩ := Er.bind_ok h
        obtain ⟨b2, hn, hn2⟩ := rUpTo_only e2
        simp only [Er.ok.injEq, Prod.mk.injEq] at h
        obtain ⟨rfl, rfl, rfl⟩ := h
        refine ⟨?_, ?_, ?_, by omega⟩
        · rw [eL_mk, b1, b2]; simp [eLs]
        · exact WfL.mk (k := 4) (n := n) (args := []) (by omega) (by simp [argL]) (fun h => absurd rfl h) (by omega) (by simp)
        · rw [Lv.size_mk]; simp [Lv.sizes]
      · rename_i h4
        obtain ⟨⟨ys, p2, r2⟩, e2, h⟩ := Er.bind_ok h
        simp only [Er.ok.injEq, Prod.mk.injEq] at h
        obtain ⟨rfl, rfl, rfl⟩ := h
        obtain ⟨⟨m1, m2, m3, m4⟩, hl⟩ := rMany_only (rd := rLv f) (R := fun s ys s2 => s.2 = eLs ys ++ s2.2 ∧ (∀ L ∈ ys, WfL L) ∧ s2.1 = s.1 + Lv.sizes ys ∧ (s.1 ≤ 64 → s2.1 ≤ 64))
          (fun s => ⟨by simp [eLs], by simp, by simp [Lv.sizes], id⟩)
          (fun s x s1 zs s2 hx ⟨r1, r2, r3, r4⟩ => by
            obtain ⟨q1, q2, q3, q4⟩ := ih s.1 s.2 x s1.1 s1.2 hx
            refine ⟨by rw [q1, r1]; simp [eLs], fun L hL => ?_, ?_, fun h => r4 (q4 h)⟩
            · rcases List.mem_cons.1 hL with rfl | hL
              · exact q2
              · exact r2 L hL
            · rw [r3, q3]; simp only [Lv.sizes]; omega) _ _ _ _ e2
        refine ⟨?_, ?_, ?_, fun h => m4 (by show p + 1 ≤ 64; omega)⟩
        · rw [eL_mk, b1]
          have hk4 : ¬ ((k : Int) = 4) := by omega
          rw [if_neg hk4]
          simp only at m1
          rw [m1]; simp
        · exact WfL.mk (k := k) (n := 0) hk hl (fun _ => rfl) (by omega) m2
        · have m3' : p2 = p + 1 + Lv.sizes ys := m3
          rw [Lv.size_mk, m3']; omega

theorem rLevel_only {bs r : Bs} {L : Lv} (h : rLevel bs = .ok (L, r)) : bs = eL L ++ r ∧ WfL L ∧ L.size ≤ 64 := by
  obtain ⟨⟨M, p, r1⟩, e, h⟩ := Er.bind_ok h
  simp only [Er.ok.injEq, Prod.mk.injEq] at h
  obtain ⟨rfl, rfl⟩ := h
  obtain ⟨h1, h2, h3, h4⟩ := rLv_only 32 0 bs _ p _ e
  exact ⟨h1, h2, by have := h4 (by omega); omega⟩

theorem rTm_only (f : Nat) : ∀ (p : Nat) (bs : Bs) (t : Pm) (p' : Nat) (r : Bs), rTm f (p, bs) = .ok (t, p', r) → bs = eT t ++ r ∧ WfT t := by
  induction f with
  | zero =>
    intro p bs L p' r h
    simp only [rTm] at h
    split at h <;> cases h
  | succ f ih =>
    intro p bs t p' r h
    simp only [rTm] at h
    split at h
    · cases h
    · obtain ⟨⟨k, r1⟩, e1, h⟩ := Er.bind_ok h
      obtain ⟨b1, _, hk⟩ := rKind_only e1
      simp only at h
      split at h
      · rename_i h0
        subst h0
        obtain ⟨⟨n, r2⟩, e2, h⟩ := Er.bind_ok h
        obtain ⟨b2, hn⟩ := rNum_only e2
        simp only [Er.ok.injEq, Prod.mk.injEq] at h
        obtain ⟨rfl, _, rfl⟩ := h
        refine ⟨by rw [eT_mk, b1, b2]; simp [eHead, eTs], WfT.mk ⟨by omega, by omega, by omega, by omega, by simp [argT], fun h => absurd rfl h, fun _ => rfl, ⟨fun h => by omega, fun _ _ => rfl, by simp⟩, by simp⟩ (by simp)⟩
      · split at h
        · rename_i h0 h1
          subst h1
          obtain ⟨⟨M, r2⟩, e2, h⟩ := Er.bind_ok h
          obtain ⟨b2, hw, hz⟩ := rLevel_only e2
          simp only [Er.ok.injEq, Prod.mk.injEq] at h
          obtain ⟨rfl, _, rfl⟩ := h
          refine ⟨by rw [eT_mk, b1, b2]; simp [eHead, eTs, eLs], WfT.mk ⟨by omega, by omega, by omega, by omega, by simp [argT], fun _ => rfl, fun _ => rfl, ⟨fun _ => rfl, fun h => absurd rfl h, by simp⟩, fun L hL => ?_⟩ (by simp)⟩
          obtain rfl : L = M := by simpa using hL
          exact ⟨hw, by omega⟩
        · split at h
          · rename_i h0 h1 h2
            subst h2
            obtain ⟨⟨s, r2⟩, e2, h⟩ := Er.bind_ok h
            obtain ⟨⟨c, r3⟩, e3, h⟩ := Er.bind_ok h
            obtain ⟨⟨ls, r4⟩, e4, h⟩ := Er.bind_ok h
            obtain ⟨b2, hs⟩ := rName_only e2
            obtain ⟨b3, hc, _⟩ := rUpTo_only e3
            simp only [Er.ok.injEq, Prod.mk.injEq] at h
            obtain ⟨rfl, _, rfl⟩ := h
            obtain ⟨⟨m1, m2⟩, hl⟩ := rMany_only (rd := rLevel) (R := fun s ys s2 => s = eLs ys ++ s2 ∧ ∀ L ∈ ys, WfL L ∧ L.size ≤ 65536)
              (fun s => ⟨by simp [eLs], by simp⟩)
              (fun s x s1 zs s2 hx ⟨r1, r2⟩ => by
                obtain ⟨q1, q2, q3⟩ := rLevel_only hx
                refine ⟨by rw [q1, r1]; simp [eLs], fun L hL => ?_⟩
                rcases List.mem_cons.1 hL with rfl | hL
                · exact ⟨q2, by omega⟩
                · exact r2 L hL) _ _ _ _ e4
            refine ⟨?_, WfT.mk ⟨by omega, by omega, by omega, by omega, by simp [argT], fun _ => rfl, fun h => absurd rfl h, ⟨fun h => by omega, fun _ h => absurd rfl h, by omega⟩, m2⟩ (by simp)⟩
            have b3' : r2 = Lib.uvarint c ++ r3 := b3
            have m1' : r3 = eLs ls ++ r4 := m1
            have hl' : ls.length = c := hl
            rw [eT_mk, b1, b2, b3', m1', ← hl']
            simp [eHead, eTs]
          · rename_i h0 h1 h2
            obtain ⟨⟨ys, p2, r2⟩, e2, h⟩ := Er.bind_ok h
            simp only [Er.ok.injEq, Prod.mk.injEq] at h
            obtain ⟨rfl, rfl, rfl⟩ := h
            obtain ⟨⟨m1, m2⟩, hl⟩ := rMany_only (rd := rTm f) (R := fun s ys s2 => s.2 = eTs ys ++ s2.2 ∧ ∀ t ∈ ys, WfT t)
              (fun s => ⟨by simp [eTs], by simp⟩)
              (fun s x s1 zs s2 hx ⟨r1, r2⟩ => by
                obtain ⟨q1, q2⟩ := ih s.1 s.2 x s1.1 s1.2 hx
                refine ⟨by rw [q1, r1]; simp [eTs], fun L hL => ?_⟩
                rcases List.mem_cons.1 hL with rfl | hL
                · exact q2
                · exact r2 L hL) _ _ _ _ e2
            refine ⟨?_, WfT.mk ⟨by omega, by omega, by omega, by omega, by simpa using hl, fun _ => rfl, fun _ => rfl, ⟨fun h => by omega, fun _ _ => rfl, by simp⟩, by simp⟩ m2⟩
            simp only at m1
            rw [eT_mk, b1, m1]
            have k0 : ¬ ((k : Int) = 0) := by omega
            have k1 : ¬ ((k : Int) = 1) := by omega
            have k2 : ¬ ((k : Int) = 2) := by omega
            unfold eHead
            rw [if_neg k0, if_neg k1, if_neg k2]
            simp

theorem rTerm_only {bs r : Bs} {t : Pm} (h : rTerm bs = .ok (t, r)) : bs = eT t ++ r ∧ WfT t := by
  obtain ⟨⟨M, p, r1⟩, e, h⟩ := Er.bind_ok h
  simp only [Er.ok.injEq, Prod.mk.injEq] at h
  obtain ⟨rfl, rfl⟩ := h
  exact rTm_only 100 0 bs _ p _ e

/-- A constructor's bytes; a declaration's. -/
def eCtor (c : Bs × Pm) : Bs := eX c.1 ++ eT c.2
def eCtors (l : List (Bs × Pm)) : Bs := (l.map eCtor).flatten
def eDecl (d : Dc) : Bs :=
  Lib.uvarint d.k ++ Lib.uvarint d.p ++ Lib.uvarint d.c ++ eX d.n ++ eX d.f ++ eT d.t ++ Lib.uvarint (vals d.k) ++ (if d.k = 2 then eT d.v else []) ++ Lib.uvarint d.cs.length ++ eCtors d.cs

/-- A declaration as reading tells it. -/
structure WfD (d : Dc) : Prop where
  k0 : 1 ≤ d.k
  k1 : d.k ≤ 5
  p : d.p ≤ 1073741824
  c : d.c ≤ 1073741824
  n : d.n.length ≤ 24
  f : d.f.length ≤ 24
  t : WfT d.t
  v : (d.k = 2 → WfT d.v) ∧ (d.k ≠ 2 → d.v = noTm)
  cs : d.cs.length ≤ 5
  each : ∀ x ∈ d.cs, x.1.length ≤ 24 ∧ WfT x.2

theorem rCtor_only {bs r : Bs} {c : Bs × Pm} (h : rCtor bs = .ok (c, r)) : bs = eCtor c ++ r ∧ c.1.length ≤ 24 ∧ WfT c.2 := by
  obtain ⟨⟨s, r1⟩, e1, h⟩ := Er.bind_ok h
  obtain ⟨⟨t, r2⟩, e2, h⟩ := Er.bind_ok h
  obtain ⟨b1, h1⟩ := rName_only e1
  obtain ⟨b2, h2⟩ := rTerm_only e2
  simp only [Er.ok.injEq, Prod.mk.injEq] at h
  obtain ⟨rfl, rfl⟩ := h
  have b2' : r1 = eT t ++ r2 := b2
  exact ⟨by rw [b1, b2']; simp [eCtor], h1, h2⟩

theorem rVal_only {k : Nat} {bs r : Bs} {v : Pm} (h : rVal k bs = .ok (v, r)) : bs = Lib.uvarint (vals k) ++ (if k = 2 then eT v else []) ++ r ∧ (k = 2 → WfT v) ∧ (k ≠ 2 → v = noTm) := by
  obtain ⟨⟨x, r1⟩, e1, h⟩ := Er.bind_ok h
  obtain ⟨b1, l1, l2⟩ := rKind_only e1
  have hx : x = vals k := by omega
  subst hx
  by_cases hk : k = 2
  · subst hk
    have hv : vals 2 = 1 := rfl
    simp only [hv, if_true] at h
    obtain ⟨b2, h2⟩ := rTerm_only h
    exact ⟨by rw [b1, b2]; simp, fun _ => h2, fun h => absurd rfl h⟩
  · have hv : vals k = 0 := by unfold vals; rw [if_neg hk]
    simp only [hv] at h
    rw [if_neg (by omega)] at h
    simp only [Er.ok.injEq, Prod.mk.injEq] at h
    obtain ⟨rfl, rfl⟩ := h
    exact ⟨by rw [b1, if_neg hk]; simp, fun h => absurd h hk, fun _ => rfl⟩

theorem rDecl_only {bs r : Bs} {d : Dc} (h : rDecl bs = .ok (d, r)) : bs = eDecl d ++ r ∧ WfD d := by
  obtain ⟨⟨k, r1⟩, e1, h⟩ := Er.bind_ok h
  obtain ⟨⟨p, r2⟩, e2, h⟩ := Er.bind_ok h
  obtain ⟨⟨c, r3⟩, e3, h⟩ := Er.bind_ok h
  obtain ⟨⟨n, r4⟩, e4, h⟩ := Er.bind_ok h
  obtain ⟨⟨f, r5⟩, e5, h⟩ := Er.bind_ok h
  obtain ⟨⟨t, r6⟩, e6, h⟩ := Er.bind_ok h
  obtain ⟨⟨v, r7⟩, e7, h⟩ := Er.bind_ok h
  obtain ⟨⟨m, r8⟩, e8, h⟩ := Er.bind_ok h
  obtain ⟨⟨cs, r9⟩, e9, h⟩ := Er.bind_ok h
  obtain ⟨b1, k0, k1⟩ := rKind_only e1
  obtain ⟨b2, hp⟩ := rNum_only e2
  obtain ⟨b3, hc⟩ := rNum_only e3
  obtain ⟨b4, hn⟩ := rName_only e4
  obtain ⟨b5, hf⟩ := rName_only e5
  obtain ⟨b6, ht⟩ := rTerm_only e6
  obtain ⟨b7, hv⟩ := rVal_only e7
  obtain ⟨b8, hm, _⟩ := rUpTo_only e8
  obtain ⟨⟨m1, m2⟩, hl⟩ := rMany_only (rd := rCtor) (R := fun s ys s2 => s = eCtors ys ++ s2 ∧ ∀ x ∈ ys, x.1.length ≤ 24 ∧ WfT x.2)
    (fun s => ⟨by simp [eCtors], by simp⟩)
    (fun s x s1 zs s2 hx ⟨r1, r2⟩ => by
      obtain ⟨q1, q2, q3⟩ := rCtor_only hx
      refine ⟨by rw [q1, r1]; simp [eCtors], fun y hy => ?_⟩
      rcases List.mem_cons.1 hy with rfl | hy
      · exact ⟨q2, q3⟩
      · exact r2 y hy) _ _ _ _ e9
  simp only [Er.ok.injEq, Prod.mk.injEq] at h
  obtain ⟨rfl, rfl⟩ := h
  have b2' : r1 = Lib.uvarint p ++ r2 := b2
  have b3' : r2 = Lib.uvarint c ++ r3 := b3
  have b4' : r3 = eX n ++ r4 := b4
  have b5' : r4 = eX f ++ r5 := b5
  have b6' : r5 = eT t ++ r6 := b6
  have b7' : r6 = Lib.uvarint (vals k) ++ (if k = 2 then eT v else []) ++ r7 := b7
  have b8' : r7 = Lib.uvarint m ++ r8 := b8
  have m1' : r8 = eCtors cs ++ r9 := m1
  have hl' : cs.length = m := hl
  refine ⟨?_, ⟨k0, k1, hp, hc, hn, hf, ht, hv, (by show cs.length ≤ 5; omega), m2⟩⟩
  rw [b1, b2', b3', b4', b5', b6', b7', b8', m1', ← hl']
  simp [eDecl]
end Go.Proofs.YtkbpmpcbajnmlaaDoor
