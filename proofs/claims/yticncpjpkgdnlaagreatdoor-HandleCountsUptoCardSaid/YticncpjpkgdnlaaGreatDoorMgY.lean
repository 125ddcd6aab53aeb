/- Several texts as one. -/
import Derived.Test.YticncpjpkgdnlaaGreatDoorMgX
/-
  Parse of what Write says; texts that Parse takes, and what they say.
-/
set_option linter.unusedVariables false
set_option linter.unusedSimpArgs false
namespace Go.Proofs.YticncpjpkgdnlaaGreatDoor
namespace Bs

/- Which form. -/
theorem formF_0 (X r : List UInt8) {k : Nat} (hk : k < 7) (hX : X = shorts.getD k [] ++ [44] ++ r) : formS X = 0 := by
  subst hX
  rcases (by omega : k = 0 ∨ k = 1 ∨ k = 2 ∨ k = 3 ∨ k = 4 ∨ k = 5 ∨ k = 6) with rfl | rfl | rfl | rfl | rfl | rfl | rfl <;> simp [formS, formF, shorts, longs, hp]
theorem formF_1 (X r : List UInt8) {k : Nat} (hk : k < 7) (hX : X = longs.getD k [] ++ [44] ++ r) : formS X = 1 := by
  subst hX
  rcases (by omega : k = 0 ∨ k = 1 ∨ k = 2 ∨ k = 3 ∨ k = 4 ∨ k = 5 ∨ k = 6) with rfl | rfl | rfl | rfl | rfl | rfl | rfl <;> simp [formS, formF, shorts, longs, hp]
theorem formF_2 (X r : List UInt8) {k : Nat} (hk : k < 7) (hX : X = shorts.getD k [] ++ [32] ++ r) : formS X = 2 := by
  subst hX
  rcases (by omega : k = 0 ∨ k = 1 ∨ k = 2 ∨ k = 3 ∨ k = 4 ∨ k = 5 ∨ k = 6) with rfl | rfl | rfl | rfl | rfl | rfl | rfl <;> simp [formS, formF, shorts, longs, hp]
theorem form_txt {form : Int} (hf : form = 0 ∨ form = 1 ∨ form = 2) {Y m h i s k : Nat} {dt : List UInt8} (hk : k < 7) : formS (txt form Y m h i s k dt) = form := by
  rcases hf with rfl | rfl | rfl
  · exact formF_0 _ ([32] ++ dt ++ [32] ++ mons.getD (m - 1) [] ++ [32] ++ d4 Y ++ clk h i s ++ [32, 71, 77, 84]) hk (by unfold txt; simp)
  · exact formF_1 _ ([32] ++ dt ++ [45] ++ mons.getD (m - 1) [] ++ [45] ++ d2 Y ++ clk h i s ++ [32, 71, 77, 84]) hk (by unfold txt; simp)
  · exact formF_2 _ (mons.getD (m - 1) [] ++ [32] ++ dt ++ clk h i s ++ [32] ++ d4 Y) hk (by unfold txt; simp)

def yrS (f Y now : Int) : Int := if f = 1 then nearS Y (yearOfM now) else Y
theorem takes_txt {form : Int} (hf : form = 0 ∨ form = 1 ∨ form = 2) {Y m h i s k d : Nat} {dt : List UInt8} (hY : Y < if form = 1 then 100 else 10000) (hm : m < 12) (hd : d < 100) (hh : h < 100) (hi : i < 100) (hs : s < 100) (hk : k < 7) (hdt : DayT form d dt) :
    ∃ p0 p1 q2 p3 p4 p5 p6 : Int, takes (txt form Y (m + 1) h i s k dt) (tks form) 0 z14 = .ok ((txt form Y (m + 1) h i s k dt).length, [(k : Int), p0, (d : Int), p1, (m : Int), q2, (Y : Int), p3, (h : Int), p4, (i : Int), p5, (s : Int), p6]) := by
  rcases hf with rfl | rfl | rfl
  · have e : dt = d2 d := by
      rcases hdt with h | ⟨h, _⟩
      · exact h
      · omega
    subst e
    exact takes_F (by simpa using hY) hm hd hh hi hs hk (by unfold txt clk; simp)
  · have e : dt = d2 d := by
      rcases hdt with h | ⟨h, _⟩
      · exact h
      · omega
    subst e
    exact takes_L (by simpa using hY) hm hd hh hi hs hk (by unfold txt clk; simp)
  · exact takes_P (by simpa using hY) hm hd hh hi hs hk hdt (by unfold txt clk; simp)
theorem takes_txt' {l : List UInt8} {form : Int} (hf : form = 0 ∨ form = 1 ∨ form = 2) {e : Nat} {st : List Int} (h : takes l (tks form) 0 z14 = .ok (e, st)) (he : e = l.length) :
    ∃ (Y m h i s k d : Nat) (dt : List UInt8) (p0 p1 q2 p3 p4 p5 p6 : Int), (Y < if form = 1 then 100 else 10000) ∧ m < 12 ∧ d < 100 ∧ h < 100 ∧ i < 100 ∧ s < 100 ∧ k < 7 ∧ DayT form d dt ∧ st = [(k : Int), p0, (d : Int), p1, (m : Int), q2, (Y : Int), p3, (h : Int), p4, (i : Int), p5, (s : Int), p6] ∧ l = txt form Y (m + 1) h i s k dt := by
  rcases hf with rfl | rfl | rfl
  · obtain ⟨Y, m, hr, i, s, k, d, p0, p1, q2, p3, p4, p5, p6, hY, hm, hd, hh, hi, hs, hk, hst, hl⟩ := takes_F' h he
    exact ⟨Y, m, hr, i, s, k, d, d2 d, p0, p1, q2, p3, p4, p5, p6, by simpa using hY, hm, hd, hh, hi, hs, hk, .inl rfl, hst, by rw [hl]; unfold txt clk; simp⟩
  · obtain ⟨Y, m, hr, i, s, k, d, p0, p1, q2, p3, p4, p5, p6, hY, hm, hd, hh, hi, hs, hk, hst, hl⟩ := takes_L' h he
    exact ⟨Y, m, hr, i, s, k, d, d2 d, p0, p1, q2, p3, p4, p5, p6, by simpa using hY, hm, hd, hh, hi, hs, hk, .inl rfl, hst, by rw [hl]; unfold txt clk; simp⟩
  · obtain ⟨Y, m, hr, i, s, k, d, dt, p0, p1, q2, p3, p4, p5, p6, hY, hm, hd, hh, hi, hs, hk, hdt, hst, hl⟩ := takes_P' h he
    exact ⟨Y, m, hr, i, s, k, d, dt, p0, p1, q2, p3, p4, p5, p6, by simpa using hY, hm, hd, hh, hi, hs, hk, hdt, hst, by rw [hl]; unfold txt clk; simp⟩

theorem mom_ok {y : Int} {k p0 d p1 m q2 Y p3 h p4 i p5 s p6 : Int} (e : (momS y [k, p0, d, p1, m, q2, Y, p3, h, p4, i, p5, s, p6]).2.1 = 0) :
    IsD y (m + 1) d ∧ h ≤ 23 ∧ i ≤ 59 ∧ s ≤ 60 ∧ k = wday (dn y (m + 1) d) ∧ (momS y [k, p0, d, p1, m, q2, Y, p3, h, p4, i, p5, s, p6]).1 = dn y (m + 1) d * 86400 + h * 3600 + i * 60 + s := by
  simp only [momS, g, List.getD_cons_zero, List.getD_cons_succ] at e ⊢
  by_cases h1 : y < 1 ∨ 9999 < y
  · rw [if_pos h1] at e; dsimp only at e; omega
  rw [if_neg h1] at e ⊢
  by_cases h2 : ¬ (1 ≤ d ∧ d ≤ md y (m + 1))
  · rw [if_pos h2] at e; dsimp only at e; omega
  rw [if_neg h2] at e ⊢
  by_cases h3 : 23 < h
  · rw [if_pos h3] at e; dsimp only at e; omega
  rw [if_neg h3] at e ⊢
  by_cases h4 : 59 < i
  · rw [if_pos h4] at e; dsimp only at e; omega
  rw [if_neg h4] at e ⊢
  by_cases h5 : 60 < s
  · rw [if_pos h5] at e; dsimp only at e; omega
  rw [if_neg h5] at e ⊢
  by_cases h6 : k ≠ wday (dn y (m + 1) d)
  · rw [if_pos h6] at e; dsimp only at e; omega
  rw [if_neg h6] at e ⊢
  split at e
  · dsimp only at e; omega
  · rename_i h7
    rw [if_neg h7]
    have h2' := Decidable.not_not.1 h2
    exact ⟨⟨by omega, by omega, h2'.1, h2'.2⟩, by omega, by omega, by omega, Decidable.not_not.1 h6, rfl⟩
theorem mom_to {y : Int} {k p0 d p1 m q2 Y p3 h p4 i p5 s p6 : Int} (h1 : IsD y (m + 1) d) (h3 : h ≤ 23) (h4 : i ≤ 59) (h5 : s ≤ 60) (h6 : k = wday (dn y (m + 1) d)) (h7 : dn y (m + 1) d * 86400 + h * 3600 + i * 60 + s ≤ 253402300799) :
    momS y [k, p0, d, p1, m, q2, Y, p3, h, p4, i, p5, s, p6] = (dn y (m + 1) d * 86400 + h * 3600 + i * 60 + s, 0, 0) := by
  obtain ⟨y1, y2, d1, d2⟩ := h1
  simp only [momS, g, List.getD_cons_zero, List.getD_cons_succ]
  rw [if_neg (by omega), if_neg (fun c => c ⟨d1, d2⟩), if_neg (by omega), if_neg (by omega), if_neg (by omega), if_neg (fun c => c h6), if_neg (by omega)]

/-- What a text that is taken says. -/
structure Says (l : List UInt8) (now t f : Int) (Y m h i s k d : Nat) (dt : List UInt8) : Prop where
  hf : f = 0 ∨ f = 1 ∨ f = 2
  form : f = formS l
  hY : Y < if f = 1 then 100 else 10000
  hm : m < 12
  hd : d < 100
  hk : k < 7
  hdt : DayT f d dt
  hl : l = txt f Y (m + 1) h i s k dt
  is : IsD (yrS f Y now) ((m : Int) + 1) d
  hh : h ≤ 23
  hi : i ≤ 59
  hs : s ≤ 60
  hw : (k : Int) = wday (dn (yrS f Y now) ((m : Int) + 1) d)
  ht : t = dn (yrS f Y now) ((m : Int) + 1) d * 86400 + h * 3600 + i * 60 + s
theorem parse_says {l : List UInt8} {now t f e p : Int} (h : parseS l now = (t, f, e, p)) (he : e = 0) : isM now ∧ ∃ Y m h i s k d dt, Says l now t f Y m h i s k d dt := by
  unfold parseS at h
  by_cases hn : isM now
  · rw [if_neg (fun c => c hn)] at h
    refine ⟨hn, ?_⟩
    cases hr : takes l (tks (formS l)) 0 z14 with
    | error a =>
      rw [hr] at h
      simp only [pars2] at h
      cases h
      omega
    | ok r =>
      obtain ⟨a, st⟩ := r
      rw [hr] at h
      simp only [pars2] at h
      by_cases ha : a ≠ l.length
      · rw [if_pos ha] at h
        cases h
        omega
      rw [if_neg ha] at h
      obtain ⟨Y, m, hr', i, s, k, d, dt, p0, p1, q2, p3, p4, p5, p6, hY, hm, hd, hh, hi, hs, hk, hdt, hst, hl⟩ := takes_txt' (formS_r l) hr (Decidable.not_not.1 ha)
      by_cases h0 : (momS (yS l now st) st).2.1 = 0
      · rw [if_pos h0] at h
        have ey : yS l now st = yrS (formS l) Y now := by
          unfold yS yrS
          subst hst
          rfl
        rw [ey, hst] at h0
        obtain ⟨k1, k2, k3, k4, k5, k6⟩ := mom_ok h0
        have e1 := congrArg Prod.fst h
        have e2 := congrArg (fun x => x.2.1) h
        dsimp only at e1 e2
        rw [ey, hst, k6] at e1
        subst e2
        exact ⟨Y, m, hr', i, s, k, d, dt, formS_r l, rfl, hY, hm, hd, hk, hdt, hl, k1, by omega, by omega, by omega, k5, e1.symm⟩
      · rw [if_neg h0] at h
        exfalso
        apply h0
        have := congrArg (fun x => x.2.2.1) h
        dsimp only at this
        omega
  · rw [if_pos hn] at h
    cases h
    omega
theorem parse_to {now : Int} (hn : isM now) {f : Int} (hf : f = 0 ∨ f = 1 ∨ f = 2) {Y m h i s k d : Nat} {dt : List UInt8} (hY : Y < if f = 1 then 100 else 10000) (hm : m < 12) (hd : d < 100) (hh : h ≤ 23) (hi : i ≤ 59) (hs : s ≤ 60) (hk : k < 7) (hdt : DayT f d dt) :
    ∃ p0 p1 q2 p3 p4 p5 p6 : Int, parseS (txt f Y (m + 1) h i s k dt) now = if (momS (yrS f Y now) [(k : Int), p0, (d : Int), p1, (m : Int), q2, (Y : Int), p3, (h : Int), p4, (i : Int), p5, (s : Int), p6]).2.1 = 0 then ((momS (yrS f Y now) [(k : Int), p0, (d : Int), p1, (m : Int), q2, (Y : Int), p3, (h : Int), p4, (i : Int), p5, (s : Int), p6]).1, f, 0, 0) else (0, 0, (momS (yrS f Y now) [(k : Int), p0, (d : Int), p1, (m : Int), q2, (Y : Int), p3, (h : Int), p4, (i : Int), p5, (s : Int), p6]).2.1, (momS (yrS f Y now) [(k : Int), p0, (d : Int), p1, (m : Int), q2, (Y : Int), p3, (h : Int), p4, (i : Int), p5, (s : Int), p6]).2.2) := by
  obtain ⟨p0, p1, q2, p3, p4, p5, p6, ht⟩ := takes_txt hf hY hm hd (by omega) (by omega) (by omega) hk hdt (h := h) (i := i) (s := s)
  refine ⟨p0, p1, q2, p3, p4, p5, p6, ?_⟩
  unfold parseS
  rw [if_neg (fun c => c hn), form_txt hf hk, ht]
  simp only [pars2]
  rw [if_neg (fun c => c rfl)]
  have ey : yS (txt f Y (m + 1) h i s k dt) now [(k : Int), p0, (d : Int), p1, (m : Int), q2, (Y : Int), p3, (h : Int), p4, (i : Int), p5, (s : Int), p6] = yrS f Y now := by
    unfold yS yrS
    rw [form_txt hf hk]
    rfl
  rw [ey, form_txt hf hk]

/- There and back. -/
theorem parts_of {t : Int} (ht : isM t) : ∃ y m d h i s k : Nat, (ymd (t / 86400)).1 = y ∧ (ymd (t / 86400)).2.1 = (m : Int) + 1 ∧ (ymd (t / 86400)).2.2 = d ∧ t % 86400 / 3600 = h ∧ t % 86400 % 3600 / 60 = i ∧ t % 86400 % 60 = s ∧ wday (t / 86400) = k ∧ IsD y ((m : Int) + 1) d ∧ dn y ((m : Int) + 1) d = t / 86400 ∧ m < 12 ∧ d ≤ 31 ∧ y ≤ 9999 ∧ h ≤ 23 ∧ i ≤ 59 ∧ s ≤ 59 ∧ k < 7 := by
  obtain ⟨t1, t2⟩ := ht
  obtain ⟨a, b⟩ := ymd_is (D := t / 86400) (by omega) (by omega)
  have hm := a.m
  have hd := md_le (ymd (t / 86400)).1 (ymd (t / 86400)).2.1
  have hw := wday_r (t / 86400)
  have a' := a
  obtain ⟨y1, y2, d1, d2⟩ := a'
  refine ⟨(ymd (t / 86400)).1.toNat, ((ymd (t / 86400)).2.1 - 1).toNat, (ymd (t / 86400)).2.2.toNat, (t % 86400 / 3600).toNat, (t % 86400 % 3600 / 60).toNat, (t % 86400 % 60).toNat, (wday (t / 86400)).toNat, by omega, by omega, by omega, by omega, by omega, by omega, by omega, ?_, ?_, by omega, by omega, by omega, by omega, by omega, by omega, by omega⟩
  · have e1 : ((ymd (t / 86400)).1.toNat : Int) = (ymd (t / 86400)).1 := by omega
    have e2 : (((ymd (t / 86400)).2.1 - 1).toNat : Int) + 1 = (ymd (t / 86400)).2.1 := by omega
    have e3 : ((ymd (t / 86400)).2.2.toNat : Int) = (ymd (t / 86400)).2.2 := by omega
    rw [e1, e2, e3]
    exact a
  · have e1 : ((ymd (t / 86400)).1.toNat : Int) = (ymd (t / 86400)).1 := by omega
    have e2 : (((ymd (t / 86400)).2.1 - 1).toNat : Int) + 1 = (ymd (t / 86400)).2.1 := by omega
    have e3 : ((ymd (t / 86400)).2.2.toNat : Int) = (ymd (t / 86400)).2.2 := by omega
    rw [e1, e2, e3]
    exact b
theorem writeR_ok {t f : Int} (ht : isM t) (hf : f = 0 ∨ f = 1 ∨ f = 2) {y m d h i s k : Nat} (e1 : (ymd (t / 86400)).1 = y) (e2 : (ymd (t / 86400)).2.1 = (m : Int) + 1) (e3 : (ymd (t / 86400)).2.2 = d) (e4 : t % 86400 / 3600 = h) (e5 : t % 86400 % 3600 / 60 = i) (e6 : t % 86400 % 60 = s) (e7 : wday (t / 86400) = k) :
    writeR t f = (txt f (if f = 1 then y % 100 else y : Nat) (m + 1) h i s k (if f = 2 then p2 32 d else d2 d), 0) := by
  unfold writeR
  rw [if_neg (fun c => c ht), if_neg (fun c => c (by omega)), e1, e2, e3, e4, e5, e6, e7]
  have : ((m : Int) + 1).toNat = m + 1 := by omega
  simp only [Int.toNat_natCast, this]
  rfl
theorem near_y {y this : Int} (h1 : this - 49 ≤ y) (h2 : y ≤ this + 50) : nearS (y % 100) this = y := by
  unfold nearS
  omega
theorem near_r (c this : Int) : this - 49 ≤ nearS c this ∧ nearS c this ≤ this + 50 := by
  unfold nearS
  omega
theorem back_to {t f now : Int} (ht : isM t) (hn : isM now) (hf : f = 0 ∨ f = 1 ∨ f = 2) (ha : f ≠ 1 ∨ (yearOfM now - 49 ≤ yearOfM t ∧ yearOfM t ≤ yearOfM now + 50)) : parseS (writeR t f).1 now = (t, f, 0, 0) := by
  obtain ⟨y, m, d, h, i, s, k, e1, e2, e3, e4, e5, e6, e7, hI, hD, hm, hd, hy, hh, hi, hs, hk⟩ := parts_of ht
  rw [writeR_ok ht hf e1 e2 e3 e4 e5 e6 e7]
  have hdt : DayT f d (if f = 2 then p2 32 d else d2 d) := by
    split
    · rename_i h2
      subst h2
      exact dayT_p2
    · exact .inl rfl
  obtain ⟨p0, p1, q2, p3, p4, p5, p6, hp⟩ := parse_to hn hf (Y := (if f = 1 then y % 100 else y : Nat)) (by split <;> omega) hm (by omega) hh hi (by omega) hk hdt (h := h) (i := i) (s := s)
  have ey : yrS f ((if f = 1 then y % 100 else y : Nat) : Int) now = y := by
    unfold yrS
    by_cases h1 : f = 1
    · rw [if_pos h1, if_pos h1]
      have := ha.resolve_left (fun c => c h1)
      have e : yearOfM t = y := e1
      rw [e] at this
      rw [show ((y % 100 : Nat) : Int) = (y : Int) % 100 by omega]
      exact near_y this.1 this.2
    · rw [if_neg h1, if_neg h1]
  dsimp only
  rw [hp, ey]
  have hw : (k : Int) = wday (dn y ((m : Int) + 1) d) := by rw [hD, e7]
  have htt : dn y ((m : Int) + 1) d * 86400 + h * 3600 + i * 60 + s = t := by rw [hD]; omega
  have hmx := ht.2
  rw [mom_to hI (by omega) (by omega) (by omega) hw (by omega), if_pos rfl, htt]
theorem back_far {t now : Int} (ht : isM t) (hn : isM now) (ha : ¬ (yearOfM now - 49 ≤ yearOfM t ∧ yearOfM t ≤ yearOfM now + 50)) : (parseS (writeR t 1).1 now).2.2.1 ≠ 0 ∨ (parseS (writeR t 1).1 now).1 ≠ t := by
  obtain ⟨y, m, d, h, i, s, k, e1, e2, e3, e4, e5, e6, e7, hI, hD, hm, hd, hy, hh, hi, hs, hk⟩ := parts_of ht
  rw [writeR_ok ht (.inr (.inl rfl)) e1 e2 e3 e4 e5 e6 e7]
  obtain ⟨p0, p1, q2, p3, p4, p5, p6, hp⟩ := parse_to (f := 1) hn (.inr (.inl rfl)) (Y := y % 100) (by simp; omega) hm (by omega) hh hi (by omega) hk (dt := d2 d) (.inl rfl) (h := h) (i := i) (s := s) (d := d)
  have e : (txt 1 (if (1 : Int) = 1 then y % 100 else y : Nat) (m + 1) h i s k (if (1 : Int) = 2 then p2 32 d else d2 d)) = txt 1 (y % 100) (m + 1) h i s k (d2 d) := rfl
  dsimp only
  rw [e, hp]
  have hr := near_r ((y % 100 : Nat) : Int) (yearOfM now)
  have ey : yrS 1 ((y % 100 : Nat) : Int) now = nearS ((y % 100 : Nat) : Int) (yearOfM now) := rfl
  rw [ey]
  by_cases h0 : (momS (nearS ((y % 100 : Nat) : Int) (yearOfM now)) [(k : Int), p0, (d : Int), p1, (m : Int), q2, ((y % 100 : Nat) : Int), p3, (h : Int), p4, (i : Int), p5, (s : Int), p6]).2.1 = 0
  · obtain ⟨k1, _, _, _, _, k6⟩ := mom_ok h0
    rw [if_pos h0]
    refine .inr ?_
    dsimp only
    rw [k6]
    intro hc
    have hdn : dn (nearS ((y % 100 : Nat) : Int) (yearOfM now)) ((m : Int) + 1) d = dn y ((m : Int) + 1) d := by
      rw [hD]
      omega
    have := (dn_inj k1 hI hdn).1
    have et : yearOfM t = y := e1
    apply ha
    rw [et]
    omega
  · rw [if_neg h0]
    exact .inl h0

end Bs
end Go.Proofs.YticncpjpkgdnlaaGreatDoor

/-
  Texts that differ say unlike moments; texts in the first form and their moments.
-/
set_option linter.unusedVariables false
set_option linter.unusedSimpArgs false
namespace Go.Proofs.YticncpjpkgdnlaaGreatDoor
namespace Bs

def Leapt (l : List UInt8) : Prop := ∃ i, i + 3 ≤ l.length ∧ (l.drop i).take 3 = [58, 54, 48]
theorem leapt_of {l A B : List UInt8} (h : l = A ++ ([58, 54, 48] ++ B)) : Leapt l := by
  refine ⟨A.length, ?_, ?_⟩
  · rw [h]
    simp
  · rw [h, List.drop_left]
    rfl
theorem Says.no60 {l : List UInt8} {now t f : Int} {Y m h i s k d : Nat} {dt : List UInt8} (S : Says l now t f Y m h i s k d dt) (hl : ¬ Leapt l) : s ≤ 59 := by
  by_cases h60 : s = 60
  · exfalso
    apply hl
    have e : d2 60 = [54, 48] := rfl
    have hl := S.hl
    rw [h60] at hl
    unfold txt clk at hl
    rw [e] at hl
    rcases S.hf with rfl | rfl | rfl
    · exact leapt_of (A := shorts.getD k [] ++ [44, 32] ++ dt ++ [32] ++ mons.getD (m + 1 - 1) [] ++ [32] ++ d4 Y ++ ([32] ++ d2 h ++ [58] ++ d2 i)) (B := [32, 71, 77, 84]) (by rw [hl]; simp)
    · exact leapt_of (A := longs.getD k [] ++ [44, 32] ++ dt ++ [45] ++ mons.getD (m + 1 - 1) [] ++ [45] ++ d2 Y ++ ([32] ++ d2 h ++ [58] ++ d2 i)) (B := [32, 71, 77, 84]) (by rw [hl]; simp)
    · exact leapt_of (A := shorts.getD k [] ++ [32] ++ mons.getD (m + 1 - 1) [] ++ [32] ++ dt ++ ([32] ++ d2 h ++ [58] ++ d2 i)) (B := [32] ++ d4 Y) (by rw [hl]; simp)
  · have := S.hs
    omega
/-- The same moment: the same pieces. -/
theorem Says.same {a b : List UInt8} {now t f : Int} {Y m h i s k d Y' m' h' i' s' k' d' : Nat} {dt dt' : List UInt8} (S : Says a now t f Y m h i s k d dt) (T : Says b now t f Y' m' h' i' s' k' d' dt') (hs : s ≤ 59) (hs' : s' ≤ 59) :
    Y = Y' ∧ m = m' ∧ h = h' ∧ i = i' ∧ s = s' ∧ k = k' ∧ d = d' := by
  have e := S.ht.symm.trans T.ht
  have a1 := S.hh
  have a2 := S.hi
  have b1 := T.hh
  have b2 := T.hi
  have hw := S.hw
  have hw' := T.hw
  generalize hD : dn (yrS f Y now) ((m : Int) + 1) d = D at *
  generalize hD' : dn (yrS f Y' now) ((m' : Int) + 1) d' = D' at *
  have e1 : D = D' := by omega
  subst e1
  obtain ⟨c1, c2, c3⟩ := dn_inj S.is T.is (hD.trans hD'.symm)
  have hY := S.hY
  have hY' := T.hY
  refine ⟨?_, by omega, by omega, by omega, by omega, by omega, by omega⟩
  unfold yrS at c1
  by_cases h1 : f = 1
  · rw [if_pos h1] at c1 hY hY'
    rw [if_pos h1] at c1
    unfold nearS at c1
    omega
  · rw [if_neg h1, if_neg h1] at c1
    omega
def cut9 (l : List UInt8) : List UInt8 := l.take 8 ++ l.drop 9
theorem cut9_txt {Y m h i s k d : Nat} {dt : List UInt8} (hk : k < 7) (hm : m < 12) (hdt : DayT 2 d dt) : cut9 (txt 2 Y (m + 1) h i s k dt) = (shorts.getD k [] ++ ([32] ++ (mons.getD m [] ++ [32]))) ++ (dg d :: (clk h i s ++ ([32] ++ d4 Y))) ∧ 9 < (txt 2 Y (m + 1) h i s k dt).length := by
  obtain ⟨x, hx⟩ : ∃ x, dt = [x, dg d] := by
    rcases hdt with rfl | ⟨_, _, rfl⟩
    · exact ⟨_, rfl⟩
    · exact ⟨_, rfl⟩
  subst hx
  have n1 := shorts_n' hk
  have n2 := mons_n' hm
  have e : txt 2 Y (m + 1) h i s k [x, dg d] = (shorts.getD k [] ++ ([32] ++ (mons.getD m [] ++ [32]))) ++ ([x] ++ (dg d :: (clk h i s ++ ([32] ++ d4 Y)))) := by
    unfold txt
    simp
  have hl : (shorts.getD k [] ++ ([32] ++ (mons.getD m [] ++ [32]))).length = 8 := by
    simp only [List.length_append, n1, n2]
    rfl
  generalize shorts.getD k [] ++ ([32] ++ (mons.getD m [] ++ [32])) = A at *
  have hB : 1 ≤ (dg d :: (clk h i s ++ ([32] ++ d4 Y))).length := by simp
  generalize dg d :: (clk h i s ++ ([32] ++ d4 Y)) = B at *
  rw [e]
  unfold cut9
  refine ⟨?_, ?_⟩
  · rw [show (A ++ ([x] ++ B)).take 8 = A by rw [← hl, List.take_left], show (A ++ ([x] ++ B)).drop 9 = B by rw [← List.append_assoc, show 9 = (A ++ [x]).length by simp [hl]]; exact List.drop_left]
  · simp only [List.length_append, hl, List.length_cons, List.length_nil]
    omega
theorem clk_inj {h i s h' i' s' : Nat} {r r' : List UInt8} (hh : h < 100) (hi : i < 100) (hs : s < 100) (hh' : h' < 100) (hi' : i' < 100) (hs' : s' < 100) (e : clk h i s ++ r = clk h' i' s' ++ r') : h = h' ∧ i = i' ∧ s = s' ∧ r = r' := by
  unfold clk d2 at e
  simp only [List.append_assoc, List.cons_append, List.nil_append, List.cons.injEq, true_and] at e
  obtain ⟨h1, h2, h3, h4, h5, h6, h7⟩ := e
  have h1 := dg_inj h1
  have h2 := dg_inj h2
  have h3 := dg_inj h3
  have h4 := dg_inj h4
  have h5 := dg_inj h5
  have h6 := dg_inj h6
  exact ⟨by omega, by omega, by omega, h7⟩
theorem shorts_inj : ∀ i j : Fin 7, shorts.getD i.val [] = shorts.getD j.val [] → i = j := by decide
theorem mons_inj : ∀ i j : Fin 12, mons.getD i.val [] = mons.getD j.val [] → i = j := by decide
theorem shorts_inj' {i j : Nat} (hi : i < 7) (hj : j < 7) (h : shorts.getD i [] = shorts.getD j []) : i = j := congrArg Fin.val (shorts_inj ⟨i, hi⟩ ⟨j, hj⟩ h)
theorem mons_inj' {i j : Nat} (hi : i < 12) (hj : j < 12) (h : mons.getD i [] = mons.getD j []) : i = j := congrArg Fin.val (mons_inj ⟨i, hi⟩ ⟨j, hj⟩ h)
theorem app_inj {a b c d : List UInt8} (h : a ++ b = c ++ d) (hl : a.length = c.length) : a = c ∧ b = d := List.append_inj h hl

theorem one_cut {a b : List UInt8} {now t t' : Int} {Y m h i s k d Y' m' h' i' s' k' d' : Nat} {dt dt' : List UInt8} (S : Says a now t 2 Y m h i s k d dt) (T : Says b now t' 2 Y' m' h' i' s' k' d' dt') (e : cut9 a = cut9 b) : t = t' := by
  rw [S.hl, T.hl, (cut9_txt S.hk S.hm S.hdt).1, (cut9_txt T.hk T.hm T.hdt).1] at e
  have a1 := S.hh
  have a2 := S.hi
  have a3 := S.hs
  have b1 := T.hh
  have b2 := T.hi
  have b3 := T.hs
  obtain ⟨e1, e2⟩ := app_inj e (by simp only [List.length_append, shorts_n' S.hk, shorts_n' T.hk, mons_n' S.hm, mons_n' T.hm])
  obtain ⟨e3, e4⟩ := app_inj e1 (by rw [shorts_n' S.hk, shorts_n' T.hk])
  obtain ⟨_, e5⟩ := app_inj e4 rfl
  obtain ⟨e6, _⟩ := app_inj e5 (by rw [mons_n' S.hm, mons_n' T.hm])
  have hk := shorts_inj' S.hk T.hk e3
  have hm := mons_inj' S.hm T.hm e6
  simp only [List.cons.injEq] at e2
  have hd := dg_inj e2.1
  obtain ⟨c1, c2, c3, c4⟩ := clk_inj (by omega) (by omega) (by omega) (by omega) (by omega) (by omega) e2.2
  obtain ⟨_, c5⟩ := app_inj c4 rfl
  have hY := S.hY
  have hY' := T.hY
  have cY := d4_inj (by simpa using hY) (by simpa using hY') c5
  subst hk hm c1 c2 c3 cY
  have w1 := S.hw
  have w2 := T.hw
  have i1 := S.is
  have i2 := T.is
  have hml := md_le (yrS 2 Y now) ((m : Int) + 1)
  obtain ⟨_, _, d1, d2'⟩ := i1
  obtain ⟨_, _, d3, d4'⟩ := i2
  have w3 := w1.symm.trans w2
  unfold wday dn at w3
  have hdd : d = d' := by omega
  subst hdd
  rw [S.ht, T.ht]
theorem one_same {a b : List UInt8} {now t f : Int} {Y m h i s k d Y' m' h' i' s' k' d' : Nat} {dt dt' : List UInt8} (S : Says a now t f Y m h i s k d dt) (T : Says b now t f Y' m' h' i' s' k' d' dt') (hs : ¬ Leapt a) (hs' : ¬ Leapt b) : (f ≠ 2 ∧ a = b) ∨ (f = 2 ∧ 9 < a.length ∧ cut9 a = cut9 b) := by
  obtain ⟨rfl, rfl, rfl, rfl, rfl, rfl, rfl⟩ := S.same T (S.no60 hs) (T.no60 hs')
  by_cases h2 : f = 2
  · subst h2
    have e1 := cut9_txt (Y := Y) (h := h) (i := i) (s := s) S.hk S.hm S.hdt
    have e2 := cut9_txt (Y := Y) (h := h) (i := i) (s := s) T.hk T.hm T.hdt
    refine .inr ⟨rfl, ?_, ?_⟩
    · rw [S.hl]
      exact e1.2
    · rw [S.hl, T.hl, e1.1, e2.1]
  · have d1 : dt = d2 d := S.hdt.resolve_right (fun c => h2 c.1)
    have d2' : dt' = d2 d := T.hdt.resolve_right (fun c => h2 c.1)
    exact .inl ⟨h2, by rw [S.hl, T.hl, d1, d2']⟩

/- Texts in the first form. -/
theorem fix_len {t : Int} (ht : isM t) : (writeR t 0).1.length = 29 ∧ (writeR t 0).2 = 0 := by
  obtain ⟨y, m, d, h, i, s, k, e1, e2, e3, e4, e5, e6, e7, hI, hD, hm, hd, hy, hh, hi, hs, hk⟩ := parts_of ht
  rw [writeR_ok ht (.inl rfl) e1 e2 e3 e4 e5 e6 e7]
  refine ⟨?_, rfl⟩
  have n1 := shorts_n' hk
  have n2 := mons_n' hm
  show (shorts.getD k [] ++ [44, 32] ++ d2 d ++ [32] ++ mons.getD (m + 1 - 1) [] ++ [32] ++ d4 y ++ clk h i s ++ [32, 71, 77, 84]).length = 29
  simp only [List.length_append, n1, Nat.add_sub_cancel, n2]
  rfl
theorem fix_inj {a b : Int} (ha : isM a) (hb : isM b) (h : (writeR a 0).1 = (writeR b 0).1) : a = b := by
  have e1 := back_to (f := 0) (now := 0) ha (by unfold isM; omega) (.inl rfl) (.inl (by decide))
  have e2 := back_to (f := 0) (now := 0) hb (by unfold isM; omega) (.inl rfl) (.inl (by decide))
  rw [h, e2] at e1
  exact (congrArg Prod.fst e1).symm

end Bs
end Go.Proofs.YticncpjpkgdnlaaGreatDoor
