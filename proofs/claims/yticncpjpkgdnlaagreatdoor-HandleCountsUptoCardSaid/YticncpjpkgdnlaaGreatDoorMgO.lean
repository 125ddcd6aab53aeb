/- Several texts as one. -/
import Derived.Test.YticncpjpkgdnlaaGreatDoorMgN
import Derived.Test.YticncpjpkgdnlaaGreatDoorMgB
import Derived.BigQuiet
import Derived.Deep.QuietTactic
import Derived.Deep.RegionHeld3
/-
  Parse of what Write says; texts that Parse takes, and what they say.
-/
set_option linter.unusedVariables false
set_option linter.unusedSimpArgs false
namespace Go.Proofs.YticncpjpkgdnlaaGreatDoor
namespace Bs

/- Which form. -/
theorem formF_0 (X r : List UInt8) {k : Nat} (hk : k < 7) (hX : X = shorts.getD k [] ++ [44] ++ r) : formS X = 0 := by
  subst hX
  rcases (by omega : k = 0 ∨ k = 1 ∨ k = 2 ∨ k = 3 ∨ k = 4 ∨ k = 5 ∨ k = 6) with rfl | rfl | rfl | rfl | rfl | rfl | rfl <;> simp [formS, formF, shorts, longs, hp]
theorem formF_1 (X r : List UInt8) {k : Nat} (hk : k < 7) (hX : X = longs.getD k [] ++ [44] ++ r) : formS X = 1 := by
  subst hX
  rcases (by omega : k = 0 ∨ k = 1 ∨ k = 2 ∨ k = 3 ∨ k = 4 ∨ k = 5 ∨ k = 6) with rfl | rfl | rfl | rfl | rfl | rfl | rfl <;> simp [formS, formF, shorts, longs, hp]
theorem formF_2 (X r : List UInt8) {k : Nat} (hk : k < 7) (hX : X = shorts.getD k [] ++ [32] ++ r) : formS X = 2 := by
  subst hX
  rcases (by omega : k = 0 ∨ k = 1 ∨ k = 2 ∨ k = 3 ∨ k = 4 ∨ k = 5 ∨ k = 6) with rfl | rfl | rfl | rfl | rfl | rfl | rfl <;> simp [formS, formF, shorts, longs, hp]
theorem form_txt {form : Int} (hf : form = 0 ∨ form = 1 ∨ form = 2) {Y m h i s k : Nat} {dt : List UInt8} (hk : k < 7) : formS (txt form Y m h i s k dt) = form := by
  rcases hf with rfl | rfl | rfl
  · exact formF_0 _ ([32] ++ dt ++ [32] ++ mons.getD (m - 1) [] ++ [32] ++ d4 Y ++ clk h i s ++ [32, 71, 77, 84]) hk (by unfold txt; simp)
  · exact formF_1 _ ([32] ++ dt ++ [45] ++ mons.getD (m - 1) [] ++ [45] ++ d2 Y ++ clk h i s ++ [32, 71, 77, 84]) hk (by unfold txt; simp)
  · exact formF_2 _ (mons.getD (m - 1) [] ++ [32] ++ dt ++ clk h i s ++ [32] ++ d4 Y) hk (by unfold txt; simp)

def yrS (f Y now : Int) : Int := if f = 1 then nearS Y (yearOfM now) else Y
theorem takes_txt {form : Int} (hf : form = 0 ∨ form = 1 ∨ form = 2) {Y m h i s k d : Nat} {dt : List UInt8} (hY : Y < if form = 1 then 100 else 10000) (hm : m < 12) (hd : d < 100) (hh : h < 100) (hi : i < 100) (hs : s < 100) (hk : k < 7) (hdt : DayT form d dt) :
    ∃ p0 p1 q2 p3 p4 p5 p6 : Int, takes (txt form Y (m + 1) h i s k dt) (tks form) 0 z14 = .ok ((txt form Y (m + 1) h i s k dt).length, [(k : Int), p0, (d : Int), p1, (m : Int), q2, (Y : Int), p3, (h : Int), p4, (i : Int), p5, (s : Int), p6]) := by
  rcases hf with rfl | rfl | rfl
  · have e : dt = d2 d := by
      rcases hdt with h | ⟨h, _⟩
      · exact h
      · omega
    subst e
    exact takes_F (by simpa using hY) hm hd hh hi hs hk (by unfold txt clk; simp)
  · have e : dt = d2 d := by
      rcases hdt with h | ⟨h, _⟩
      · exact h
      · omega
    subst e
    exact takes_L (by simpa using hY) hm hd hh hi hs hk (by unfold txt clk; simp)
  · exact takes_P (by simpa using hY) hm hd hh hi hs hk hdt (by unfold txt clk; simp)
theorem takes_txt' {l : List UInt8} {form : Int} (hf : form = 0 ∨ form = 1 ∨ form = 2) {e : Nat} {st : List Int} (h : takes l (tks form) 0 z14 = .ok (e, st)) (he : e = l.length) :
    ∃ (Y m h i s k d : Nat) (dt : List UInt8) (p0 p1 q2 p3 p4 p5 p6 : Int), (Y < if form = 1 then 100 else 10000) ∧ m < 12 ∧ d < 100 ∧ h < 100 ∧ i < 100 ∧ s < 100 ∧ k < 7 ∧ DayT form d dt ∧ st = [(k : Int), p0, (d : Int), p1, (m : Int), q2, (Y : Int), p3, (h : Int), p4, (i : Int), p5, (s : Int), p6] ∧ l = txt form Y (m + 1) h i s k dt := by
  rcases hf with rfl | rfl | rfl
  · obtain ⟨Y, m, hr, i, s, k, d, p0, p1, q2, p3, p4, p5, p6, hY, hm, hd, hh, hi, hs, hk, hst, hl⟩ := takes_F' h he
    exact ⟨Y, m, hr, i, s, k, d, d2 d, p0, p1, q2, p3, p4, p5, p6, by simpa using hY, hm, hd, hh, hi, hs, hk, .inl rfl, hst, by rw [hl]; unfold txt clk; simp⟩
  · obtain ⟨Y, m, hr, i, s, k, d, p0, p1, q2, p3, p4, p5, p6, hY, hm, hd, hh, hi, hs, hk, hst, hl⟩ := takes_L' h he
    exact ⟨Y, m, hr, i, s, k, d, d2 d, p0, p1, q2, p3, p4, p5, p6, by simpa using hY, hm, hd, hh, hi, hs, hk, .inl rfl, hst, by rw [hl]; unfold txt clk; simp⟩
  · obtain ⟨Y, m, hr, i, s, k, d, dt, p0, p1, q2, p3, p4, p5, p6, hY, hm, hd, hh, hi, hs, hk, hdt, hst, hl⟩ := takes_P' h he
    exact ⟨Y, m, hr, i, s, k, d, dt, p0, p1, q2, p3, p4, p5, p6, by simpa using hY, hm, hd, hh, hi, hs, hk, hdt, hst, by rw [hl]; unfold txt clk; simp⟩

theorem mom_ok {y : Int} {k p0 d p1 m q2 Y p3 h p4 i p5 s p6 : Int} (e : (momS y [k, p0, d, p1, m, q2, Y, p3, h, p4, i, p5, s, p6]).2.1 = 0) :
    IsD y (m + 1) d ∧ h ≤ 23 ∧ i ≤ 59 ∧ s ≤ 60 ∧ k = wday (dn y (m + 1) d) ∧ (momS y [k, p0, d, p1, m, q2, Y, p3, h, p4, i, p5, s, p6]).1 = dn y (m + 1) d * 86400 + h * 3600 + i * 60 + s := by
  simp only [momS, g, List.getD_cons_zero, List.getD_cons_succ] at e ⊢
  by_cases h1 : y < 1 ∨ 9999 < y
  · rw [if_pos h1] at e; dsimp only at e; omega
  rw [if_neg h1] at e ⊢
  by_cases h2 : ¬ (1 ≤ d ∧ d ≤ md y (m + 1))
  · rw [if_pos h2] at e; dsimp only at e; omega
  rw [if_neg h2] at e ⊢
  by_cases h3 : 23 < h
  · rw [if_pos h3] at e; dsimp only at e; omega
  rw [if_neg h3] at e ⊢
  by_cases h4 : 59 < i
  · rw [if_pos h4] at e; dsimp only at e; omega
  rw [if_neg h4] at e ⊢
  by_cases h5 : 60 < s
  · rw [if_pos h5] at e; dsimp only at e; omega
  rw [if_neg h5] at e ⊢
  by_cases h6 : k ≠ wday (dn y (m + 1) d)
  · rw [if_pos h6] at e; dsimp only at e; omega
  rw [if_neg h6] at e ⊢
  split at e
  · dsimp only at e; omega
  · rename_i h7
    rw [if_neg h7]
    have h2' := Decidable.not_not.1 h2
    exact ⟨⟨by omega, by omega, h2'.1, h2'.2⟩, by omega, by omega, by omega, Decidable.not_not.1 h6, rfl⟩
theorem mom_to {y : Int} {k p0 d p1 m q2 Y p3 h p4 i p5 s p6 : Int} (h1 : IsD y (m + 1) d) (h3 : h ≤ 23) (h4 : i ≤ 59) (h5 : s ≤ 60) (h6 : k = wday (dn y (m + 1) d)) (h7 : dn y (m + 1) d * 86400 + h * 3600 + i * 60 + s ≤ 253402300799) :
    momS y [k, p0, d, p1, m, q2, Y, p3, h, p4, i, p5, s, p6] = (dn y (m + 1) d * 86400 + h * 3600 + i * 60 + s, 0, 0) := by
  obtain ⟨y1, y2, d1, d2⟩ := h1
  simp only [momS, g, List.getD_cons_zero, List.getD_cons_succ]
  rw [if_neg (by omega), if_neg (fun c => c ⟨d1, d2⟩), if_neg (by omega), if_neg (by omega), if_neg (by omega), if_neg (fun c => c h6), if_neg (by omega)]

/-- What a text that is taken says. -/
structure Says (l : List UInt8) (now t f : Int) (Y m h i s k d : Nat) (dt : List UInt8) : Prop where
  hf : f = 0 ∨ f = 1 ∨ f = 2
  form : f = formS l
  hY : Y < if f = 1 then 100 else 10000
  hm : m < 12
  hd : d < 100
  hk : k < 7
  hdt : DayT f d dt
  hl : l = txt f Y (m + 1) h i s k dt
  is : IsD (yrS f Y now) ((m : Int) + 1) d
  hh : h ≤ 23
  hi : i ≤ 59
  hs : s ≤ 60
  hw : (k : Int) = wday (dn (yrS f Y now) ((m : Int) + 1) d)
  ht : t = dn (yrS f Y now) ((m : Int) + 1) d * 86400 + h * 3600 + i * 60 + s
theorem parse_says {l : List UInt8} {now t f e p : Int} (h : parseS l now = (t, f, e, p)) (he : e = 0) : isM now ∧ ∃ Y m h i s k d dt, Says l now t f Y m h i s k d dt := by
  unfold parseS at h
  by_cases hn : isM now
  · rw [if_neg (fun c => c hn)] at h
    refine ⟨hn, ?_⟩
    cases hr : takes l (tks (formS l)) 0 z14 with
    | error a =>
      rw [hr] at h
      simp only [pars2] at h
      cases h
      omega
    | ok r =>
      obtain ⟨a, st⟩ := r
      rw [hr] at h
      simp only [pars2] at h
      by_cases ha : a ≠ l.length
      · rw [if_pos ha] at h
        cases h
        omega
      rw [if_neg ha] at h
      obtain ⟨Y, m, hr', i, s, k, d, dt, p0, p1, q2, p3, p4, p5, p6, hY, hm, hd, hh, hi, hs, hk, hdt, hst, hl⟩ := takes_txt' (formS_r l) hr (Decidable.not_not.1 ha)
      by_cases h0 : (momS (yS l now st) st).2.1 = 0
      · rw [if_pos h0] at h
        have ey : yS l now st = yrS (formS l) Y now := by
          unfold yS yrS
          subst hst
          rfl
        rw [ey, hst] at h0
        obtain ⟨k1, k2, k3, k4, k5, k6⟩ := mom_ok h0
        have e1 := congrArg Prod.fst h
        have e2 := congrArg (fun x => x.2.1) h
        dsimp only at e1 e2
        rw [ey, hst, k6] at e1
        subst e2
        exact ⟨Y, m, hr', i, s, k, d, dt, formS_r l, rfl, hY, hm, hd, hk, hdt, hl, k1, by omega, by omega, by omega, k5, e1.symm⟩
      · rw [if_neg h0] at h
        exfalso
        apply h0
        have := congrArg (fun x => x.2.2.1) h
        dsimp only at this
        omega
  · rw [if_pos hn] at h
    cases h
    omega
theorem parse_to {now : Int} (hn : isM now) {f : Int} (hf : f = 0 ∨ f = 1 ∨ f = 2) {Y m h i s k d : Nat} {dt : List UInt8} (hY : Y < if f = 1 then 100 else 10000) (hm : m < 12) (hd : d < 100) (hh : h ≤ 23) (hi : i ≤ 59) (hs : s ≤ 60) (hk : k < 7) (hdt : DayT f d dt) :
    ∃ p0 p1 q2 p3 p4 p5 p6 : Int, parseS (txt f Y (m + 1) h i s k dt) now = if (momS (yrS f Y now) [(k : Int), p0, (d : Int), p1, (m : Int), q2, (Y : Int), p3, (h : Int), p4, (i : Int), p5, (s : Int), p6]).2.1 = 0 then ((momS (yrS f Y now) [(k : Int), p0, (d : Int), p1, (m : Int), q2, (Y : Int), p3, (h : Int), p4, (i : Int), p5, (s : Int), p6]).1, f, 0, 0) else (0, 0, (momS (yrS f Y now) [(k : Int), p0, (d : Int), p1, (m : Int), q2, (Y : Int), p3, (h : Int), p4, (i : Int), p5, (s : Int), p6]).2.1, (momS (yrS f Y now) [(k : Int), p0, (d : Int), p1, (m : Int), q2, (Y : Int), p3, (h : Int), p4, (i : Int), p5, (s : Int), p6]).2.2) := by
  obtain ⟨p0, p1, q2, p3, p4, p5, p6, ht⟩ := takes_txt hf hY hm hd (by omega) (by omega) (by omega) hk hdt (h := h) (i := i) (s := s)
  refine ⟨p0, p1, q2, p3, p4, p5, p6, ?_⟩
  unfold parseS
  rw [if_neg (fun c => c hn), form_txt hf hk, ht]
  simp only [pars2]
  rw [if_neg (fun c => c rfl)]
  have ey : yS (txt f Y (m + 1) h i s k dt) now [(k : Int), p0, (d : Int), p1, (m : Int), q2, (Y : Int), p3, (h : Int), p4, (i : Int), p5, (s : Int), p6] = yrS f Y now := by
    unfold yS yrS
    rw [form_txt hf hk]
    rfl
  rw [ey, form_txt hf hk]

/- There and back. -/
theorem parts_of {t : Int} (ht : isM t) : ∃ y m d h i s k : Nat, (ymd (t / 86400)).1 = y ∧ (ymd (t / 86400)).2.1 = (m : Int) + 1 ∧ (ymd (t / 86400)).2.2 = d ∧ t % 86400 / 3600 = h ∧ t % 86400 % 3600 / 60 = i ∧ t % 86400 % 60 = s ∧ wday (t / 86400) = k ∧ IsD y ((m : Int) + 1) d ∧ dn y ((m : Int) + 1) d = t / 86400 ∧ m < 12 ∧ d ≤ 31 ∧ y ≤ 9999 ∧ h ≤ 23 ∧ i ≤ 59 ∧ s ≤ 59 ∧ k < 7 := by
  obtain ⟨t1, t2⟩ := ht
  obtain ⟨a, b⟩ := ymd_is (D := t / 86400) (by omega) (by omega)
  have hm := a.m
  have hd := md_le (ymd (t / 86400)).1 (ymd (t / 86400)).2.1
  have hw := wday_r (t / 86400)
  have a' := a
  obtain ⟨y1, y2, d1, d2⟩ := a'
  refine ⟨(ymd (t / 86400)).1.toNat, ((ymd (t / 86400)).2.1 - 1).toNat, (ymd (t / 86400)).2.2.toNat, (t % 86400 / 3600).toNat, (t % 86400 % 3600 / 60).toNat, (t % 86400 % 60).toNat, (wday (t / 86400)).toNat, by omega, by omega, by omega, by omega, by omega, by omega, by omega, ?_, ?_, by omega, by omega, by omega, by omega, by omega, by omega, by omega⟩
  · have e1 : ((ymd (t / 86400)).1.toNat : Int) = (ymd (t / 86400)).1 := by omega
    have e2 : (((ymd (t / 86400)).2.1 - 1).toNat : Int) + 1 = (ymd (t / 86400)).2.1 := by omega
    have e3 : ((ymd (t / 86400)).2.2.toNat : Int) = (ymd (t / 86400)).2.2 := by omega
    rw [e1, e2, e3]
    exact a
  · have e1 : ((ymd (t / 86400)).1.toNat : Int) = (ymd (t / 86400)).1 := by omega
    have e2 : (((ymd (t / 86400)).2.1 - 1).toNat : Int) + 1 = (ymd (t / 86400)).2.1 := by omega
    have e3 : ((ymd (t / 86400)).2.2.toNat : Int) = (ymd (t / 86400)).2.2 := by omega
    rw [e1, e2, e3]
    exact b
theorem writeR_ok {t f : Int} (ht : isM t) (hf : f = 0 ∨ f = 1 ∨ f = 2) {y m d h i s k : Nat} (e1 : (ymd (t / 86400)).1 = y) (e2 : (ymd (t / 86400)).2.1 = (m : Int) + 1) (e3 : (ymd (t / 86400)).2.2 = d) (e4 : t % 86400 / 3600 = h) (e5 : t % 86400 % 3600 / 60 = i) (e6 : t % 86400 % 60 = s) (e7 : wday (t / 86400) = k) :
    writeR t f = (txt f (if f = 1 then y % 100 else y : Nat) (m + 1) h i s k (if f = 2 then p2 32 d else d2 d), 0) := by
  unfold writeR
  rw [if_neg (fun c => c ht), if_neg (fun c => c (by omega)), e1, e2, e3, e4, e5, e6, e7]
  have : ((m : Int) + 1).toNat = m + 1 := by omega
  simp only [Int.toNat_natCast, this]
  rfl
theorem near_y {y this : Int} (h1 : this - 49 ≤ y) (h2 : y ≤ this + 50) : nearS (y % 100) this = y := by
  unfold nearS
  omega
theorem near_r (c this : Int) : this - 49 ≤ nearS c this ∧ nearS c this ≤ this + 50 := by
  unfold nearS
  omega
theorem back_to {t f now : Int} (ht : isM t) (hn : isM now) (hf : f = 0 ∨ f = 1 ∨ f = 2) (ha : f ≠ 1 ∨ (yearOfM now - 49 ≤ yearOfM t ∧ yearOfM t ≤ yearOfM now + 50)) : parseS (writeR t f).1 now = (t, f, 0, 0) := by
  obtain ⟨y, m, d, h, i, s, k, e1, e2, e3, e4, e5, e6, e7, hI, hD, hm, hd, hy, hh, hi, hs, hk⟩ := parts_of ht
  rw [writeR_ok ht hf e1 e2 e3 e4 e5 e6 e7]
  have hdt : DayT f d (if f = 2 then p2 32 d else d2 d) := by
    split
    · rename_i h2
      subst h2
      exact dayT_p2
    · exact .inl rfl
  obtain ⟨p0, p1, q2, p3, p4, p5, p6, hp⟩ := parse_to hn hf (Y := (if f = 1 then y % 100 else y : Nat)) (by split <;> omega) hm (by omega) hh hi (by omega) hk hdt (h := h) (i := i) (s := s)
  have ey : yrS f ((if f = 1 then y % 100 else y : Nat) : Int) now = y := by
    unfold yrS
    by_cases h1 : f = 1
    · rw [if_pos h1, if_pos h1]
      have := ha.resolve_left (fun c => c h1)
      have e : yearOfM t = y := e1
      rw [e] at this
      rw [show ((y % 100 : Nat) : Int) = (y : Int) % 100 by omega]
      exact near_y this.1 this.2
    · rw [if_neg h1, if_neg h1]
  dsimp only
  rw [hp, ey]
  have hw : (k : Int) = wday (dn y ((m : Int) + 1) d) := by rw [hD, e7]
  have htt : dn y ((m : Int) + 1) d * 86400 + h * 3600 + i * 60 + s = t := by rw [hD]; omega
  have hmx := ht.2
  rw [mom_to hI (by omega) (by omega) (by omega) hw (by omega), if_pos rfl, htt]
theorem back_far {t now : Int} (ht : isM t) (hn : isM now) (ha : ¬ (yearOfM now - 49 ≤ yearOfM t ∧ yearOfM t ≤ yearOfM now + 50)) : (parseS (writeR t 1).1 now).2.2.1 ≠ 0 ∨ (parseS (writeR t 1).1 now).1 ≠ t := by
  obtain ⟨y, m, d, h, i, s, k, e1, e2, e3, e4, e5, e6, e7, hI, hD, hm, hd, hy, hh, hi, hs, hk⟩ := parts_of ht
  rw [writeR_ok ht (.inr (.inl rfl)) e1 e2 e3 e4 e5 e6 e7]
  obtain ⟨p0, p1, q2, p3, p4, p5, p6, hp⟩ := parse_to (f := 1) hn (.inr (.inl rfl)) (Y := y % 100) (by simp; omega) hm (by omega) hh hi (by omega) hk (dt := d2 d) (.inl rfl) (h := h) (i := i) (s := s) (d := d)
  have e : (txt 1 (if (1 : Int) = 1 then y % 100 else y : Nat) (m + 1) h i s k (if (1 : Int) = 2 then p2 32 d else d2 d)) = txt 1 (y % 100) (m + 1) h i s k (d2 d) := rfl
  dsimp only
  rw [e, hp]
  have hr := near_r ((y % 100 : Nat) : Int) (yearOfM now)
  have ey : yrS 1 ((y % 100 : Nat) : Int) now = nearS ((y % 100 : Nat) : Int) (yearOfM now) := rfl
  rw [ey]
  by_cases h0 : (momS (nearS ((y % 100 : Nat) : Int) (yearOfM now)) [(k : Int), p0, (d : Int), p1, (m : Int), q2, ((y % 100 : Nat) : Int), p3, (h : Int), p4, (i : Int), p5, (s : Int), p6]).2.1 = 0
  · obtain ⟨k1, _, _, _, _, k6⟩ := mom_ok h0
    rw [if_pos h0]
    refine .inr ?_
    dsimp only
    rw [k6]
    intro hc
    have hdn : dn (nearS ((y % 100 : Nat) : Int) (yearOfM now)) ((m : Int) + 1) d = dn y ((m : Int) + 1) d := by
      rw [hD]
      omega
    have := (dn_inj k1 hI hdn).1
    have et : yearOfM t = y := e1
    apply ha
    rw [et]
    omega
  · rw [if_neg h0]
    exact .inl h0

end Bs
end Go.Proofs.YticncpjpkgdnlaaGreatDoor

/-
  Texts that differ say unlike moments; texts in the first form and their moments.
-/
set_option linter.unusedVariables false
set_option linter.unusedSimpArgs false
namespace Go.Proofs.YticncpjpkgdnlaaGreatDoor
namespace Bs

def Leapt (l : List UInt8) : Prop := ∃ i, i + 3 ≤ l.length ∧ (l.drop i).take 3 = [58, 54, 48]
theorem leapt_of {l A B : List UInt8} (h : l = A ++ ([58, 54, 48] ++ B)) : Leapt l := by
  refine ⟨A.length, ?_, ?_⟩
  · rw [h]
    simp
  · rw [h, List.drop_left]
    rfl
theorem Says.no60 {l : List UInt8} {now t f : Int} {Y m h i s k d : Nat} {dt : List UInt8} (S : Says l now t f Y m h i s k d dt) (hl : ¬ Leapt l) : s ≤ 59 := by
  by_cases h60 : s = 60
  · exfalso
    apply hl
    have e : d2 60 = [54, 48] := rfl
    have hl := S.hl
    rw [h60] at hl
    unfold txt clk at hl
    rw [e] at hl
    rcases S.hf with rfl | rfl | rfl
    · exact leapt_of (A := shorts.getD k [] ++ [44, 32] ++ dt ++ [32] ++ mons.getD (m + 1 - 1) [] ++ [32] ++ d4 Y ++ ([32] ++ d2 h ++ [58] ++ d2 i)) (B := [32, 71, 77, 84]) (by rw [hl]; simp)
    · exact leapt_of (A := longs.getD k [] ++ [44, 32] ++ dt ++ [45] ++ mons.getD (m + 1 - 1) [] ++ [45] ++ d2 Y ++ ([32] ++ d2 h ++ [58] ++ d2 i)) (B := [32, 71, 77, 84]) (by rw [hl]; simp)
    · exact leapt_of (A := shorts.getD k [] ++ [32] ++ mons.getD (m + 1 - 1) [] ++ [32] ++ dt ++ ([32] ++ d2 h ++ [58] ++ d2 i)) (B := [32] ++ d4 Y) (by rw [hl]; simp)
  · have := S.hs
    omega
/-- The same moment: the same pieces. -/
theorem Says.same {a b : List UInt8} {now t f : Int} {Y m h i s k d Y' m' h' i' s' k' d' : Nat} {dt dt' : List UInt8} (S : Says a now t f Y m h i s k d dt) (T : Says b now t f Y' m' h' i' s' k' d' dt') (hs : s ≤ 59) (hs' : s' ≤ 59) :
    Y = Y' ∧ m = m' ∧ h = h' ∧ i = i' ∧ s = s' ∧ k = k' ∧ d = d' := by
  have e := S.ht.symm.trans T.ht
  have a1 := S.hh
  have a2 := S.hi
  have b1 := T.hh
  have b2 := T.hi
  have hw := S.hw
  have hw' := T.hw
  generalize hD : dn (yrS f Y now) ((m : Int) + 1) d = D at *
  generalize hD' : dn (yrS f Y' now) ((m' : Int) + 1) d' = D' at *
  have e1 : D = D' := by omega
  subst e1
  obtain ⟨c1, c2, c3⟩ := dn_inj S.is T.is (hD.trans hD'.symm)
  have hY := S.hY
  have hY' := T.hY
  refine ⟨?_, by omega, by omega, by omega, by omega, by omega, by omega⟩
  unfold yrS at c1
  by_cases h1 : f = 1
  · rw [if_pos h1] at c1 hY hY'
    rw [if_pos h1] at c1
    unfold nearS at c1
    omega
  · rw [if_neg h1, if_neg h1] at c1
    omega
def cut9 (l : List UInt8) : List UInt8 := l.take 8 ++ l.drop 9
theorem cut9_txt {Y m h i s k d : Nat} {dt : List UInt8} (hk : k < 7) (hm : m < 12) (hdt : DayT 2 d dt) : cut9 (txt 2 Y (m + 1) h i s k dt) = (shorts.getD k [] ++ ([32] ++ (mons.getD m [] ++ [32]))) ++ (dg d :: (clk h i s ++ ([32] ++ d4 Y))) ∧ 9 < (txt 2 Y (m + 1) h i s k dt).length := by
  obtain ⟨x, hx⟩ : ∃ x, dt = [x, dg d] := by
    rcases hdt with rfl | ⟨_, _, rfl⟩
    · exact ⟨_, rfl⟩
    · exact ⟨_, rfl⟩
  subst hx
  have n1 := shorts_n' hk
  have n2 := mons_n' hm
  have e : txt 2 Y (m + 1) h i s k [x, dg d] = (shorts.getD k [] ++ ([32] ++ (mons.getD m [] ++ [32]))) ++ ([x] ++ (dg d :: (clk h i s ++ ([32] ++ d4 Y)))) := by
    unfold txt
    simp
  have hl : (shorts.getD k [] ++ ([32] ++ (mons.getD m [] ++ [32]))).length = 8 := by
    simp only [List.length_append, n1, n2]
    rfl
  generalize shorts.getD k [] ++ ([32] ++ (mons.getD m [] ++ [32])) = A at *
  have hB : 1 ≤ (dg d :: (clk h i s ++ ([32] ++ d4 Y))).length := by simp
  generalize dg d :: (clk h i s ++ ([32] ++ d4 Y)) = B at *
  rw [e]
  unfold cut9
  refine ⟨?_, ?_⟩
  · rw [show (A ++ ([x] ++ B)).take 8 = A by rw [← hl, List.take_left], show (A ++ ([x] ++ B)).drop 9 = B by rw [← List.append_assoc, show 9 = (A ++ [x]).length by simp [hl]]; exact List.drop_left]
  · simp only [List.length_append, hl, List.length_cons, List.length_nil]
    omega
theorem clk_inj {h i s h' i' s' : Nat} {r r' : List UInt8} (hh : h < 100) (hi : i < 100) (hs : s < 100) (hh' : h' < 100) (hi' : i' < 100) (hs' : s' < 100) (e : clk h i s ++ r = clk h' i' s' ++ r') : h = h' ∧ i = i' ∧ s = s' ∧ r = r' := by
  unfold clk d2 at e
  simp only [List.append_assoc, List.cons_append, List.nil_append, List.cons.injEq, true_and] at e
  obtain ⟨h1, h2, h3, h4, h5, h6, h7⟩ := e
  have h1 := dg_inj h1
  have h2 := dg_inj h2
  have h3 := dg_inj h3
  have h4 := dg_inj h4
  have h5 := dg_inj h5
  have h6 := dg_inj h6
  exact ⟨by omega, by omega, by omega, h7⟩
theorem shorts_inj : ∀ i j : Fin 7, shorts.getD i.val [] = shorts.getD j.val [] → i = j := by decide
theorem mons_inj : ∀ i j : Fin 12, mons.getD i.val [] = mons.getD j.val [] → i = j := by decide
theorem shorts_inj' {i j : Nat} (hi : i < 7) (hj : j < 7) (h : shorts.getD i [] = shorts.getD j []) : i = j := congrArg Fin.val (shorts_inj ⟨i, hi⟩ ⟨j, hj⟩ h)
theorem mons_inj' {i j : Nat} (hi : i < 12) (hj : j < 12) (h : mons.getD i [] = mons.getD j []) : i = j := congrArg Fin.val (mons_inj ⟨i, hi⟩ ⟨j, hj⟩ h)
theorem app_inj {a b c d : List UInt8} (h : a ++ b = c ++ d) (hl : a.length = c.length) : a = c ∧ b = d := List.append_inj h hl

theorem one_cut {a b : List UInt8} {now t t' : Int} {Y m h i s k d Y' m' h' i' s' k' d' : Nat} {dt dt' : List UInt8} (S : Says a now t 2 Y m h i s k d dt) (T : Says b now t' 2 Y' m' h' i' s' k' d' dt') (e : cut9 a = cut9 b) : t = t' := by
  rw [S.hl, T.hl, (cut9_txt S.hk S.hm S.hdt).1, (cut9_txt T.hk T.hm T.hdt).1] at e
  have a1 := S.hh
  have a2 := S.hi
  have a3 := S.hs
  have b1 := T.hh
  have b2 := T.hi
  have b3 := T.hs
  obtain ⟨e1, e2⟩ := app_inj e (by simp only [List.length_append, shorts_n' S.hk, shorts_n' T.hk, mons_n' S.hm, mons_n' T.hm])
  obtain ⟨e3, e4⟩ := app_inj e1 (by rw [shorts_n' S.hk, shorts_n' T.hk])
  obtain ⟨_, e5⟩ := app_inj e4 rfl
  obtain ⟨e6, _⟩ := app_inj e5 (by rw [mons_n' S.hm, mons_n' T.hm])
  have hk := shorts_inj' S.hk T.hk e3
  have hm := mons_inj' S.hm T.hm e6
  simp only [List.cons.injEq] at e2
  have hd := dg_inj e2.1
  obtain ⟨c1, c2, c3, c4⟩ := clk_inj (by omega) (by omega) (by omega) (by omega) (by omega) (by omega) e2.2
  obtain ⟨_, c5⟩ := app_inj c4 rfl
  have hY := S.hY
  have hY' := T.hY
  have cY := d4_inj (by simpa using hY) (by simpa using hY') c5
  subst hk hm c1 c2 c3 cY
  have w1 := S.hw
  have w2 := T.hw
  have i1 := S.is
  have i2 := T.is
  have hml := md_le (yrS 2 Y now) ((m : Int) + 1)
  obtain ⟨_, _, d1, d2'⟩ := i1
  obtain ⟨_, _, d3, d4'⟩ := i2
  have w3 := w1.symm.trans w2
  unfold wday dn at w3
  have hdd : d = d' := by omega
  subst hdd
  rw [S.ht, T.ht]
theorem one_same {a b : List UInt8} {now t f : Int} {Y m h i s k d Y' m' h' i' s' k' d' : Nat} {dt dt' : List UInt8} (S : Says a now t f Y m h i s k d dt) (T : Says b now t f Y' m' h' i' s' k' d' dt') (hs : ¬ Leapt a) (hs' : ¬ Leapt b) : (f ≠ 2 ∧ a = b) ∨ (f = 2 ∧ 9 < a.length ∧ cut9 a = cut9 b) := by
  obtain ⟨rfl, rfl, rfl, rfl, rfl, rfl, rfl⟩ := S.same T (S.no60 hs) (T.no60 hs')
  by_cases h2 : f = 2
  · subst h2
    have e1 := cut9_txt (Y := Y) (h := h) (i := i) (s := s) S.hk S.hm S.hdt
    have e2 := cut9_txt (Y := Y) (h := h) (i := i) (s := s) T.hk T.hm T.hdt
    refine .inr ⟨rfl, ?_, ?_⟩
    · rw [S.hl]
      exact e1.2
    · rw [S.hl, T.hl, e1.1, e2.1]
  · have d1 : dt = d2 d := S.hdt.resolve_right (fun c => h2 c.1)
    have d2' : dt' = d2 d := T.hdt.resolve_right (fun c => h2 c.1)
    exact .inl ⟨h2, by rw [S.hl, T.hl, d1, d2']⟩

/- Texts in the first form. -/
theorem fix_len {t : Int} (ht : isM t) : (writeR t 0).1.length = 29 ∧ (writeR t 0).2 = 0 := by
  obtain ⟨y, m, d, h, i, s, k, e1, e2, e3, e4, e5, e6, e7, hI, hD, hm, hd, hy, hh, hi, hs, hk⟩ := parts_of ht
  rw [writeR_ok ht (.inl rfl) e1 e2 e3 e4 e5 e6 e7]
  refine ⟨?_, rfl⟩
  have n1 := shorts_n' hk
  have n2 := mons_n' hm
  show (shorts.getD k [] ++ [44, 32] ++ d2 d ++ [32] ++ mons.getD (m + 1 - 1) [] ++ [32] ++ d4 y ++ clk h i s ++ [32, 71, 77, 84]).length = 29
  simp only [List.length_append, n1, Nat.add_sub_cancel, n2]
  rfl
theorem fix_inj {a b : Int} (ha : isM a) (hb : isM b) (h : (writeR a 0).1 = (writeR b 0).1) : a = b := by
  have e1 := back_to (f := 0) (now := 0) ha (by unfold isM; omega) (.inl rfl) (.inl (by decide))
  have e2 := back_to (f := 0) (now := 0) hb (by unfold isM; omega) (.inl rfl) (.inl (by decide))
  rw [h, e2] at e1
  exact (congrArg Prod.fst e1).symm

end Bs
end Go.Proofs.YticncpjpkgdnlaaGreatDoor

/-
  Numbers in so many digits.
-/
set_option linter.unusedVariables false
set_option linter.unusedSimpArgs false
namespace Go.Proofs.YticncpjpkgdnlaaGreatDoor
open Go.RowKit Go.Shelf
open Go.Sort (grow)
namespace Bs
theorem str_app (a b : List UInt8) : str a ++ str b = str (a ++ b) := by
  apply ByteArray.ext
  rw [ByteArray.data_append]
  simp [str]

theorem dec1 {n : Nat} (h : n < 10) : Lib.decDigits n = [dg n] := by
  rw [Lib.decDigits, dif_pos h]
  unfold dg
  rw [Nat.mod_eq_of_lt h]
theorem dec_step {n : Nat} (h : 10 ≤ n) : Lib.decDigits n = Lib.decDigits (n / 10) ++ [dg n] := by
  conv => lhs; rw [Lib.decDigits, dif_neg (by omega)]
  rfl
theorem dec2 {n : Nat} (h : 10 ≤ n) (h2 : n < 100) : Lib.decDigits n = d2 n := by
  rw [dec_step h, dec1 (by omega)]
  rfl
theorem dec3 {n : Nat} (h : 100 ≤ n) (h2 : n < 1000) : Lib.decDigits n = [dg (n / 100), dg (n / 10), dg n] := by
  rw [dec_step (by omega), dec2 (by omega) (by omega)]
  unfold d2
  rw [Nat.div_div_eq_div_mul]
  rfl
theorem dec4 {n : Nat} (h : 1000 ≤ n) (h2 : n < 10000) : Lib.decDigits n = d4 n := by
  rw [dec_step (by omega), dec3 (by omega) (by omega)]
  unfold d4
  rw [Nat.div_div_eq_div_mul, Nat.div_div_eq_div_mul]
  rfl
theorem dg_zero {n : Nat} (h : n = 0) : dg n = 48 := by subst h; rfl

set_option maxHeartbeats 400000 in
theorem Digits_small (n : Nat) (h : n < 100) (w : World) :
    Calls Tryz.prog 38 #[.int .i64 (n : Int)] w fun e w' => e = .returned (.string (str (Lib.decDigits n))) ∧ w' = w := by
  have HC : Hid (Calls Tryz.prog 73 #[.int .i64 (n : Int)] w fun e w' => e = .returned (.string (str (Lib.decDigits n))) ∧ w' = w) := Tryz.strconv_Itoa_small n h w
  go_enter Tryz.func38, Tryz.ntmps38
  go_wp2_with fail
  refine Calls.mono HC.out ?_
  rintro e w' ⟨rfl, rfl⟩
  go_wp2
  go_ret
  exact ⟨rfl, rfl⟩

set_option maxHeartbeats 400000 in
theorem Digits_any (n : Nat) (h : n < 10000) (w : World) (tb : Tb w) :
    Calls Tryz.prog 38 #[.int .i64 (n : Int)] w fun e w' => e = .returned (.string (str (Lib.decDigits n))) ∧ Below w.heap.size w w' := by
  have hi : Lib.itoa (n : Int) = Lib.decDigits n := by
    unfold Lib.itoa
    rw [if_neg (by omega)]
    rfl
  have hcon := Tryz.strconv_Itoa (n : Int) (by omega) (by omega) w tb.pw
  rw [hi] at hcon
  have HC : Hid (Calls Tryz.prog 73 #[.int .i64 (n : Int)] w fun e w' => e = .returned (.string (str (Lib.decDigits n))) ∧ ∃ k os, w' = grow (w.drewN k) os) := hcon
  clear hcon tb
  go_enter Tryz.func38, Tryz.ntmps38
  go_wp2_with fail
  refine Calls.mono HC.out ?_
  rintro e w' ⟨rfl, k, os, rfl⟩
  go_wp2
  go_ret
  exact ⟨rfl, Lib.below_grow _ w (Nat.le_refl _) k os⟩

set_option maxHeartbeats 800000 in
theorem padded2_any (n : Nat) (h : n < 100) (c : UInt8) (w : World) :
    Calls Tryz.prog 211 #[.int .i64 (n : Int), .int .i64 2, .string (str [c])] w fun e w' => e = .returned (.string (str (p2 c n))) ∧ w' = w := by
  have HD : Hid (Calls Tryz.prog 38 #[.int .i64 (n : Int)] w fun e w' => e = .returned (.string (str (Lib.decDigits n))) ∧ w' = w) := Digits_small n h w
  by_cases h1 : n < 10
  · rw [dec1 h1] at HD
    have HR : Hid (Calls Tryz.prog 261 #[.string (str [c]), .int .i64 1] w fun e w' => e = .returned (.string (str [c])) ∧ w' = w) := Tryz.strings_Repeat_one (str [c]) w
    have z1 : (str [dg n]).size = 1 := by rw [str_size]; rfl
    have z2 : (str [c]).size + (str [dg n]).size ≤ 100 := by rw [str_size, str_size]; simp
    have HA : Hid (str [c] ++ str [dg n] = str (p2 c n)) := (by rw [str_app]; unfold p2; rw [if_pos h1]; rfl : str [c] ++ str [dg n] = str (p2 c n))
    generalize str [dg n] = X at *
    go_enter Tryz.func211, Tryz.ntmps211
    go_wp2_with fail
    refine Calls.mono HD.out ?_
    rintro e w' ⟨rfl, rfl⟩
    go_wp2_with fail
    refine Calls.mono HR.out ?_
    rintro e w' ⟨rfl, rfl⟩
    go_wp2
    go_ret
    exact ⟨ret_string HA.out, rfl⟩
  · rw [dec2 (by omega) h] at HD
    have HR : Hid (Calls Tryz.prog 261 #[.string (str [c]), .int .i64 0] w fun e w' => e = .returned (.string ⟨#[]⟩) ∧ w' = w) := Tryz.strings_Repeat_zero (str [c]) w
    have z1 : (str (d2 n)).size = 2 := by rw [str_size]; rfl
    have z2 : (⟨#[]⟩ : ByteArray).size + (str (d2 n)).size ≤ 100 := by rw [z1]; decide
    have HA : Hid ((⟨#[]⟩ : ByteArray) ++ str (d2 n) = str (p2 c n)) := (by rw [show (⟨#[]⟩ : ByteArray) = str [] from rfl, str_app]; unfold p2; rw [if_neg h1]; rfl : (⟨#[]⟩ : ByteArray) ++ str (d2 n) = str (p2 c n))
    generalize str (d2 n) = X at *
    go_enter Tryz.func211, Tryz.ntmps211
    go_wp2_with fail
    refine Calls.mono HD.out ?_
    rintro e w' ⟨rfl, rfl⟩
    go_wp2_with fail
    refine Calls.mono HR.out ?_
    rintro e w' ⟨rfl, rfl⟩
    go_wp2
    go_ret
    exact ⟨ret_string HA.out, rfl⟩

theorem rep4 (k : Nat) (hk : k ≤ 3) (w : World) : Calls Tryz.prog 261 #[.string (str [48]), .int .i64 (k : Int)] w fun e w' => e = .returned (.string (str (List.replicate k 48))) ∧ Below w.heap.size w w' := by
  rcases (by omega : k = 0 ∨ k = 1 ∨ k = 2 ∨ k = 3) with rfl | rfl | rfl | rfl
  · exact (Tryz.strings_Repeat_zero (str [48]) w).mono (by rintro e w' ⟨rfl, rfl⟩; exact ⟨rfl, Below.refl _ _⟩)
  · exact (Tryz.strings_Repeat_one (str [48]) w).mono (by rintro e w' ⟨rfl, rfl⟩; exact ⟨rfl, Below.refl _ _⟩)
  · exact (Tryz.strings_Repeat_main (str [48]) 2 w (by decide) (by decide) (by decide) (by decide)).mono (by rintro e w' ⟨rfl, hb⟩; exact ⟨rfl, hb⟩)
  · exact (Tryz.strings_Repeat_main (str [48]) 3 w (by decide) (by decide) (by decide) (by decide)).mono (by rintro e w' ⟨rfl, hb⟩; exact ⟨rfl, hb⟩)

theorem d4_pad {n : Nat} (h : n < 10000) : List.replicate (4 - (Lib.decDigits n).length) 48 ++ Lib.decDigits n = d4 n ∧ 1 ≤ (Lib.decDigits n).length ∧ (Lib.decDigits n).length ≤ 4 := by
  rcases (by omega : n < 10 ∨ (10 ≤ n ∧ n < 100) ∨ (100 ≤ n ∧ n < 1000) ∨ 1000 ≤ n) with h1 | ⟨h1, h2⟩ | ⟨h1, h2⟩ | h1
  · rw [dec1 h1]
    unfold d4
    rw [dg_zero (n := n / 1000) (by omega), dg_zero (n := n / 100) (by omega), dg_zero (n := n / 10) (by omega)]
    exact ⟨rfl, by simp, by simp⟩
  · rw [dec2 h1 h2]
    unfold d4 d2
    rw [dg_zero (n := n / 1000) (by omega), dg_zero (n := n / 100) (by omega)]
    exact ⟨rfl, by simp, by simp⟩
  · rw [dec3 h1 h2]
    unfold d4
    rw [dg_zero (n := n / 1000) (by omega)]
    exact ⟨rfl, by simp, by simp⟩
  · rw [dec4 h1 h]
    exact ⟨rfl, by simp [d4], by simp [d4]⟩

set_option maxHeartbeats 800000 in
theorem padded4_any (n : Nat) (h : n < 10000) (w : World) (tb : Tb w) :
    Calls Tryz.prog 211 #[.int .i64 (n : Int), .int .i64 4, .string (str [48])] w fun e w' => e = .returned (.string (str (d4 n))) ∧ Below w.heap.size w w' := by
  obtain ⟨e4, l1, l2⟩ := d4_pad h
  have HD : Hid (Calls Tryz.prog 38 #[.int .i64 (n : Int)] w fun e w' => e = .returned (.string (str (Lib.decDigits n))) ∧ Below w.heap.size w w') := Digits_any n h w tb
  have hz := str_size (Lib.decDigits n)
  have HA : Hid (str (List.replicate (4 - (Lib.decDigits n).length) 48) ++ str (Lib.decDigits n) = str (d4 n)) := (by rw [str_app, e4] : _ = _)
  generalize (Lib.decDigits n).length = L at *
  obtain ⟨k, hk⟩ : ∃ k : Nat, 4 - L = k := ⟨_, rfl⟩
  rw [hk] at HA
  have hk' : (4 : Int) - (L : Int) = (k : Int) := by omega
  have HR : Hid (∀ w, Calls Tryz.prog 261 #[.string (str [48]), .int .i64 (k : Int)] w fun e w' => e = .returned (.string (str (List.replicate k 48))) ∧ Below w.heap.size w w') := fun w => rep4 k (by omega) w
  have zk : (str (List.replicate k 48)).size = k := by rw [str_size, List.length_replicate]
  have z2 : (str (List.replicate k 48)).size + (str (Lib.decDigits n)).size ≤ 100 := by omega
  clear tb e4
  generalize str (Lib.decDigits n) = X at *
  generalize str (List.replicate k 48) = Y at *
  have hmx : max (k : Int) 0 = (k : Int) := by omega
  go_enter Tryz.func211, Tryz.ntmps211
  go_wp2_with fail
  refine Calls.mono HD.out ?_
  rintro e w1 ⟨rfl, b1⟩
  have HB1 : Hid (Below w.heap.size w w1) := b1
  clear b1
  go_wp2_with fail
  refine (HR.out _).mono ?_
  rintro e w2 ⟨rfl, b2⟩
  have HB2 : Hid (Below w.heap.size w w2) := bel_trans HB1.out b2
  clear b2
  go_wp2
  go_ret
  exact ⟨ret_string HA.out, HB2.out⟩

end Bs
end Go.Proofs.YticncpjpkgdnlaaGreatDoor

/-
  A moment in a form: small things.
-/
set_option linter.unusedVariables false
set_option linter.unusedSimpArgs false
namespace Go.Proofs.YticncpjpkgdnlaaGreatDoor
open Go.RowKit
namespace Bs

theorem p2_48 {n : Nat} (h : n < 100) : p2 48 n = d2 n := by
  unfold p2 d2
  split
  · rw [dg_zero (n := n / 10) (by omega)]
  · rfl
theorem p2_len (c : UInt8) (n : Nat) : (p2 c n).length = 2 := by unfold p2; split <;> rfl
theorem ret_si {a b : ByteArray} {k : IntKind} {c d : Int} (h : a = b) (h' : c = d) : Ending.returned (.tuple #[.string a, .int k c]) = .returned (.tuple #[.string b, .int k d]) := by rw [h, h']
theorem shorts_3 (i : Nat) (hi : i < 7) : (shorts.getD i []).length = 3 := by
  have : ∀ i : Fin 7, (shorts.getD i.val []).length = 3 := by decide
  exact this ⟨i, hi⟩
theorem mons_3 (i : Nat) (hi : i < 12) : (mons.getD i []).length = 3 := by
  have : ∀ i : Fin 12, (mons.getD i.val []).length = 3 := by decide
  exact this ⟨i, hi⟩
theorem toN {x : Int} (h : 0 ≤ x) : ∃ n : Nat, x = (n : Int) := ⟨x.toNat, by omega⟩

end Bs
end Go.Proofs.YticncpjpkgdnlaaGreatDoor

/-
  A moment in a form (0).
-/
set_option linter.unusedVariables false
set_option linter.unusedSimpArgs false
namespace Go.Proofs.YticncpjpkgdnlaaGreatDoor
open Go.RowKit
namespace Bs

set_option maxRecDepth 100000 in
set_option maxHeartbeats 4000000 in
theorem Write_0 (t : Int) (ht : I64 t) (hM : isM t) (w : World) (tb : Tb w) :
    Calls Tryz.prog 146 #[.int .i64 t, .int .i64 0] w fun e w' => e = .returned (.tuple #[.string (str (writeR t 0).1), .int .i64 (writeR t 0).2]) ∧ Below w.heap.size w w' := by
  have hF : 0 ≤ (0 : Int) ∧ (0 : Int) < 3 := by omega
  have hf : I64 0 := ⟨by omega, by omega⟩
  have hsp := Split_any t ht w tb
  have HTB : Hid (Tb w) := tb
  clear tb
  rw [show splitR t = (splitV t, 0) from if_pos hM] at hsp
  have HSP : Hid (Calls Tryz.prog 209 #[.int .i64 t] w fun e w' => e = .returned (.tuple #[splitV t, .int .i64 0]) ∧ Below w.heap.size w w') := hsp
  clear hsp
  unfold splitV dv7 at HSP
  have hM1 := hM.1
  have hM2 := hM.2
  have hI := (ymd_is (D := t / 86400) (by omega) (by omega)).1
  have hm := hI.m
  have hd := md_le (ymd (t / 86400)).1 (ymd (t / 86400)).2.1
  obtain ⟨y1, y2, d1, d2'⟩ := hI
  have hwd := wday_r (t / 86400)
  have r1 : 0 ≤ t % 86400 / 3600 ∧ t % 86400 / 3600 < 24 := by omega
  have r2 : 0 ≤ t % 86400 % 3600 / 60 ∧ t % 86400 % 3600 / 60 < 60 := by omega
  have r3 : 0 ≤ t % 86400 % 60 ∧ t % 86400 % 60 < 60 := by omega
  have HWR : Hid (writeR t (0 : Int) = if ¬ (0 ≤ (0 : Int) ∧ (0 : Int) < 3) then ([], 44) else (wrS (0 : Int) (ymd (t / 86400)).1.toNat (ymd (t / 86400)).2.1.toNat (ymd (t / 86400)).2.2.toNat (t % 86400 / 3600).toNat (t % 86400 % 3600 / 60).toNat (t % 86400 % 60).toNat (wday (t / 86400)).toNat, 0)) := if_neg (fun h => h hM)
  have HBF : Hid (∀ w, Calls Tryz.prog 210 #[.int .i64 (0 : Int), .int .i64 3] w fun e w' => e = .returned (.bool (decide (0 ≤ (0 : Int) ∧ (0 : Int) < 3))) ∧ w' = w) := fun w => below_any (0 : Int) 3 hf ⟨by omega, by omega⟩ w
  generalize (ymd (t / 86400)).1 = Y at *
  generalize (ymd (t / 86400)).2.1 = M at *
  generalize (ymd (t / 86400)).2.2 = Dd at *
  generalize t % 86400 / 3600 = H at *
  generalize t % 86400 % 3600 / 60 = I at *
  generalize t % 86400 % 60 = S at *
  generalize wday (t / 86400) = K at *
  obtain ⟨y, rfl⟩ := toN (x := Y) (by omega)
  obtain ⟨m, rfl⟩ := toN (x := M) (by omega)
  obtain ⟨d, rfl⟩ := toN (x := Dd) (by omega)
  obtain ⟨h, rfl⟩ := toN (x := H) (by omega)
  obtain ⟨i, rfl⟩ := toN (x := I) (by omega)
  obtain ⟨s, rfl⟩ := toN (x := S) (by omega)
  obtain ⟨k, rfl⟩ := toN (x := K) (by omega)
  simp only [Int.toNat_natCast] at HWR
  rw [decide_eq_true hF] at HBF
  have HWR2 : Hid (writeR t (0 : Int) = (wrS (0 : Int) y m d h i s k, 0)) := (by rw [HWR.out, if_neg (fun e => e hF)] : writeR t (0 : Int) = (wrS (0 : Int) y m d h i s k, 0))
  clear HWR
  go_enter Tryz.func146, Tryz.ntmps146
  go_wp2_with fail
  refine Calls.mono HSP.out ?_
  rintro e w1 ⟨rfl, b1⟩
  have hb2 : Below w.heap.size w (w1.alloc (.cells #[.int .i64 (y : Int), .int .i64 (m : Int), .int .i64 (d : Int), .int .i64 (h : Int), .int .i64 (i : Int), .int .i64 (s : Int), .int .i64 (k : Int)] 246)) := bel_trans b1 ((But.refl [] w1).alloc _).to_below
  clear b1
  go_wp2_with fail
  have c0 : (w1.alloc (.cells #[.int .i64 (y : Int), .int .i64 (m : Int), .int .i64 (d : Int), .int .i64 (h : Int), .int .i64 (i : Int), .int .i64 (s : Int), .int .i64 (k : Int)] 246)).cell? ⟨w1.heap.size, 0, none⟩ = some (.int .i64 (y : Int)) := by simp
  have c1 : (w1.alloc (.cells #[.int .i64 (y : Int), .int .i64 (m : Int), .int .i64 (d : Int), .int .i64 (h : Int), .int .i64 (i : Int), .int .i64 (s : Int), .int .i64 (k : Int)] 246)).cell? ⟨w1.heap.size, 1, none⟩ = some (.int .i64 (m : Int)) := by simp
  have c2 : (w1.alloc (.cells #[.int .i64 (y : Int), .int .i64 (m : Int), .int .i64 (d : Int), .int .i64 (h : Int), .int .i64 (i : Int), .int .i64 (s : Int), .int .i64 (k : Int)] 246)).cell? ⟨w1.heap.size, 2, none⟩ = some (.int .i64 (d : Int)) := by simp
  have c3 : (w1.alloc (.cells #[.int .i64 (y : Int), .int .i64 (m : Int), .int .i64 (d : Int), .int .i64 (h : Int), .int .i64 (i : Int), .int .i64 (s : Int), .int .i64 (k : Int)] 246)).cell? ⟨w1.heap.size, 3, none⟩ = some (.int .i64 (h : Int)) := by simp
  have c4 : (w1.alloc (.cells #[.int .i64 (y : Int), .int .i64 (m : Int), .int .i64 (d : Int), .int .i64 (h : Int), .int .i64 (i : Int), .int .i64 (s : Int), .int .i64 (k : Int)] 246)).cell? ⟨w1.heap.size, 4, none⟩ = some (.int .i64 (i : Int)) := by simp
  have c5 : (w1.alloc (.cells #[.int .i64 (y : Int), .int .i64 (m : Int), .int .i64 (d : Int), .int .i64 (h : Int), .int .i64 (i : Int), .int .i64 (s : Int), .int .i64 (k : Int)] 246)).cell? ⟨w1.heap.size, 5, none⟩ = some (.int .i64 (s : Int)) := by simp
  have c6 : (w1.alloc (.cells #[.int .i64 (y : Int), .int .i64 (m : Int), .int .i64 (d : Int), .int .i64 (h : Int), .int .i64 (i : Int), .int .i64 (s : Int), .int .i64 (k : Int)] 246)).cell? ⟨w1.heap.size, 6, none⟩ = some (.int .i64 (k : Int)) := by simp
  generalize (w1.alloc (.cells #[.int .i64 (y : Int), .int .i64 (m : Int), .int .i64 (d : Int), .int .i64 (h : Int), .int .i64 (i : Int), .int .i64 (s : Int), .int .i64 (k : Int)] 246)) = W at *
  generalize w1.heap.size = DD at *
  have HB2 : Hid (Below w.heap.size w W) := hb2
  have HT2 : Hid (Tb W) := HTB.out.bel hb2
  clear hb2
  have cmo := HT2.out.mo (m - 1) (by omega)
  have zSMo : (str (mons.getD (m - 1) [])).size = 3 := by rw [str_size]; exact mons_3 _ (by omega)
  generalize hsmo : str (mons.getD (m - 1) []) = SMo at cmo zSMo
  have HSMO : Hid (_ = _) := hsmo
  clear hsmo
  have hm1 : (m : Int) - 1 = ((m - 1 : Nat) : Int) := by omega
  refine (HBF.out _).mono ?_
  rintro e WW ⟨rfl, hw'⟩
  subst hw'
  have HPP : Hid (∀ n : Nat, n < 100 → ∀ w, Calls Tryz.prog 211 #[.int .i64 (n : Int), .int .i64 2, .string ⟨#[48]⟩] w fun e w' => e = .returned (.string (str (p2 48 n))) ∧ w' = w) := fun n hn w => padded2_any n hn 48 w
  have b1 : h < 100 := by omega
  have b2 : i < 100 := by omega
  have b3 : s < 100 := by omega
  have zSH : (str (p2 48 h)).size = 2 := by rw [str_size, p2_len]
  have zSM : (str (p2 48 i)).size = 2 := by rw [str_size, p2_len]
  have zSS : (str (p2 48 s)).size = 2 := by rw [str_size, p2_len]
  have HCK : Hid (((((((⟨#[32]⟩ : ByteArray) ++ str (p2 48 h)) ++ (⟨#[58]⟩ : ByteArray)) ++ str (p2 48 i)) ++ (⟨#[58]⟩ : ByteArray)) ++ str (p2 48 s)) = str (clk h i s)) := (by
      rw [show (⟨#[32]⟩ : ByteArray) = str [32] from rfl, show (⟨#[58]⟩ : ByteArray) = str [58] from rfl, str_app, str_app, str_app, str_app, str_app, p2_48 (by omega), p2_48 (by omega), p2_48 (by omega)]
      rfl : _ = _)
  have zc0 : (⟨#[32]⟩ : ByteArray).size + (str (p2 48 h)).size ≤ 200 := by simp only [ByteArray.size_append, zSH, zSM, zSS]; (try simp only [show (⟨#[32]⟩ : ByteArray).size = 1 from rfl, show (⟨#[58]⟩ : ByteArray).size = 1 from rfl, show (⟨#[45]⟩ : ByteArray).size = 1 from rfl, show (⟨#[44, 32]⟩ : ByteArray).size = 2 from rfl, show (⟨#[32, 71, 77, 84]⟩ : ByteArray).size = 4 from rfl]); omega
  have zc1 : ((⟨#[32]⟩ : ByteArray) ++ (str (p2 48 h))).size + (⟨#[58]⟩ : ByteArray).size ≤ 200 := by simp only [ByteArray.size_append, zSH, zSM, zSS]; (try simp only [show (⟨#[32]⟩ : ByteArray).size = 1 from rfl, show (⟨#[58]⟩ : ByteArray).size = 1 from rfl, show (⟨#[45]⟩ : ByteArray).size = 1 from rfl, show (⟨#[44, 32]⟩ : ByteArray).size = 2 from rfl, show (⟨#[32, 71, 77, 84]⟩ : ByteArray).size = 4 from rfl]); omega
  have zc2 : (((⟨#[32]⟩ : ByteArray) ++ (str (p2 48 h))) ++ (⟨#[58]⟩ : ByteArray)).size + (str (p2 48 i)).size ≤ 200 := by simp only [ByteArray.size_append, zSH, zSM, zSS]; (try simp only [show (⟨#[32]⟩ : ByteArray).size = 1 from rfl, show (⟨#[58]⟩ : ByteArray).size = 1 from rfl, show (⟨#[45]⟩ : ByteArray).size = 1 from rfl, show (⟨#[44, 32]⟩ : ByteArray).size = 2 from rfl, show (⟨#[32, 71, 77, 84]⟩ : ByteArray).size = 4 from rfl]); omega
  have zc3 : ((((⟨#[32]⟩ : ByteArray) ++ (str (p2 48 h))) ++ (⟨#[58]⟩ : ByteArray)) ++ (str (p2 48 i))).size + (⟨#[58]⟩ : ByteArray).size ≤ 200 := by simp only [ByteArray.size_append, zSH, zSM, zSS]; (try simp only [show (⟨#[32]⟩ : ByteArray).size = 1 from rfl, show (⟨#[58]⟩ : ByteArray).size = 1 from rfl, show (⟨#[45]⟩ : ByteArray).size = 1 from rfl, show (⟨#[44, 32]⟩ : ByteArray).size = 2 from rfl, show (⟨#[32, 71, 77, 84]⟩ : ByteArray).size = 4 from rfl]); omega
  have zc4 : (((((⟨#[32]⟩ : ByteArray) ++ (str (p2 48 h))) ++ (⟨#[58]⟩ : ByteArray)) ++ (str (p2 48 i))) ++ (⟨#[58]⟩ : ByteArray)).size + (str (p2 48 s)).size ≤ 200 := by simp only [ByteArray.size_append, zSH, zSM, zSS]; (try simp only [show (⟨#[32]⟩ : ByteArray).size = 1 from rfl, show (⟨#[58]⟩ : ByteArray).size = 1 from rfl, show (⟨#[45]⟩ : ByteArray).size = 1 from rfl, show (⟨#[44, 32]⟩ : ByteArray).size = 2 from rfl, show (⟨#[32, 71, 77, 84]⟩ : ByteArray).size = 4 from rfl]); omega
  go_wp2_with fail
  go_quiet ((go_at_call 211; exact Calls.quiet_of_same (HPP.out _ (by assumption) _)))
  have HB3 : Hid (Below w.heap.size w (WW.drewN nq)) := bel_drewN HB2.out nq
  have HBW : Hid (But [] WW (WW.drewN nq)) := (But.refl [] WW).drewN nq
  generalize WW.drewN nq = W2 at *
  have nn : ∀ x : Nat, x ∉ ([] : List Nat) := fun _ e => by cases e
  replace c0 := HBW.out.cell c0 (nn _)
  replace c2 := HBW.out.cell c2 (nn _)
  replace c6 := HBW.out.cell c6 (nn _)
  have HT3 : Hid (Tb W2) := HT2.out.bel HBW.out.to_below
  clear c1 c3 c4 c5 cmo nn
  clear HBW HB2 HT2
  rw [HCK.out]
  have zCK : (str (clk h i s)).size = 9 := by rw [str_size]; rfl
  have b4 : d < 100 := by omega
  have zSD : (str (p2 48 d)).size = 2 := by rw [str_size, p2_len]
  clear HCK zc0 zc1 zc2 zc3 zc4 zSH zSM zSS
  generalize hck : str (clk h i s) = CK at *
  have HCK : Hid (_ = _) := hck
  clear hck
  have hk7 : k < 7 := by omega
  have cs := HT3.out.sd k hk7
  have zSW : (str (shorts.getD k [])).size = 3 := by rw [str_size]; exact shorts_3 k hk7
  generalize hsw : str (shorts.getD k []) = SW at *
  have HSW : Hid (_ = _) := hsw
  clear hsw
  have zSY : (str (d4 y)).size = 4 := by rw [str_size]; first | rw [p2_len] | rfl
  have HA : Hid (((((((((SW ++ (⟨#[44, 32]⟩ : ByteArray)) ++ (str (p2 48 d))) ++ (⟨#[32]⟩ : ByteArray)) ++ SMo) ++ (⟨#[32]⟩ : ByteArray)) ++ (str (d4 y))) ++ CK) ++ (⟨#[32, 71, 77, 84]⟩ : ByteArray)) = str (wrS 0 y m d h i s k)) := (by
    rw [← HSW.out, ← HSMO.out, ← HCK.out, p2_48 b4, show (⟨#[44, 32]⟩ : ByteArray) = str [44, 32] from rfl, show (⟨#[32]⟩ : ByteArray) = str [32] from rfl, show (⟨#[32, 71, 77, 84]⟩ : ByteArray) = str [32, 71, 77, 84] from rfl]
    simp only [str_app]
    rfl : _ = _)
  have HPY : Hid (∀ w, Tb w → Calls Tryz.prog 211 #[.int .i64 (y : Int), .int .i64 4, .string ⟨#[48]⟩] w fun e w' => e = .returned (.string (str (d4 y))) ∧ Below w.heap.size w w') := fun w h => padded4_any y (by omega) w h
  have HPD : Hid (∀ w, Calls Tryz.prog 211 #[.int .i64 (d : Int), .int .i64 2, .string ⟨#[48]⟩] w fun e w' => e = .returned (.string (str (p2 48 d))) ∧ w' = w) := fun w => HPP.out d b4 w
  clear HPP
  generalize str (d4 y) = SY at *
  generalize str (p2 48 d) = SD at *
  go_wp2_with fail
  have sK1 : (⟨#[32]⟩ : ByteArray).size = 1 := rfl
  have sK4 : (⟨#[44, 32]⟩ : ByteArray).size = 2 := rfl
  have sK5 : (⟨#[32, 71, 77, 84]⟩ : ByteArray).size = 4 := rfl
  have sK6 : (⟨#[48]⟩ : ByteArray).size = 1 := rfl
  generalize (⟨#[32]⟩ : ByteArray) = K1 at *
  generalize (⟨#[44, 32]⟩ : ByteArray) = K4 at *
  generalize (⟨#[32, 71, 77, 84]⟩ : ByteArray) = K5 at *
  generalize (⟨#[48]⟩ : ByteArray) = K6 at *
  have d0 : W2.drew.cell? ⟨DD, 0, none⟩ = some (.int .i64 (y : Int)) := c0
  have dd2 : W2.drew.cell? ⟨DD, 2, none⟩ = some (.int .i64 (d : Int)) := c2
  have d6 : W2.drew.cell? ⟨DD, 6, none⟩ = some (.int .i64 (k : Int)) := c6
  have ds : W2.drew.cell? ⟨3, k, none⟩ = some (.string SW) := cs
  have HT4 : Hid (Tb W2.drew) := HT3.out.bel ((But.refl [] W2).drew).to_below
  have HB4 : Hid (Below w.heap.size w W2.drew) := bel_drewN HB3.out 1
  clear c0 c2 c6 cs HB3 HT3
  go_region_held3 (fun X => X.cell? ⟨DD, 0, none⟩ = some (.int .i64 (y : Int)) ∧ X.cell? ⟨DD, 2, none⟩ = some (.int .i64 (d : Int)) ∧ X.cell? ⟨DD, 6, none⟩ = some (.int .i64 (k : Int)) ∧ X.cell? ⟨3, k, none⟩ = some (.string SW)) (first | exact ⟨d0, dd2, d6, ds⟩ | exact ⟨m0, m2, m6, ms⟩) (first | (go_at_call 211; (with_reducible refine (HPD.out _).mono ?_); rintro e w6 ⟨rfl, rfl⟩) | (go_at_call 211; (with_reducible refine (HPY.out _ HT4.out).mono ?_); rintro e w5 ⟨rfl, b5⟩; have HB5 : Hid (Below w.heap.size w w5) := bel_trans HB4.out b5; have m0 := (But.of_below b5).cell d0 (fun e => by cases e); have m2 := (But.of_below b5).cell dd2 (fun e => by cases e); have m6 := (But.of_below b5).cell d6 (fun e => by cases e); have ms := (But.of_below b5).cell ds (fun e => by cases e); clear b5))
  go_wp2
  go_ret2
  exact ⟨ret_si (by rw [HWR2.out]; exact HA.out) (by rw [HWR2.out]), HB5.out⟩

end Bs
end Go.Proofs.YticncpjpkgdnlaaGreatDoor

/-
  A moment in a form (1).
-/
set_option linter.unusedVariables false
set_option linter.unusedSimpArgs false
namespace Go.Proofs.YticncpjpkgdnlaaGreatDoor
open Go.RowKit
namespace Bs

set_option maxRecDepth 100000 in
set_option maxHeartbeats 4000000 in
theorem Write_1 (t : Int) (ht : I64 t) (hM : isM t) (w : World) (tb : Tb w) :
    Calls Tryz.prog 146 #[.int .i64 t, .int .i64 1] w fun e w' => e = .returned (.tuple #[.string (str (writeR t 1).1), .int .i64 (writeR t 1).2]) ∧ Below w.heap.size w w' := by
  have hF : 0 ≤ (1 : Int) ∧ (1 : Int) < 3 := by omega
  have hf : I64 1 := ⟨by omega, by omega⟩
  have hsp := Split_any t ht w tb
  have HTB : Hid (Tb w) := tb
  clear tb
  rw [show splitR t = (splitV t, 0) from if_pos hM] at hsp
  have HSP : Hid (Calls Tryz.prog 209 #[.int .i64 t] w fun e w' => e = .returned (.tuple #[splitV t, .int .i64 0]) ∧ Below w.heap.size w w') := hsp
  clear hsp
  unfold splitV dv7 at HSP
  have hM1 := hM.1
  have hM2 := hM.2
  have hI := (ymd_is (D := t / 86400) (by omega) (by omega)).1
  have hm := hI.m
  have hd := md_le (ymd (t / 86400)).1 (ymd (t / 86400)).2.1
  obtain ⟨y1, y2, d1, d2'⟩ := hI
  have hwd := wday_r (t / 86400)
  have r1 : 0 ≤ t % 86400 / 3600 ∧ t % 86400 / 3600 < 24 := by omega
  have r2 : 0 ≤ t % 86400 % 3600 / 60 ∧ t % 86400 % 3600 / 60 < 60 := by omega
  have r3 : 0 ≤ t % 86400 % 60 ∧ t % 86400 % 60 < 60 := by omega
  have HWR : Hid (writeR t (1 : Int) = if ¬ (0 ≤ (1 : Int) ∧ (1 : Int) < 3) then ([], 44) else (wrS (1 : Int) (ymd (t / 86400)).1.toNat (ymd (t / 86400)).2.1.toNat (ymd (t / 86400)).2.2.toNat (t % 86400 / 3600).toNat (t % 86400 % 3600 / 60).toNat (t % 86400 % 60).toNat (wday (t / 86400)).toNat, 0)) := if_neg (fun h => h hM)
  have HBF : Hid (∀ w, Calls Tryz.prog 210 #[.int .i64 (1 : Int), .int .i64 3] w fun e w' => e = .returned (.bool (decide (0 ≤ (1 : Int) ∧ (1 : Int) < 3))) ∧ w' = w) := fun w => below_any (1 : Int) 3 hf ⟨by omega, by omega⟩ w
  generalize (ymd (t / 86400)).1 = Y at *
  generalize (ymd (t / 86400)).2.1 = M at *
  generalize (ymd (t / 86400)).2.2 = Dd at *
  generalize t % 86400 / 3600 = H at *
  generalize t % 86400 % 3600 / 60 = I at *
  generalize t % 86400 % 60 = S at *
  generalize wday (t / 86400) = K at *
  obtain ⟨y, rfl⟩ := toN (x := Y) (by omega)
  obtain ⟨m, rfl⟩ := toN (x := M) (by omega)
  obtain ⟨d, rfl⟩ := toN (x := Dd) (by omega)
  obtain ⟨h, rfl⟩ := toN (x := H) (by omega)
  obtain ⟨i, rfl⟩ := toN (x := I) (by omega)
  obtain ⟨s, rfl⟩ := toN (x := S) (by omega)
  obtain ⟨k, rfl⟩ := toN (x := K) (by omega)
  simp only [Int.toNat_natCast] at HWR
  rw [decide_eq_true hF] at HBF
  have HWR2 : Hid (writeR t (1 : Int) = (wrS (1 : Int) y m d h i s k, 0)) := (by rw [HWR.out, if_neg (fun e => e hF)] : writeR t (1 : Int) = (wrS (1 : Int) y m d h i s k, 0))
  clear HWR
  go_enter Tryz.func146, Tryz.ntmps146
  go_wp2_with fail
  refine Calls.mono HSP.out ?_
  rintro e w1 ⟨rfl, b1⟩
  have hb2 : Below w.heap.size w (w1.alloc (.cells #[.int .i64 (y : Int), .int .i64 (m : Int), .int .i64 (d : Int), .int .i64 (h : Int), .int .i64 (i : Int), .int .i64 (s : Int), .int .i64 (k : Int)] 246)) := bel_trans b1 ((But.refl [] w1).alloc _).to_below
  clear b1
  go_wp2_with fail
  have c0 : (w1.alloc (.cells #[.int .i64 (y : Int), .int .i64 (m : Int), .int .i64 (d : Int), .int .i64 (h : Int), .int .i64 (i : Int), .int .i64 (s : Int), .int .i64 (k : Int)] 246)).cell? ⟨w1.heap.size, 0, none⟩ = some (.int .i64 (y : Int)) := by simp
  have c1 : (w1.alloc (.cells #[.int .i64 (y : Int), .int .i64 (m : Int), .int .i64 (d : Int), .int .i64 (h : Int), .int .i64 (i : Int), .int .i64 (s : Int), .int .i64 (k : Int)] 246)).cell? ⟨w1.heap.size, 1, none⟩ = some (.int .i64 (m : Int)) := by simp
  have c2 : (w1.alloc (.cells #[.int .i64 (y : Int), .int .i64 (m : Int), .int .i64 (d : Int), .int .i64 (h : Int), .int .i64 (i : Int), .int .i64 (s : Int), .int .i64 (k : Int)] 246)).cell? ⟨w1.heap.size, 2, none⟩ = some (.int .i64 (d : Int)) := by simp
  have c3 : (w1.alloc (.cells #[.int .i64 (y : Int), .int .i64 (m : Int), .int .i64 (d : Int), .int .i64 (h : Int), .int .i64 (i : Int), .int .i64 (s : Int), .int .i64 (k : Int)] 246)).cell? ⟨w1.heap.size, 3, none⟩ = some (.int .i64 (h : Int)) := by simp
  have c4 : (w1.alloc (.cells #[.int .i64 (y : Int), .int .i64 (m : Int), .int .i64 (d : Int), .int .i64 (h : Int), .int .i64 (i : Int), .int .i64 (s : Int), .int .i64 (k : Int)] 246)).cell? ⟨w1.heap.size, 4, none⟩ = some (.int .i64 (i : Int)) := by simp
  have c5 : (w1.alloc (.cells #[.int .i64 (y : Int), .int .i64 (m : Int), .int .i64 (d : Int), .int .i64 (h : Int), .int .i64 (i : Int), .int .i64 (s : Int), .int .i64 (k : Int)] 246)).cell? ⟨w1.heap.size, 5, none⟩ = some (.int .i64 (s : Int)) := by simp
  have c6 : (w1.alloc (.cells #[.int .i64 (y : Int), .int .i64 (m : Int), .int .i64 (d : Int), .int .i64 (h : Int), .int .i64 (i : Int), .int .i64 (s : Int), .int .i64 (k : Int)] 246)).cell? ⟨w1.heap.size, 6, none⟩ = some (.int .i64 (k : Int)) := by simp
  generalize (w1.alloc (.cells #[.int .i64 (y : Int), .int .i64 (m : Int), .int .i64 (d : Int), .int .i64 (h : Int), .int .i64 (i : Int), .int .i64 (s : Int), .int .i64 (k : Int)] 246)) = W at *
  generalize w1.heap.size = DD at *
  have HB2 : Hid (Below w.heap.size w W) := hb2
  have HT2 : Hid (Tb W) := HTB.out.bel hb2
  clear hb2
  have cmo := HT2.out.mo (m - 1) (by omega)
  have zSMo : (str (mons.getD (m - 1) [])).size = 3 := by rw [str_size]; exact mons_3 _ (by omega)
  generalize hsmo : str (mons.getD (m - 1) []) = SMo at cmo zSMo
  have HSMO : Hid (_ = _) := hsmo
  clear hsmo
  have hm1 : (m : Int) - 1 = ((m - 1 : Nat) : Int) := by omega
  refine (HBF.out _).mono ?_
  rintro e WW ⟨rfl, hw'⟩
  subst hw'
  have HPP : Hid (∀ n : Nat, n < 100 → ∀ w, Calls Tryz.prog 211 #[.int .i64 (n : Int), .int .i64 2, .string ⟨#[48]⟩] w fun e w' => e = .returned (.string (str (p2 48 n))) ∧ w' = w) := fun n hn w => padded2_any n hn 48 w
  have b1 : h < 100 := by omega
  have b2 : i < 100 := by omega
  have b3 : s < 100 := by omega
  have zSH : (str (p2 48 h)).size = 2 := by rw [str_size, p2_len]
  have zSM : (str (p2 48 i)).size = 2 := by rw [str_size, p2_len]
  have zSS : (str (p2 48 s)).size = 2 := by rw [str_size, p2_len]
  have HCK : Hid (((((((⟨#[32]⟩ : ByteArray) ++ str (p2 48 h)) ++ (⟨#[58]⟩ : ByteArray)) ++ str (p2 48 i)) ++ (⟨#[58]⟩ : ByteArray)) ++ str (p2 48 s)) = str (clk h i s)) := (by
      rw [show (⟨#[32]⟩ : ByteArray) = str [32] from rfl, show (⟨#[58]⟩ : ByteArray) = str [58] from rfl, str_app, str_app, str_app, str_app, str_app, p2_48 (by omega), p2_48 (by omega), p2_48 (by omega)]
      rfl : _ = _)
  have zc0 : (⟨#[32]⟩ : ByteArray).size + (str (p2 48 h)).size ≤ 200 := by simp only [ByteArray.size_append, zSH, zSM, zSS]; (try simp only [show (⟨#[32]⟩ : ByteArray).size = 1 from rfl, show (⟨#[58]⟩ : ByteArray).size = 1 from rfl, show (⟨#[45]⟩ : ByteArray).size = 1 from rfl, show (⟨#[44, 32]⟩ : ByteArray).size = 2 from rfl, show (⟨#[32, 71, 77, 84]⟩ : ByteArray).size = 4 from rfl]); omega
  have zc1 : ((⟨#[32]⟩ : ByteArray) ++ (str (p2 48 h))).size + (⟨#[58]⟩ : ByteArray).size ≤ 200 := by simp only [ByteArray.size_append, zSH, zSM, zSS]; (try simp only [show (⟨#[32]⟩ : ByteArray).size = 1 from rfl, show (⟨#[58]⟩ : ByteArray).size = 1 from rfl, show (⟨#[45]⟩ : ByteArray).size = 1 from rfl, show (⟨#[44, 32]⟩ : ByteArray).size = 2 from rfl, show (⟨#[32, 71, 77, 84]⟩ : ByteArray).size = 4 from rfl]); omega
  have zc2 : (((⟨#[32]⟩ : ByteArray) ++ (str (p2 48 h))) ++ (⟨#[58]⟩ : ByteArray)).size + (str (p2 48 i)).size ≤ 200 := by simp only [ByteArray.size_append, zSH, zSM, zSS]; (try simp only [show (⟨#[32]⟩ : ByteArray).size = 1 from rfl, show (⟨#[58]⟩ : ByteArray).size = 1 from rfl, show (⟨#[45]⟩ : ByteArray).size = 1 from rfl, show (⟨#[44, 32]⟩ : ByteArray).size = 2 from rfl, show (⟨#[32, 71, 77, 84]⟩ : ByteArray).size = 4 from rfl]); omega
  have zc3 : ((((⟨#[32]⟩ : ByteArray) ++ (str (p2 48 h))) ++ (⟨#[58]⟩ : ByteArray)) ++ (str (p2 48 i))).size + (⟨#[58]⟩ : ByteArray).size ≤ 200 := by simp only [ByteArray.size_append, zSH, zSM, zSS]; (try simp only [show (⟨#[32]⟩ : ByteArray).size = 1 from rfl, show (⟨#[58]⟩ : ByteArray).size = 1 from rfl, show (⟨#[45]⟩ : ByteArray).size = 1 from rfl, show (⟨#[44, 32]⟩ : ByteArray).size = 2 from rfl, show (⟨#[32, 71, 77, 84]⟩ : ByteArray).size = 4 from rfl]); omega
  have zc4 : (((((⟨#[32]⟩ : ByteArray) ++ (str (p2 48 h))) ++ (⟨#[58]⟩ : ByteArray)) ++ (str (p2 48 i))) ++ (⟨#[58]⟩ : ByteArray)).size + (str (p2 48 s)).size ≤ 200 := by simp only [ByteArray.size_append, zSH, zSM, zSS]; (try simp only [show (⟨#[32]⟩ : ByteArray).size = 1 from rfl, show (⟨#[58]⟩ : ByteArray).size = 1 from rfl, show (⟨#[45]⟩ : ByteArray).size = 1 from rfl, show (⟨#[44, 32]⟩ : ByteArray).size = 2 from rfl, show (⟨#[32, 71, 77, 84]⟩ : ByteArray).size = 4 from rfl]); omega
  go_wp2_with fail
  go_quiet ((go_at_call 211; exact Calls.quiet_of_same (HPP.out _ (by assumption) _)))
  have HB3 : Hid (Below w.heap.size w (WW.drewN nq)) := bel_drewN HB2.out nq
  have HBW : Hid (But [] WW (WW.drewN nq)) := (But.refl [] WW).drewN nq
  generalize WW.drewN nq = W2 at *
  have nn : ∀ x : Nat, x ∉ ([] : List Nat) := fun _ e => by cases e
  replace c0 := HBW.out.cell c0 (nn _)
  replace c2 := HBW.out.cell c2 (nn _)
  replace c6 := HBW.out.cell c6 (nn _)
  have HT3 : Hid (Tb W2) := HT2.out.bel HBW.out.to_below
  clear c1 c3 c4 c5 cmo nn
  clear HBW HB2 HT2
  rw [HCK.out]
  have zCK : (str (clk h i s)).size = 9 := by rw [str_size]; rfl
  have b4 : d < 100 := by omega
  have zSD : (str (p2 48 d)).size = 2 := by rw [str_size, p2_len]
  clear HCK zc0 zc1 zc2 zc3 zc4 zSH zSM zSS
  generalize hck : str (clk h i s) = CK at *
  have HCK : Hid (_ = _) := hck
  clear hck
  have hk7 : k < 7 := by omega
  have cs := HT3.out.ld k hk7
  have zSW : (str (longs.getD k [])).size ≤ 9 ∧ 6 ≤ (str (longs.getD k [])).size := by rw [str_size]; exact ⟨(longs_n' hk7).2, (longs_n' hk7).1⟩
  generalize hsw : str (longs.getD k []) = SW at *
  have HSW : Hid (_ = _) := hsw
  clear hsw
  obtain ⟨q, hq⟩ : ∃ q : Nat, (y : Int) % 100 = (q : Int) := ⟨y % 100, by omega⟩
  have hqy : y % 100 = q := by omega
  have b5 : q < 100 := by omega
  have zSY : (str (p2 48 q)).size = 2 := by rw [str_size]; first | rw [p2_len] | rfl
  have HA : Hid (((((((((SW ++ (⟨#[44, 32]⟩ : ByteArray)) ++ (str (p2 48 d))) ++ (⟨#[45]⟩ : ByteArray)) ++ SMo) ++ (⟨#[45]⟩ : ByteArray)) ++ (str (p2 48 q))) ++ CK) ++ (⟨#[32, 71, 77, 84]⟩ : ByteArray)) = str (wrS 1 y m d h i s k)) := (by
    rw [← HSW.out, ← HSMO.out, ← HCK.out, p2_48 b4, p2_48 b5, ← hqy, show (⟨#[44, 32]⟩ : ByteArray) = str [44, 32] from rfl, show (⟨#[45]⟩ : ByteArray) = str [45] from rfl, show (⟨#[32, 71, 77, 84]⟩ : ByteArray) = str [32, 71, 77, 84] from rfl]
    simp only [str_app]
    rfl : _ = _)
  have HPY : Hid (∀ w, Calls Tryz.prog 211 #[.int .i64 (q : Int), .int .i64 2, .string ⟨#[48]⟩] w fun e w' => e = .returned (.string (str (p2 48 q))) ∧ w' = w) := fun w => HPP.out q b5 w
  clear hqy
  have HPD : Hid (∀ w, Calls Tryz.prog 211 #[.int .i64 (d : Int), .int .i64 2, .string ⟨#[48]⟩] w fun e w' => e = .returned (.string (str (p2 48 d))) ∧ w' = w) := fun w => HPP.out d b4 w
  clear HPP
  generalize str (p2 48 q) = SY at *
  generalize str (p2 48 d) = SD at *
  go_wp2_with fail
  have sK3 : (⟨#[45]⟩ : ByteArray).size = 1 := rfl
  have sK4 : (⟨#[44, 32]⟩ : ByteArray).size = 2 := rfl
  have sK5 : (⟨#[32, 71, 77, 84]⟩ : ByteArray).size = 4 := rfl
  have sK6 : (⟨#[48]⟩ : ByteArray).size = 1 := rfl
  generalize (⟨#[45]⟩ : ByteArray) = K3 at *
  generalize (⟨#[44, 32]⟩ : ByteArray) = K4 at *
  generalize (⟨#[32, 71, 77, 84]⟩ : ByteArray) = K5 at *
  generalize (⟨#[48]⟩ : ByteArray) = K6 at *
  have hzz : SW.size = 6 ∨ SW.size = 7 ∨ SW.size = 8 ∨ SW.size = 9 := by omega
  clear zSW
  rcases hzz with zSW | zSW | zSW | zSW
  all_goals
   go_quiet (first | (go_at_call 211; with_reducible exact Calls.quiet_of_same (HPD.out _)) | (go_at_call 211; with_reducible exact Calls.quiet_of_same (HPY.out _)))
   go_wp2
   go_ret2
   exact ⟨ret_si (by rw [HWR2.out]; exact HA.out) (by rw [HWR2.out]), bel_drewN HB3.out _⟩

end Bs
end Go.Proofs.YticncpjpkgdnlaaGreatDoor

/-
  A moment in a form (2).
-/
set_option linter.unusedVariables false
set_option linter.unusedSimpArgs false
namespace Go.Proofs.YticncpjpkgdnlaaGreatDoor
open Go.RowKit
namespace Bs

set_option maxRecDepth 100000 in
set_option maxHeartbeats 4000000 in
theorem Write_2 (t : Int) (ht : I64 t) (hM : isM t) (w : World) (tb : Tb w) :
    Calls Tryz.prog 146 #[.int .i64 t, .int .i64 2] w fun e w' => e = .returned (.tuple #[.string (str (writeR t 2).1), .int .i64 (writeR t 2).2]) ∧ Below w.heap.size w w' := by
  have hF : 0 ≤ (2 : Int) ∧ (2 : Int) < 3 := by omega
  have hf : I64 2 := ⟨by omega, by omega⟩
  have hsp := Split_any t ht w tb
  have HTB : Hid (Tb w) := tb
  clear tb
  rw [show splitR t = (splitV t, 0) from if_pos hM] at hsp
  have HSP : Hid (Calls Tryz.prog 209 #[.int .i64 t] w fun e w' => e = .returned (.tuple #[splitV t, .int .i64 0]) ∧ Below w.heap.size w w') := hsp
  clear hsp
  unfold splitV dv7 at HSP
  have hM1 := hM.1
  have hM2 := hM.2
  have hI := (ymd_is (D := t / 86400) (by omega) (by omega)).1
  have hm := hI.m
  have hd := md_le (ymd (t / 86400)).1 (ymd (t / 86400)).2.1
  obtain ⟨y1, y2, d1, d2'⟩ := hI
  have hwd := wday_r (t / 86400)
  have r1 : 0 ≤ t % 86400 / 3600 ∧ t % 86400 / 3600 < 24 := by omega
  have r2 : 0 ≤ t % 86400 % 3600 / 60 ∧ t % 86400 % 3600 / 60 < 60 := by omega
  have r3 : 0 ≤ t % 86400 % 60 ∧ t % 86400 % 60 < 60 := by omega
  have HWR : Hid (writeR t (2 : Int) = if ¬ (0 ≤ (2 : Int) ∧ (2 : Int) < 3) then ([], 44) else (wrS (2 : Int) (ymd (t / 86400)).1.toNat (ymd (t / 86400)).2.1.toNat (ymd (t / 86400)).2.2.toNat (t % 86400 / 3600).toNat (t % 86400 % 3600 / 60).toNat (t % 86400 % 60).toNat (wday (t / 86400)).toNat, 0)) := if_neg (fun h => h hM)
  have HBF : Hid (∀ w, Calls Tryz.prog 210 #[.int .i64 (2 : Int), .int .i64 3] w fun e w' => e = .returned (.bool (decide (0 ≤ (2 : Int) ∧ (2 : Int) < 3))) ∧ w' = w) := fun w => below_any (2 : Int) 3 hf ⟨by omega, by omega⟩ w
  generalize (ymd (t / 86400)).1 = Y at *
  generalize (ymd (t / 86400)).2.1 = M at *
  generalize (ymd (t / 86400)).2.2 = Dd at *
  generalize t % 86400 / 3600 = H at *
  generalize t % 86400 % 3600 / 60 = I at *
  generalize t % 86400 % 60 = S at *
  generalize wday (t / 86400) = K at *
  obtain ⟨y, rfl⟩ := toN (x := Y) (by omega)
  obtain ⟨m, rfl⟩ := toN (x := M) (by omega)
  obtain ⟨d, rfl⟩ := toN (x := Dd) (by omega)
  obtain ⟨h, rfl⟩ := toN (x := H) (by omega)
  obtain ⟨i, rfl⟩ := toN (x := I) (by omega)
  obtain ⟨s, rfl⟩ := toN (x := S) (by omega)
  obtain ⟨k, rfl⟩ := toN (x := K) (by omega)
  simp only [Int.toNat_natCast] at HWR
  rw [decide_eq_true hF] at HBF
  have HWR2 : Hid (writeR t (2 : Int) = (wrS (2 : Int) y m d h i s k, 0)) := (by rw [HWR.out, if_neg (fun e => e hF)] : writeR t (2 : Int) = (wrS (2 : Int) y m d h i s k, 0))
  clear HWR
  go_enter Tryz.func146, Tryz.ntmps146
  go_wp2_with fail
  refine Calls.mono HSP.out ?_
  rintro e w1 ⟨rfl, b1⟩
  have hb2 : Below w.heap.size w (w1.alloc (.cells #[.int .i64 (y : Int), .int .i64 (m : Int), .int .i64 (d : Int), .int .i64 (h : Int), .int .i64 (i : Int), .int .i64 (s : Int), .int .i64 (k : Int)] 246)) := bel_trans b1 ((But.refl [] w1).alloc _).to_below
  clear b1
  go_wp2_with fail
  have c0 : (w1.alloc (.cells #[.int .i64 (y : Int), .int .i64 (m : Int), .int .i64 (d : Int), .int .i64 (h : Int), .int .i64 (i : Int), .int .i64 (s : Int), .int .i64 (k : Int)] 246)).cell? ⟨w1.heap.size, 0, none⟩ = some (.int .i64 (y : Int)) := by simp
  have c1 : (w1.alloc (.cells #[.int .i64 (y : Int), .int .i64 (m : Int), .int .i64 (d : Int), .int .i64 (h : Int), .int .i64 (i : Int), .int .i64 (s : Int), .int .i64 (k : Int)] 246)).cell? ⟨w1.heap.size, 1, none⟩ = some (.int .i64 (m : Int)) := by simp
  have c2 : (w1.alloc (.cells #[.int .i64 (y : Int), .int .i64 (m : Int), .int .i64 (d : Int), .int .i64 (h : Int), .int .i64 (i : Int), .int .i64 (s : Int), .int .i64 (k : Int)] 246)).cell? ⟨w1.heap.size, 2, none⟩ = some (.int .i64 (d : Int)) := by simp
  have c3 : (w1.alloc (.cells #[.int .i64 (y : Int), .int .i64 (m : Int), .int .i64 (d : Int), .int .i64 (h : Int), .int .i64 (i : Int), .int .i64 (s : Int), .int .i64 (k : Int)] 246)).cell? ⟨w1.heap.size, 3, none⟩ = some (.int .i64 (h : Int)) := by simp
  have c4 : (w1.alloc (.cells #[.int .i64 (y : Int), .int .i64 (m : Int), .int .i64 (d : Int), .int .i64 (h : Int), .int .i64 (i : Int), .int .i64 (s : Int), .int .i64 (k : Int)] 246)).cell? ⟨w1.heap.size, 4, none⟩ = some (.int .i64 (i : Int)) := by simp
  have c5 : (w1.alloc (.cells #[.int .i64 (y : Int), .int .i64 (m : Int), .int .i64 (d : Int), .int .i64 (h : Int), .int .i64 (i : Int), .int .i64 (s : Int), .int .i64 (k : Int)] 246)).cell? ⟨w1.heap.size, 5, none⟩ = some (.int .i64 (s : Int)) := by simp
  have c6 : (w1.alloc (.cells #[.int .i64 (y : Int), .int .i64 (m : Int), .int .i64 (d : Int), .int .i64 (h : Int), .int .i64 (i : Int), .int .i64 (s : Int), .int .i64 (k : Int)] 246)).cell? ⟨w1.heap.size, 6, none⟩ = some (.int .i64 (k : Int)) := by simp
  generalize (w1.alloc (.cells #[.int .i64 (y : Int), .int .i64 (m : Int), .int .i64 (d : Int), .int .i64 (h : Int), .int .i64 (i : Int), .int .i64 (s : Int), .int .i64 (k : Int)] 246)) = W at *
  generalize w1.heap.size = DD at *
  have HB2 : Hid (Below w.heap.size w W) := hb2
  have HT2 : Hid (Tb W) := HTB.out.bel hb2
  clear hb2
  have cmo := HT2.out.mo (m - 1) (by omega)
  have zSMo : (str (mons.getD (m - 1) [])).size = 3 := by rw [str_size]; exact mons_3 _ (by omega)
  generalize hsmo : str (mons.getD (m - 1) []) = SMo at cmo zSMo
  have HSMO : Hid (_ = _) := hsmo
  clear hsmo
  have hm1 : (m : Int) - 1 = ((m - 1 : Nat) : Int) := by omega
  refine (HBF.out _).mono ?_
  rintro e WW ⟨rfl, hw'⟩
  subst hw'
  have HPP : Hid (∀ n : Nat, n < 100 → ∀ w, Calls Tryz.prog 211 #[.int .i64 (n : Int), .int .i64 2, .string ⟨#[48]⟩] w fun e w' => e = .returned (.string (str (p2 48 n))) ∧ w' = w) := fun n hn w => padded2_any n hn 48 w
  have b1 : h < 100 := by omega
  have b2 : i < 100 := by omega
  have b3 : s < 100 := by omega
  have zSH : (str (p2 48 h)).size = 2 := by rw [str_size, p2_len]
  have zSM : (str (p2 48 i)).size = 2 := by rw [str_size, p2_len]
  have zSS : (str (p2 48 s)).size = 2 := by rw [str_size, p2_len]
  have HCK : Hid (((((((⟨#[32]⟩ : ByteArray) ++ str (p2 48 h)) ++ (⟨#[58]⟩ : ByteArray)) ++ str (p2 48 i)) ++ (⟨#[58]⟩ : ByteArray)) ++ str (p2 48 s)) = str (clk h i s)) := (by
      rw [show (⟨#[32]⟩ : ByteArray) = str [32] from rfl, show (⟨#[58]⟩ : ByteArray) = str [58] from rfl, str_app, str_app, str_app, str_app, str_app, p2_48 (by omega), p2_48 (by omega), p2_48 (by omega)]
      rfl : _ = _)
  have zc0 : (⟨#[32]⟩ : ByteArray).size + (str (p2 48 h)).size ≤ 200 := by simp only [ByteArray.size_append, zSH, zSM, zSS]; (try simp only [show (⟨#[32]⟩ : ByteArray).size = 1 from rfl, show (⟨#[58]⟩ : ByteArray).size = 1 from rfl, show (⟨#[45]⟩ : ByteArray).size = 1 from rfl, show (⟨#[44, 32]⟩ : ByteArray).size = 2 from rfl, show (⟨#[32, 71, 77, 84]⟩ : ByteArray).size = 4 from rfl]); omega
  have zc1 : ((⟨#[32]⟩ : ByteArray) ++ (str (p2 48 h))).size + (⟨#[58]⟩ : ByteArray).size ≤ 200 := by simp only [ByteArray.size_append, zSH, zSM, zSS]; (try simp only [show (⟨#[32]⟩ : ByteArray).size = 1 from rfl, show (⟨#[58]⟩ : ByteArray).size = 1 from rfl, show (⟨#[45]⟩ : ByteArray).size = 1 from rfl, show (⟨#[44, 32]⟩ : ByteArray).size = 2 from rfl, show (⟨#[32, 71, 77, 84]⟩ : ByteArray).size = 4 from rfl]); omega
  have zc2 : (((⟨#[32]⟩ : ByteArray) ++ (str (p2 48 h))) ++ (⟨#[58]⟩ : ByteArray)).size + (str (p2 48 i)).size ≤ 200 := by simp only [ByteArray.size_append, zSH, zSM, zSS]; (try simp only [show (⟨#[32]⟩ : ByteArray).size = 1 from rfl, show (⟨#[58]⟩ : ByteArray).size = 1 from rfl, show (⟨#[45]⟩ : ByteArray).size = 1 from rfl, show (⟨#[44, 32]⟩ : ByteArray).size = 2 from rfl, show (⟨#[32, 71, 77, 84]⟩ : ByteArray).size = 4 from rfl]); omega
  have zc3 : ((((⟨#[32]⟩ : ByteArray) ++ (str (p2 48 h))) ++ (⟨#[58]⟩ : ByteArray)) ++ (str (p2 48 i))).size + (⟨#[58]⟩ : ByteArray).size ≤ 200 := by simp only [ByteArray.size_append, zSH, zSM, zSS]; (try simp only [show (⟨#[32]⟩ : ByteArray).size = 1 from rfl, show (⟨#[58]⟩ : ByteArray).size = 1 from rfl, show (⟨#[45]⟩ : ByteArray).size = 1 from rfl, show (⟨#[44, 32]⟩ : ByteArray).size = 2 from rfl, show (⟨#[32, 71, 77, 84]⟩ : ByteArray).size = 4 from rfl]); omega
  have zc4 : (((((⟨#[32]⟩ : ByteArray) ++ (str (p2 48 h))) ++ (⟨#[58]⟩ : ByteArray)) ++ (str (p2 48 i))) ++ (⟨#[58]⟩ : ByteArray)).size + (str (p2 48 s)).size ≤ 200 := by simp only [ByteArray.size_append, zSH, zSM, zSS]; (try simp only [show (⟨#[32]⟩ : ByteArray).size = 1 from rfl, show (⟨#[58]⟩ : ByteArray).size = 1 from rfl, show (⟨#[45]⟩ : ByteArray).size = 1 from rfl, show (⟨#[44, 32]⟩ : ByteArray).size = 2 from rfl, show (⟨#[32, 71, 77, 84]⟩ : ByteArray).size = 4 from rfl]); omega
  go_wp2_with fail
  go_quiet ((go_at_call 211; exact Calls.quiet_of_same (HPP.out _ (by assumption) _)))
  have HB3 : Hid (Below w.heap.size w (WW.drewN nq)) := bel_drewN HB2.out nq
  have HBW : Hid (But [] WW (WW.drewN nq)) := (But.refl [] WW).drewN nq
  generalize WW.drewN nq = W2 at *
  have nn : ∀ x : Nat, x ∉ ([] : List Nat) := fun _ e => by cases e
  replace c0 := HBW.out.cell c0 (nn _)
  replace c2 := HBW.out.cell c2 (nn _)
  replace c6 := HBW.out.cell c6 (nn _)
  have HT3 : Hid (Tb W2) := HT2.out.bel HBW.out.to_below
  clear c1 c3 c4 c5 cmo nn
  clear HBW HB2 HT2
  rw [HCK.out]
  have zCK : (str (clk h i s)).size = 9 := by rw [str_size]; rfl
  have b4 : d < 100 := by omega
  have zSD : (str (p2 48 d)).size = 2 := by rw [str_size, p2_len]
  clear HCK zc0 zc1 zc2 zc3 zc4 zSH zSM zSS
  generalize hck : str (clk h i s) = CK at *
  have HCK : Hid (_ = _) := hck
  clear hck
  have hk7 : k < 7 := by omega
  have cs := HT3.out.sd k hk7
  have zSW : (str (shorts.getD k [])).size = 3 := by rw [str_size]; exact shorts_3 k hk7
  generalize hsw : str (shorts.getD k []) = SW at *
  have HSW : Hid (_ = _) := hsw
  clear hsw
  have zSY : (str (d4 y)).size = 4 := by rw [str_size]; first | rw [p2_len] | rfl
  have zSD2 : (str (p2 32 d)).size = 2 := by rw [str_size, p2_len]
  have HA : Hid ((((((((SW ++ (⟨#[32]⟩ : ByteArray)) ++ SMo) ++ (⟨#[32]⟩ : ByteArray)) ++ (str (p2 32 d))) ++ CK) ++ (⟨#[32]⟩ : ByteArray)) ++ (str (d4 y))) = str (wrS 2 y m d h i s k)) := (by
    rw [← HSW.out, ← HSMO.out, ← HCK.out, show (⟨#[32]⟩ : ByteArray) = str [32] from rfl]
    simp only [str_app]
    rfl : _ = _)
  have HPY : Hid (∀ w, Tb w → Calls Tryz.prog 211 #[.int .i64 (y : Int), .int .i64 4, .string ⟨#[48]⟩] w fun e w' => e = .returned (.string (str (d4 y))) ∧ Below w.heap.size w w') := fun w h => padded4_any y (by omega) w h
  have HPD : Hid (∀ w, Calls Tryz.prog 211 #[.int .i64 (d : Int), .int .i64 2, .string ⟨#[32]⟩] w fun e w' => e = .returned (.string (str (p2 32 d))) ∧ w' = w) := fun w => padded2_any d (by omega) 32 w
  clear HPP
  generalize str (d4 y) = SY at *
  generalize str (p2 32 d) = SD at *
  go_wp2_with fail
  have sK1 : (⟨#[32]⟩ : ByteArray).size = 1 := rfl
  have sK6 : (⟨#[48]⟩ : ByteArray).size = 1 := rfl
  generalize (⟨#[32]⟩ : ByteArray) = K1 at *
  generalize (⟨#[48]⟩ : ByteArray) = K6 at *
  have d0 : W2.drew.cell? ⟨DD, 0, none⟩ = some (.int .i64 (y : Int)) := c0
  have dd2 : W2.drew.cell? ⟨DD, 2, none⟩ = some (.int .i64 (d : Int)) := c2
  have d6 : W2.drew.cell? ⟨DD, 6, none⟩ = some (.int .i64 (k : Int)) := c6
  have ds : W2.drew.cell? ⟨3, k, none⟩ = some (.string SW) := cs
  have HT4 : Hid (Tb W2.drew) := HT3.out.bel ((But.refl [] W2).drew).to_below
  have HB4 : Hid (Below w.heap.size w W2.drew) := bel_drewN HB3.out 1
  clear c0 c2 c6 cs HB3 HT3
  go_region_held3 (fun X => X.cell? ⟨DD, 0, none⟩ = some (.int .i64 (y : Int)) ∧ X.cell? ⟨DD, 2, none⟩ = some (.int .i64 (d : Int)) ∧ X.cell? ⟨DD, 6, none⟩ = some (.int .i64 (k : Int)) ∧ X.cell? ⟨3, k, none⟩ = some (.string SW)) (first | exact ⟨d0, dd2, d6, ds⟩ | exact ⟨m0, m2, m6, ms⟩) (first | (go_at_call 211; (with_reducible refine (HPD.out _).mono ?_); rintro e w6 ⟨rfl, rfl⟩) | (go_at_call 211; (with_reducible refine (HPY.out _ HT4.out).mono ?_); rintro e w5 ⟨rfl, b5⟩; have HB5 : Hid (Below w.heap.size w w5) := bel_trans HB4.out b5; have m0 := (But.of_below b5).cell d0 (fun e => by cases e); have m2 := (But.of_below b5).cell dd2 (fun e => by cases e); have m6 := (But.of_below b5).cell d6 (fun e => by cases e); have ms := (But.of_below b5).cell ds (fun e => by cases e); clear b5))
  go_wp2
  go_ret2
  exact ⟨ret_si (by rw [HWR2.out]; exact HA.out) (by rw [HWR2.out]), HB5.out⟩

end Bs
end Go.Proofs.YticncpjpkgdnlaaGreatDoor

/-
  A moment in a form, whole; Print.
-/
set_option linter.unusedVariables false
set_option linter.unusedSimpArgs false
namespace Go.Proofs.YticncpjpkgdnlaaGreatDoor
open Go.RowKit
namespace Bs

set_option maxRecDepth 100000 in
set_option maxHeartbeats 2000000 in
theorem Write_any (t form : Int) (ht : I64 t) (hf : I64 form) (w : World) (tb : Tb w) :
    Calls Tryz.prog 146 #[.int .i64 t, .int .i64 form] w fun e w' => e = .returned (.tuple #[.string (str (writeR t form).1), .int .i64 (writeR t form).2]) ∧ Below w.heap.size w w' := by
  by_cases hM : isM t
  · by_cases hF : 0 ≤ form ∧ form < 3
    · rcases (by omega : form = 0 ∨ form = 1 ∨ form = 2) with rfl | rfl | rfl
      · exact Write_0 t ht hM w tb
      · exact Write_1 t ht hM w tb
      · exact Write_2 t ht hM w tb
    · have hsp := Split_any t ht w tb
      rw [show splitR t = (splitV t, 0) from if_pos hM] at hsp
      have HSP : Hid (Calls Tryz.prog 209 #[.int .i64 t] w fun e w' => e = .returned (.tuple #[splitV t, .int .i64 0]) ∧ Below w.heap.size w w') := hsp
      clear hsp
      unfold splitV dv7 at HSP
      have HBF : Hid (∀ w, Calls Tryz.prog 210 #[.int .i64 form, .int .i64 3] w fun e w' => e = .returned (.bool (decide (0 ≤ form ∧ form < 3))) ∧ w' = w) := fun w => below_any form 3 hf ⟨by omega, by omega⟩ w
      rw [decide_eq_false hF] at HBF
      have HWR2 : Hid (writeR t form = ([], 44)) := (by unfold writeR; rw [if_neg (fun c => c hM), if_pos hF] : writeR t form = ([], 44))
      generalize (ymd (t / 86400)).1 = Y at *
      generalize (ymd (t / 86400)).2.1 = M at *
      generalize (ymd (t / 86400)).2.2 = Dd at *
      generalize t % 86400 / 3600 = H at *
      generalize t % 86400 % 3600 / 60 = I at *
      generalize t % 86400 % 60 = S at *
      generalize wday (t / 86400) = K at *
      go_enter Tryz.func146, Tryz.ntmps146
      go_wp2_with fail
      refine Calls.mono HSP.out ?_
      rintro e w1 ⟨rfl, b1⟩
      have HB1 : Hid (Below w.heap.size w w1) := b1
      clear b1
      go_wp2_with fail
      refine (HBF.out _).mono ?_
      rintro e w' ⟨rfl, rfl⟩
      go_wp2
      go_ret2
      exact ⟨ret_si (by rw [HWR2.out]; rfl) (by rw [HWR2.out]), bel_trans HB1.out ((But.refl [] w1).alloc _).to_below⟩
  · have hsp := Split_any t ht w tb
    rw [show splitR t = (dv7 0 0 0 0 0 0 0, 40) from if_neg hM] at hsp
    have HSP : Hid (Calls Tryz.prog 209 #[.int .i64 t] w fun e w' => e = .returned (.tuple #[dv7 0 0 0 0 0 0 0, .int .i64 40]) ∧ Below w.heap.size w w') := hsp
    clear hsp
    unfold dv7 at HSP
    have HWR : Hid (writeR t form = ([], 40)) := if_pos hM
    go_enter Tryz.func146, Tryz.ntmps146
    go_wp2_with fail
    refine Calls.mono HSP.out ?_
    rintro e w1 ⟨rfl, b1⟩
    have HB1 : Hid (Below w.heap.size w w1) := b1
    clear b1
    go_wp2
    go_ret2
    exact ⟨ret_si (by rw [HWR.out]; rfl) (by rw [HWR.out]), bel_trans HB1.out ((But.refl [] w1).alloc _).to_below⟩

set_option maxHeartbeats 400000 in
theorem Print_any (t : Int) (ht : I64 t) (w : World) (tb : Tb w) :
    Calls Tryz.prog 100 #[.int .i64 t] w fun e w' => e = .returned (.tuple #[.string (str (writeR t 0).1), .int .i64 (writeR t 0).2]) ∧ Below w.heap.size w w' := by
  have HW : Hid (Calls Tryz.prog 146 #[.int .i64 t, .int .i64 0] w fun e w' => e = .returned (.tuple #[.string (str (writeR t 0).1), .int .i64 (writeR t 0).2]) ∧ Below w.heap.size w w') := Write_any t 0 ht ⟨by omega, by omega⟩ w tb
  clear tb
  generalize (writeR t 0).2 = E at *
  generalize str (writeR t 0).1 = S at *
  go_enter Tryz.func100, Tryz.ntmps100
  go_wp2_with fail
  refine Calls.mono HW.out ?_
  rintro e w1 ⟨rfl, b1⟩
  have HB1 : Hid (Below w.heap.size w w1) := b1
  clear b1
  go_wp2
  go_ret2
  exact ⟨rfl, HB1.out⟩

end Bs
end Go.Proofs.YticncpjpkgdnlaaGreatDoor
