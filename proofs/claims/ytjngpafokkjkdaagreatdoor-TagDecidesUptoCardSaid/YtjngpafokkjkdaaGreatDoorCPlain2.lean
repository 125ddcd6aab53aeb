/-
  The calendar, plain: 400 years, the day behind a day, the order of moments.
-/
import Derived.Test.YtjngpafokkjkdaaGreatDoorPPlain
set_option linter.unusedVariables false
set_option linter.unusedSimpArgs false
namespace Go.Proofs.YtjngpafokkjkdaaGreatDoor
namespace Bs

theorem leap_400 (y : Int) : leap (y + 400) = leap y := by
  have a := leap_iff (y + 400)
  have b := leap_iff y
  have : leap (y + 400) = true ↔ leap y = true := by
    rw [a, b]
    omega
  cases h : leap y <;> cases h' : leap (y + 400) <;> simp_all
theorem feb_400 (y : Int) : feb (y + 400) = feb y := by unfold feb; rw [leap_400]
theorem md_400 (y m : Int) : md (y + 400) m = md y m := by unfold md; rw [feb_400]
theorem cum_400 (y m : Int) : cum (y + 400) m = cum y m := by unfold cum; rw [feb_400]
theorem jan_400 (y : Int) : jan (y + 400) = jan y + 146097 := by unfold jan; omega
theorem dn_400 (y m d : Int) : dn (y + 400) m d = dn y m d + 146097 := by unfold dn; rw [jan_400, cum_400]; omega
theorem ymd_400 {D : Int} (h1 : -719162 ≤ D) (h2 : D ≤ 2932896 - 146097) : ymd (D + 146097) = ((ymd D).1 + 400, (ymd D).2.1, (ymd D).2.2) := by
  obtain ⟨a, b⟩ := ymd_is h1 (by omega)
  have hm := a.m
  have hd := md_le (ymd D).1 (ymd D).2.1
  obtain ⟨y1, y2, d1, d2⟩ := a
  have hy : (ymd D).1 + 400 ≤ 9999 := by
    by_cases h : (ymd D).1 + 400 ≤ 9999
    · exact h
    · have a' : IsD (ymd D).1 (ymd D).2.1 (ymd D).2.2 := ⟨y1, y2, d1, d2⟩
      have := a'.lo
      have := jan_mono (a := 9600) (b := (ymd D).1) (by omega)
      have e : jan 9600 = 2786800 := by decide
      omega
  refine ymd_eq ⟨by omega, hy, d1, by rw [md_400]; exact d2⟩ ?_
  rw [dn_400, b]
theorem wday_400 (D : Int) : wday (D + 146097) = wday D := by unfold wday; omega

/- The day behind a day. -/
def nxt (y m d : Int) : Int × Int × Int := if d < md y m then (y, m, d + 1) else if m < 12 then (y, m + 1, 1) else (y + 1, 1, 1)
theorem nxt_dn {y m d : Int} (h : IsD y m d) : dn (nxt y m d).1 (nxt y m d).2.1 (nxt y m d).2.2 = dn y m d + 1 := by
  obtain ⟨m1, m2⟩ := h.m
  obtain ⟨_, _, h3, h4⟩ := h
  unfold nxt
  split
  · show dn y m (d + 1) = _
    unfold dn
    omega
  · obtain rfl : d = md y m := by omega
    split
    · show dn y (m + 1) 1 = _
      unfold dn
      rw [cum_succ y m m1 m2]
      omega
    · obtain rfl : m = 12 := by omega
      show dn (y + 1) 1 1 = _
      unfold dn
      have c := cum_succ y 12 (by omega) (by omega)
      rw [show (12 : Int) + 1 = 13 from rfl, cum_13] at c
      rw [jan_succ, cum_one]
      omega
theorem nxt_is {y m d : Int} (h : IsD y m d) (hy : (nxt y m d).1 ≤ 9999) : IsD (nxt y m d).1 (nxt y m d).2.1 (nxt y m d).2.2 := by
  obtain ⟨m1, m2⟩ := h.m
  obtain ⟨h1, h2, h3, h4⟩ := h
  unfold nxt at hy ⊢
  split at hy
  · rename_i hd
    rw [if_pos hd]
    exact ⟨h1, h2, by show 1 ≤ d + 1; omega, by show d + 1 ≤ md y m; omega⟩
  · rename_i hd
    rw [if_neg hd]
    split at hy
    · rename_i hm
      rw [if_pos hm]
      have := md_ge (y := y) (m := m + 1) (by omega) (by omega)
      exact ⟨h1, h2, by show (1 : Int) ≤ 1; omega, by show 1 ≤ md y (m + 1); omega⟩
    · rename_i hm
      rw [if_neg hm]
      have := md_ge (y := y + 1) (m := 1) (by omega) (by omega)
      exact ⟨by show 1 ≤ y + 1; omega, hy, by show (1 : Int) ≤ 1; omega, by show 1 ≤ md (y + 1) 1; omega⟩
theorem nxt_last {y m d : Int} (h : IsD y m d) (hy : 9999 < (nxt y m d).1) : dn y m d = 2932896 := by
  have a := nxt_dn h
  obtain ⟨m1, m2⟩ := h.m
  obtain ⟨h1, h2, h3, h4⟩ := h
  unfold nxt at hy a
  split at hy
  · dsimp only at hy
    omega
  · rename_i hd
    rw [if_neg hd] at a
    split at hy
    · dsimp only at hy
      omega
    · rename_i hm
      rw [if_neg hm] at a
      dsimp only at hy a
      obtain rfl : y = 9999 := by omega
      have e : dn (9999 + 1) 1 1 = 2932897 := by decide
      omega
theorem day_of {n k : Int} (h0 : 0 ≤ k) (h1 : k < 86400) : (n * 86400 + k) / 86400 = n ∧ (n * 86400 + k) % 86400 = k := by omega

/- The order of moments. -/
def Lt6 (y m d h i s y' m' d' h' i' s' : Int) : Prop := y < y' ∨ (y = y' ∧ (m < m' ∨ (m = m' ∧ (d < d' ∨ (d = d' ∧ (h < h' ∨ (h = h' ∧ (i < i' ∨ (i = i' ∧ s < s')))))))))
theorem moments_lt {a b : Int} (ha : isM a) (hb : isM b) (h : Lt6 (ymd (a / 86400)).1 (ymd (a / 86400)).2.1 (ymd (a / 86400)).2.2 (a % 86400 / 3600) (a % 86400 % 3600 / 60) (a % 86400 % 60) (ymd (b / 86400)).1 (ymd (b / 86400)).2.1 (ymd (b / 86400)).2.2 (b % 86400 / 3600) (b % 86400 % 3600 / 60) (b % 86400 % 60)) : a < b := by
  obtain ⟨a1, a2⟩ := ha
  obtain ⟨b1, b2⟩ := hb
  obtain ⟨ia, ea⟩ := ymd_is (D := a / 86400) (by omega) (by omega)
  obtain ⟨ib, eb⟩ := ymd_is (D := b / 86400) (by omega) (by omega)
  have hl := dn_lt ia ib
  rw [ea, eb] at hl
  unfold Lt6 at h
  rcases (by omega : ((ymd (a / 86400)).1 < (ymd (b / 86400)).1 ∨ ((ymd (a / 86400)).1 = (ymd (b / 86400)).1 ∧ ((ymd (a / 86400)).2.1 < (ymd (b / 86400)).2.1 ∨ ((ymd (a / 86400)).2.1 = (ymd (b / 86400)).2.1 ∧ (ymd (a / 86400)).2.2 < (ymd (b / 86400)).2.2)))) ∨ ((ymd (a / 86400)).1 = (ymd (b / 86400)).1 ∧ (ymd (a / 86400)).2.1 = (ymd (b / 86400)).2.1 ∧ (ymd (a / 86400)).2.2 = (ymd (b / 86400)).2.2 ∧ (a % 86400 / 3600 < b % 86400 / 3600 ∨ (a % 86400 / 3600 = b % 86400 / 3600 ∧ (a % 86400 % 3600 / 60 < b % 86400 % 3600 / 60 ∨ (a % 86400 % 3600 / 60 = b % 86400 % 3600 / 60 ∧ a % 86400 % 60 < b % 86400 % 60)))))) with k | ⟨k1, k2, k3, k4⟩
  · have := hl k
    omega
  · have e : a / 86400 = b / 86400 := by rw [← ea, ← eb, k1, k2, k3]
    omega
theorem moments_lt_iff {a b : Int} (ha : isM a) (hb : isM b) : Lt6 (ymd (a / 86400)).1 (ymd (a / 86400)).2.1 (ymd (a / 86400)).2.2 (a % 86400 / 3600) (a % 86400 % 3600 / 60) (a % 86400 % 60) (ymd (b / 86400)).1 (ymd (b / 86400)).2.1 (ymd (b / 86400)).2.2 (b % 86400 / 3600) (b % 86400 % 3600 / 60) (b % 86400 % 60) ↔ a < b := by
  refine ⟨moments_lt ha hb, fun h => ?_⟩
  have h2 := moments_lt hb ha
  have a1 := ha.1
  have a2 := ha.2
  have b1 := hb.1
  have b2 := hb.2
  have ea := (ymd_is (D := a / 86400) (by omega) (by omega)).2
  have eb := (ymd_is (D := b / 86400) (by omega) (by omega)).2
  have h3 : ¬ Lt6 (ymd (b / 86400)).1 (ymd (b / 86400)).2.1 (ymd (b / 86400)).2.2 (b % 86400 / 3600) (b % 86400 % 3600 / 60) (b % 86400 % 60) (ymd (a / 86400)).1 (ymd (a / 86400)).2.1 (ymd (a / 86400)).2.2 (a % 86400 / 3600) (a % 86400 % 3600 / 60) (a % 86400 % 60) := fun k => by have := h2 k; omega
  have h4 : ¬ ((ymd (a / 86400)).1 = (ymd (b / 86400)).1 ∧ (ymd (a / 86400)).2.1 = (ymd (b / 86400)).2.1 ∧ (ymd (a / 86400)).2.2 = (ymd (b / 86400)).2.2 ∧ a % 86400 / 3600 = b % 86400 / 3600 ∧ a % 86400 % 3600 / 60 = b % 86400 % 3600 / 60 ∧ a % 86400 % 60 = b % 86400 % 60) := fun ⟨k1, k2, k3, k4, k5, k6⟩ => by
    have e : a / 86400 = b / 86400 := by rw [← ea, ← eb, k1, k2, k3]
    omega
  unfold Lt6 at h3 ⊢
  generalize (ymd (a / 86400)).1 = A1 at *
  generalize (ymd (a / 86400)).2.1 = A2 at *
  generalize (ymd (a / 86400)).2.2 = A3 at *
  generalize (ymd (b / 86400)).1 = B1 at *
  generalize (ymd (b / 86400)).2.1 = B2 at *
  generalize (ymd (b / 86400)).2.2 = B3 at *
  generalize a % 86400 / 3600 = A4 at *
  generalize a % 86400 % 3600 / 60 = A5 at *
  generalize a % 86400 % 60 = A6 at *
  generalize b % 86400 / 3600 = B4 at *
  generalize b % 86400 % 3600 / 60 = B5 at *
  generalize b % 86400 % 60 = B6 at *
  clear h2 ea eb
  by_cases c1 : A1 = B1
  · by_cases c2 : A2 = B2
    · by_cases c3 : A3 = B3
      · by_cases c4 : A4 = B4
        · by_cases c5 : A5 = B5
          · omega
          · omega
        · omega
      · omega
    · omega
  · omega

end Bs
end Go.Proofs.YtjngpafokkjkdaaGreatDoor
