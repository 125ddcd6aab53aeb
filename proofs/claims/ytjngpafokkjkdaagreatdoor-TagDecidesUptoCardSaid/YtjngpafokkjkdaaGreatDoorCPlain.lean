/-
  The calendar, plain: leap years, months, a day's number, the day with a number.
-/
set_option linter.unusedVariables false
set_option linter.unusedSimpArgs false
namespace Go.Proofs.YtjngpafokkjkdaaGreatDoor
namespace Bs

def leap (y : Int) : Bool := decide ((y % 4 = 0 ∧ y % 100 ≠ 0) ∨ y % 400 = 0)
def feb (y : Int) : Int := if leap y then 29 else 28
def yd (y : Int) : Int := if leap y then 366 else 365
def md (y m : Int) : Int := if m < 1 ∨ 12 < m then 0 else if m = 2 then feb y else if m = 4 ∨ m = 6 ∨ m = 9 ∨ m = 11 then 30 else 31
def cum (y m : Int) : Int :=
  if m ≤ 1 then 0 else if m = 2 then 31 else if m = 3 then 31 + feb y else if m = 4 then 62 + feb y else if m = 5 then 92 + feb y else if m = 6 then 123 + feb y
  else if m = 7 then 153 + feb y else if m = 8 then 184 + feb y else if m = 9 then 215 + feb y else if m = 10 then 245 + feb y else if m = 11 then 276 + feb y else if m = 12 then 306 + feb y else 337 + feb y
def jan (y : Int) : Int := (y - 1) * 365 + (y - 1) / 4 - (y - 1) / 100 + (y - 1) / 400 - 719162
def dn (y m d : Int) : Int := jan y + cum y m + d - 1
def IsD (y m d : Int) : Prop := 1 ≤ y ∧ y ≤ 9999 ∧ 1 ≤ d ∧ d ≤ md y m

theorem feb_or (y : Int) : feb y = 28 ∨ feb y = 29 := by unfold feb; split <;> simp
theorem yd_feb (y : Int) : yd y = 337 + feb y := by unfold yd feb; split <;> simp
theorem leap_iff (y : Int) : leap y = true ↔ ((y % 4 = 0 ∧ y % 100 ≠ 0) ∨ y % 400 = 0) := by unfold leap; simp
theorem jan_succ (y : Int) : jan (y + 1) = jan y + yd y := by
  unfold jan yd
  have h := leap_iff y
  by_cases hl : leap y = true
  · rw [if_pos hl]
    have := h.1 hl
    omega
  · rw [if_neg hl]
    have h2 : ¬ ((y % 4 = 0 ∧ y % 100 ≠ 0) ∨ y % 400 = 0) := fun e => hl (h.2 e)
    omega
theorem jan_mono {a b : Int} (h : a ≤ b) : jan a ≤ jan b := by unfold jan; omega
theorem months {m : Int} (h1 : 1 ≤ m) (h2 : m ≤ 12) : m = 1 ∨ m = 2 ∨ m = 3 ∨ m = 4 ∨ m = 5 ∨ m = 6 ∨ m = 7 ∨ m = 8 ∨ m = 9 ∨ m = 10 ∨ m = 11 ∨ m = 12 := by omega
theorem cum_succ (y m : Int) (h1 : 1 ≤ m) (h2 : m ≤ 12) : cum y (m + 1) = cum y m + md y m := by
  rcases months h1 h2 with rfl | rfl | rfl | rfl | rfl | rfl | rfl | rfl | rfl | rfl | rfl | rfl <;> simp [cum, md] <;> omega
theorem cum_one (y : Int) : cum y 1 = 0 := by simp [cum]
theorem cum_13 (y : Int) : cum y 13 = yd y := by rw [yd_feb]; simp [cum]
theorem md_pos {y m : Int} (h : 0 < md y m) : 1 ≤ m ∧ m ≤ 12 := by
  unfold md at h
  split at h
  · omega
  · omega
theorem md_ge {y m : Int} (h1 : 1 ≤ m) (h2 : m ≤ 12) : 28 ≤ md y m ∧ md y m ≤ 31 := by
  have := feb_or y
  rcases months h1 h2 with rfl | rfl | rfl | rfl | rfl | rfl | rfl | rfl | rfl | rfl | rfl | rfl <;> simp [md] <;> omega
theorem md_le (y m : Int) : 0 ≤ md y m ∧ md y m ≤ 31 := by
  by_cases h : 1 ≤ m ∧ m ≤ 12
  · have := md_ge (y := y) h.1 h.2
    omega
  · unfold md
    rw [if_pos (by omega)]
    omega
theorem cum_big {y m : Int} (h : 12 < m) : cum y m = 337 + feb y := by
  unfold cum
  rw [if_neg (by omega), if_neg (by omega), if_neg (by omega), if_neg (by omega), if_neg (by omega), if_neg (by omega), if_neg (by omega), if_neg (by omega), if_neg (by omega), if_neg (by omega), if_neg (by omega), if_neg (by omega)]
theorem cum_small {y m : Int} (h : m ≤ 1) : cum y m = 0 := by
  unfold cum
  rw [if_pos h]
theorem cum_nn (y m : Int) : 0 ≤ cum y m := by
  have := feb_or y
  rcases (by omega : m ≤ 1 ∨ 12 < m ∨ (1 ≤ m ∧ m ≤ 12)) with h | h | ⟨h1, h2⟩
  · rw [cum_small h]
    omega
  · rw [cum_big h]
    omega
  · rcases months h1 h2 with rfl | rfl | rfl | rfl | rfl | rfl | rfl | rfl | rfl | rfl | rfl | rfl <;> simp [cum] <;> omega
theorem cum_mono {y a b : Int} (h0 : 1 ≤ a) (h : a ≤ b) (hb : b ≤ 13) : cum y a ≤ cum y b := by
  obtain ⟨k, hk⟩ : ∃ k : Nat, b = a + k := ⟨(b - a).toNat, by omega⟩
  subst hk
  clear h
  induction k with
  | zero => simp
  | succ k ih =>
    have h1 := ih (by omega)
    have h2 := cum_succ y (a + k) (by omega) (by omega)
    have h3 := md_le y (a + k)
    have e : a + ((k + 1 : Nat) : Int) = a + k + 1 := by omega
    rw [e, h2]
    omega
theorem cum_le (y m : Int) (h : m ≤ 13) : cum y m ≤ yd y := by
  by_cases h1 : 1 ≤ m
  · have := cum_mono (y := y) h1 h (Int.le_refl 13)
    rw [cum_13] at this
    exact this
  · have : cum y m = 0 := by unfold cum; rw [if_pos (by omega)]
    have := feb_or y
    rw [yd_feb]
    omega
theorem IsD.m {y m d : Int} (h : IsD y m d) : 1 ≤ m ∧ m ≤ 12 := by
  obtain ⟨_, _, h3, h4⟩ := h
  exact md_pos (y := y) (by omega)
theorem IsD.lo {y m d : Int} (h : IsD y m d) : jan y ≤ dn y m d := by
  have := cum_nn y m
  obtain ⟨_, _, h3, h4⟩ := h
  unfold dn
  omega
theorem IsD.hi {y m d : Int} (h : IsD y m d) : dn y m d < jan (y + 1) := by
  obtain ⟨h1, h2⟩ := h.m
  obtain ⟨_, _, h3, h4⟩ := h
  have a := cum_succ y m h1 h2
  have b := cum_le y (m + 1) (by omega)
  rw [jan_succ]
  unfold dn
  omega
/-- The later day has the greater number. -/
theorem dn_lt {y m d y' m' d' : Int} (h : IsD y m d) (h' : IsD y' m' d') (hl : y < y' ∨ (y = y' ∧ (m < m' ∨ (m = m' ∧ d < d')))) : dn y m d < dn y' m' d' := by
  rcases hl with hl | ⟨rfl, hl⟩
  · have a := h.hi
    have b := h'.lo
    have c := jan_mono (a := y + 1) (b := y') (by omega)
    omega
  · obtain ⟨h1, h2⟩ := h.m
    obtain ⟨h1', h2'⟩ := h'.m
    obtain ⟨_, _, h3, h4⟩ := h
    obtain ⟨_, _, h3', h4'⟩ := h'
    unfold dn
    rcases hl with hl | ⟨rfl, hl⟩
    · have a := cum_succ y m h1 h2
      have b := cum_mono (y := y) (a := m + 1) (b := m') (by omega) (by omega) (by omega)
      omega
    · omega
theorem dn_inj {y m d y' m' d' : Int} (h : IsD y m d) (h' : IsD y' m' d') (he : dn y m d = dn y' m' d') : y = y' ∧ m = m' ∧ d = d' := by
  rcases (by omega : (y < y' ∨ (y = y' ∧ (m < m' ∨ (m = m' ∧ d < d')))) ∨ (y' < y ∨ (y' = y ∧ (m' < m ∨ (m' = m ∧ d' < d)))) ∨ (y = y' ∧ m = m' ∧ d = d')) with a | a | a
  · have := dn_lt h h' a
    omega
  · have := dn_lt h' h a
    omega
  · exact a
theorem jan_one : jan 1 = -719162 := by decide
theorem jan_end : jan 10000 = 2932897 := by decide
theorem jan_1970 : jan 1970 = 0 := by decide
theorem dn_range {y m d : Int} (h : IsD y m d) : -719162 ≤ dn y m d ∧ dn y m d ≤ 2932896 := by
  have a := h.lo
  have b := h.hi
  obtain ⟨h1, h2, _, _⟩ := h
  have c := jan_mono (a := 1) (b := y) h1
  have d := jan_mono (a := y + 1) (b := 10000) (by omega)
  rw [jan_one] at c
  rw [jan_end] at d
  omega

/- The day with a number. -/
def yrOf (n : Int) : Int × Int :=
  let r := n / 146097
  let a := n % 146097
  let c := min (a / 36524) 3
  let b := a - c * 36524
  let f := b / 1461
  let g := b % 1461
  let x := min (g / 365) 3
  (1 + r * 400 + c * 100 + f * 4 + x, g - x * 365)
theorem yrOf_jan (n : Int) (h : 0 ≤ n) : jan (yrOf n).1 + (yrOf n).2 = n - 719162 ∧ 0 ≤ (yrOf n).2 ∧ (yrOf n).2 < yd (yrOf n).1 := by
  unfold yrOf
  dsimp only
  generalize hr : n / 146097 = r
  generalize ha : n % 146097 = a
  generalize hc : min (a / 36524) 3 = c
  generalize hb : a - c * 36524 = b
  generalize hf : b / 1461 = f
  generalize hg : b % 1461 = g
  generalize hx : min (g / 365) 3 = x
  have c0 : 0 ≤ c ∧ c ≤ 3 := by omega
  have x0 : 0 ≤ x ∧ x ≤ 3 := by omega
  have b0 : 0 ≤ b ∧ b ≤ 36524 ∧ (c < 3 → b < 36524) := by omega
  have f0 : 0 ≤ f ∧ f ≤ 24 := by omega
  have g0 : 0 ≤ g ∧ g ≤ 1460 := by omega
  have hn : n = 146097 * r + 36524 * c + 1461 * f + g := by omega
  have l0 : 0 ≤ g - x * 365 ∧ g - x * 365 ≤ 365 ∧ (g - x * 365 = 365 → x = 3 ∧ g = 1460) := by omega
  have q4 : (1 + r * 400 + c * 100 + f * 4 + x - 1) / 4 = r * 100 + c * 25 + f := by omega
  have q100 : (1 + r * 400 + c * 100 + f * 4 + x - 1) / 100 = r * 4 + c := by omega
  have q400 : (1 + r * 400 + c * 100 + f * 4 + x - 1) / 400 = r := by omega
  have hl := leap_iff (1 + r * 400 + c * 100 + f * 4 + x)
  refine ⟨?_, by omega, ?_⟩
  · unfold jan
    rw [q4, q100, q400]
    omega
  · unfold yd
    by_cases he : g - x * 365 = 365
    · obtain ⟨rfl, rfl⟩ := l0.2.2 he
      have hfc : f < 24 ∨ c = 3 := by omega
      have : leap (1 + r * 400 + c * 100 + f * 4 + 3) = true := hl.2 (by omega)
      rw [if_pos this]
      omega
    · split <;> omega
def moOf (y : Int) : Nat → Int → Int → Int × Int
  | 0, m, l => (m, l)
  | k + 1, m, l => if md y m ≤ l then moOf y k (m + 1) (l - md y m) else (m, l)
theorem moOf_is (y : Int) : ∀ (k : Nat) (m l : Int), m = 13 - (k : Int) → k ≤ 12 → 0 ≤ l → cum y m + l < yd y → 1 ≤ (moOf y k m l).1 ∧ (moOf y k m l).1 ≤ 12 ∧ 0 ≤ (moOf y k m l).2 ∧ (moOf y k m l).2 < md y (moOf y k m l).1 ∧ cum y (moOf y k m l).1 + (moOf y k m l).2 = cum y m + l := by
  intro k
  induction k with
  | zero =>
    intro m l hm _ h0 hl
    simp only [Int.ofNat_zero, Int.natCast_zero, Int.sub_zero] at hm
    subst hm
    rw [cum_13] at hl
    omega
  | succ k ih =>
    intro m l hm hk h0 hl
    unfold moOf
    have hs := cum_succ y m (by omega) (by omega)
    split
    · have := ih (m + 1) (l - md y m) (by omega) (by omega) (by omega) (by omega)
      omega
    · dsimp only
      omega
def ymd (D : Int) : Int × Int × Int :=
  let a := yrOf (D + 719162)
  let b := moOf a.1 12 1 a.2
  (a.1, b.1, b.2 + 1)
theorem ymd_is {D : Int} (h1 : -719162 ≤ D) (h2 : D ≤ 2932896) : IsD (ymd D).1 (ymd D).2.1 (ymd D).2.2 ∧ dn (ymd D).1 (ymd D).2.1 (ymd D).2.2 = D := by
  unfold ymd
  dsimp only
  obtain ⟨a1, a2, a3⟩ := yrOf_jan (D + 719162) (by omega)
  have b := moOf_is (yrOf (D + 719162)).1 12 1 (yrOf (D + 719162)).2 (by decide) (by decide) a2 (by rw [cum_one]; omega)
  rw [cum_one] at b
  generalize yrOf (D + 719162) = Y at *
  generalize moOf Y.1 12 1 Y.2 = M at *
  have y1 : 1 ≤ Y.1 := by
    by_cases h : 1 ≤ Y.1
    · exact h
    · have := jan_mono (a := Y.1 + 1) (b := 1) (by omega)
      rw [jan_succ, jan_one] at this
      omega
  have y2 : Y.1 ≤ 9999 := by
    by_cases h : Y.1 ≤ 9999
    · exact h
    · have := jan_mono (a := 10000) (b := Y.1) (by omega)
      rw [jan_end] at this
      omega
  refine ⟨⟨y1, y2, by omega, by omega⟩, ?_⟩
  unfold dn
  omega
theorem ymd_of {y m d : Int} (h : IsD y m d) : ymd (dn y m d) = (y, m, d) := by
  have r := dn_range h
  obtain ⟨a, b⟩ := ymd_is r.1 r.2
  obtain ⟨e1, e2, e3⟩ := dn_inj a h b
  exact Prod.ext e1 (Prod.ext e2 e3)
theorem ymd_eq {y m d D : Int} (h : IsD y m d) (e : dn y m d = D) : ymd D = (y, m, d) := e ▸ ymd_of h
def wday (D : Int) : Int := (D + 3) % 7
theorem wday_r (D : Int) : 0 ≤ wday D ∧ wday D < 7 := by unfold wday; omega

end Bs
end Go.Proofs.YtjngpafokkjkdaaGreatDoor
