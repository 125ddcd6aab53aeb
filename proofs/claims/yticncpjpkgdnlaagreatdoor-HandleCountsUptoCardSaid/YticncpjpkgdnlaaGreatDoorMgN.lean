/- Several texts as one. -/
import Derived.Test.YticncpjpkgdnlaaGreatDoorProg
import Derived.Below
import Derived.WalkKit
import Derived.WalkSpells
import Derived.WalkLawsBesides
import Derived.Deep.Draws
import Derived.Laws.OwnMore
import Derived.Deep.RegionLaw
import Derived.Deep.DeepMust
import Derived.Lib.ConvBytes
import Derived.Laws.IdiomStrings
import Derived.Laws.StandIn
import Derived.Lib.ItoaMem
import Derived.Lib.ItoaLen
import Derived.Lib.AppendIntMem
import Derived.Lib.LaidTab
/-
  The calendar, plain: leap years, months, a day's number, the day with a number.
-/
set_option linter.unusedVariables false
set_option linter.unusedSimpArgs false
namespace Go.Proofs.YticncpjpkgdnlaaGreatDoor
namespace Bs

def leap (y : Int) : Bool := decide ((y % 4 = 0 ∧ y % 100 ≠ 0) ∨ y % 400 = 0)
def feb (y : Int) : Int := if leap y then 29 else 28
def yd (y : Int) : Int := if leap y then 366 else 365
def md (y m : Int) : Int := if m < 1 ∨ 12 < m then 0 else if m = 2 then feb y else if m = 4 ∨ m = 6 ∨ m = 9 ∨ m = 11 then 30 else 31
def cum (y m : Int) : Int :=
  if m ≤ 1 then 0 else if m = 2 then 31 else if m = 3 then 31 + feb y else if m = 4 then 62 + feb y else if m = 5 then 92 + feb y else if m = 6 then 123 + feb y
  else if m = 7 then 153 + feb y else if m = 8 then 184 + feb y else if m = 9 then 215 + feb y else if m = 10 then 245 + feb y else if m = 11 then 276 + feb y else if m = 12 then 306 + feb y else 337 + feb y
def jan (y : Int) : Int := (y - 1) * 365 + (y - 1) / 4 - (y - 1) / 100 + (y - 1) / 400 - 719162
def dn (y m d : Int) : Int := jan y + cum y m + d - 1
def IsD (y m d : Int) : Prop := 1 ≤ y ∧ y ≤ 9999 ∧ 1 ≤ d ∧ d ≤ md y m

theorem feb_or (y : Int) : feb y = 28 ∨ feb y = 29 := by unfold feb; split <;> simp
theorem yd_feb (y : Int) : yd y = 337 + feb y := by unfold yd feb; split <;> simp
theorem leap_iff (y : Int) : leap y = true ↔ ((y % 4 = 0 ∧ y % 100 ≠ 0) ∨ y % 400 = 0) := by unfold leap; simp
theorem jan_succ (y : Int) : jan (y + 1) = jan y + yd y := by
  unfold jan yd
  have h := leap_iff y
  by_cases hl : leap y = true
  · rw [if_pos hl]
    have := h.1 hl
    omega
  · rw [if_neg hl]
    have h2 : ¬ ((y % 4 = 0 ∧ y % 100 ≠ 0) ∨ y % 400 = 0) := fun e => hl (h.2 e)
    omega
theorem jan_mono {a b : Int} (h : a ≤ b) : jan a ≤ jan b := by unfold jan; omega
theorem months {m : Int} (h1 : 1 ≤ m) (h2 : m ≤ 12) : m = 1 ∨ m = 2 ∨ m = 3 ∨ m = 4 ∨ m = 5 ∨ m = 6 ∨ m = 7 ∨ m = 8 ∨ m = 9 ∨ m = 10 ∨ m = 11 ∨ m = 12 := by omega
theorem cum_succ (y m : Int) (h1 : 1 ≤ m) (h2 : m ≤ 12) : cum y (m + 1) = cum y m + md y m := by
  rcases months h1 h2 with rfl | rfl | rfl | rfl | rfl | rfl | rfl | rfl | rfl | rfl | rfl | rfl <;> simp [cum, md] <;> omega
theorem cum_one (y : Int) : cum y 1 = 0 := by simp [cum]
theorem cum_13 (y : Int) : cum y 13 = yd y := by rw [yd_feb]; simp [cum]
theorem md_pos {y m : Int} (h : 0 < md y m) : 1 ≤ m ∧ m ≤ 12 := by
  unfold md at h
  split at h
  · omega
  · omega
theorem md_ge {y m : Int} (h1 : 1 ≤ m) (h2 : m ≤ 12) : 28 ≤ md y m ∧ md y m ≤ 31 := by
  have := feb_or y
  rcases months h1 h2 with rfl | rfl | rfl | rfl | rfl | rfl | rfl | rfl | rfl | rfl | rfl | rfl <;> simp [md] <;> omega
theorem md_le (y m : Int) : 0 ≤ md y m ∧ md y m ≤ 31 := by
  by_cases h : 1 ≤ m ∧ m ≤ 12
  · have := md_ge (y := y) h.1 h.2
    omega
  · unfold md
    rw [if_pos (by omega)]
    omega
theorem cum_big {y m : Int} (h : 12 < m) : cum y m = 337 + feb y := by
  unfold cum
  rw [if_neg (by omega), if_neg (by omega), if_neg (by omega), if_neg (by omega), if_neg (by omega), if_neg (by omega), if_neg (by omega), if_neg (by omega), if_neg (by omega), if_neg (by omega), if_neg (by omega), if_neg (by omega)]
theorem cum_small {y m : Int} (h : m ≤ 1) : cum y m = 0 := by
  unfold cum
  rw [if_pos h]
theorem cum_nn (y m : Int) : 0 ≤ cum y m := by
  have := feb_or y
  rcases (by omega : m ≤ 1 ∨ 12 < m ∨ (1 ≤ m ∧ m ≤ 12)) with h | h | ⟨h1, h2⟩
  · rw [cum_small h]
    omega
  · rw [cum_big h]
    omega
  · rcases months h1 h2 with rfl | rfl | rfl | rfl | rfl | rfl | rfl | rfl | rfl | rfl | rfl | rfl <;> simp [cum] <;> omega
theorem cum_mono {y a b : Int} (h0 : 1 ≤ a) (h : a ≤ b) (hb : b ≤ 13) : cum y a ≤ cum y b := by
  obtain ⟨k, hk⟩ : ∃ k : Nat, b = a + k := ⟨(b - a).toNat, by omega⟩
  subst hk
  clear h
  induction k with
  | zero => simp
  | succ k ih =>
    have h1 := ih (by omega)
    have h2 := cum_succ y (a + k) (by omega) (by omega)
    have h3 := md_le y (a + k)
    have e : a + ((k + 1 : Nat) : Int) = a + k + 1 := by omega
    rw [e, h2]
    omega
theorem cum_le (y m : Int) (h : m ≤ 13) : cum y m ≤ yd y := by
  by_cases h1 : 1 ≤ m
  · have := cum_mono (y := y) h1 h (Int.le_refl 13)
    rw [cum_13] at this
    exact this
  · have : cum y m = 0 := by unfold cum; rw [if_pos (by omega)]
    have := feb_or y
    rw [yd_feb]
    omega
theorem IsD.m {y m d : Int} (h : IsD y m d) : 1 ≤ m ∧ m ≤ 12 := by
  obtain ⟨_, _, h3, h4⟩ := h
  exact md_pos (y := y) (by omega)
theorem IsD.lo {y m d : Int} (h : IsD y m d) : jan y ≤ dn y m d := by
  have := cum_nn y m
  obtain ⟨_, _, h3, h4⟩ := h
  unfold dn
  omega
theorem IsD.hi {y m d : Int} (h : IsD y m d) : dn y m d < jan (y + 1) := by
  obtain ⟨h1, h2⟩ := h.m
  obtain ⟨_, _, h3, h4⟩ := h
  have a := cum_succ y m h1 h2
  have b := cum_le y (m + 1) (by omega)
  rw [jan_succ]
  unfold dn
  omega
/-- The later day has the greater number. -/
theorem dn_lt {y m d y' m' d' : Int} (h : IsD y m d) (h' : IsD y' m' d') (hl : y < y' ∨ (y = y' ∧ (m < m' ∨ (m = m' ∧ d < d')))) : dn y m d < dn y' m' d' := by
  rcases hl with hl | ⟨rfl, hl⟩
  · have a := h.hi
    have b := h'.lo
    have c := jan_mono (a := y + 1) (b := y') (by omega)
    omega
  · obtain ⟨h1, h2⟩ := h.m
    obtain ⟨h1', h2'⟩ := h'.m
    obtain ⟨_, _, h3, h4⟩ := h
    obtain ⟨_, _, h3', h4'⟩ := h'
    unfold dn
    rcases hl with hl | ⟨rfl, hl⟩
    · have a := cum_succ y m h1 h2
      have b := cum_mono (y := y) (a := m + 1) (b := m') (by omega) (by omega) (by omega)
      omega
    · omega
theorem dn_inj {y m d y' m' d' : Int} (h : IsD y m d) (h' : IsD y' m' d') (he : dn y m d = dn y' m' d') : y = y' ∧ m = m' ∧ d = d' := by
  rcases (by omega : (y < y' ∨ (y = y' ∧ (m < m' ∨ (m = m' ∧ d < d')))) ∨ (y' < y ∨ (y' = y ∧ (m' < m ∨ (m' = m ∧ d' < d)))) ∨ (y = y' ∧ m = m' ∧ d = d')) with a | a | a
  · have := dn_lt h h' a
    omega
  · have := dn_lt h' h a
    omega
  · exact a
theorem jan_one : jan 1 = -719162 := by decide
theorem jan_end : jan 10000 = 2932897 := by decide
theorem jan_1970 : jan 1970 = 0 := by decide
theorem dn_range {y m d : Int} (h : IsD y m d) : -719162 ≤ dn y m d ∧ dn y m d ≤ 2932896 := by
  have a := h.lo
  have b := h.hi
  obtain ⟨h1, h2, _, _⟩ := h
  have c := jan_mono (a := 1) (b := y) h1
  have d := jan_mono (a := y + 1) (b := 10000) (by omega)
  rw [jan_one] at c
  rw [jan_end] at d
  omega

/- The day with a number. -/
def yrOf (n : Int) : Int × Int :=
  let r := n / 146097
  let a := n % 146097
  let c := min (a / 36524) 3
  let b := a - c * 36524
  let f := b / 1461
  let g := b % 1461
  let x := min (g / 365) 3
  (1 + r * 400 + c * 100 + f * 4 + x, g - x * 365)
theorem yrOf_jan (n : Int) (h : 0 ≤ n) : jan (yrOf n).1 + (yrOf n).2 = n - 719162 ∧ 0 ≤ (yrOf n).2 ∧ (yrOf n).2 < yd (yrOf n).1 := by
  unfold yrOf
  dsimp only
  generalize hr : n / 146097 = r
  generalize ha : n % 146097 = a
  generalize hc : min (a / 36524) 3 = c
  generalize hb : a - c * 36524 = b
  generalize hf : b / 1461 = f
  generalize hg : b % 1461 = g
  generalize hx : min (g / 365) 3 = x
  have c0 : 0 ≤ c ∧ c ≤ 3 := by omega
  have x0 : 0 ≤ x ∧ x ≤ 3 := by omega
  have b0 : 0 ≤ b ∧ b ≤ 36524 ∧ (c < 3 → b < 36524) := by omega
  have f0 : 0 ≤ f ∧ f ≤ 24 := by omega
  have g0 : 0 ≤ g ∧ g ≤ 1460 := by omega
  have hn : n = 146097 * r + 36524 * c + 1461 * f + g := by omega
  have l0 : 0 ≤ g - x * 365 ∧ g - x * 365 ≤ 365 ∧ (g - x * 365 = 365 → x = 3 ∧ g = 1460) := by omega
  have q4 : (1 + r * 400 + c * 100 + f * 4 + x - 1) / 4 = r * 100 + c * 25 + f := by omega
  have q100 : (1 + r * 400 + c * 100 + f * 4 + x - 1) / 100 = r * 4 + c := by omega
  have q400 : (1 + r * 400 + c * 100 + f * 4 + x - 1) / 400 = r := by omega
  have hl := leap_iff (1 + r * 400 + c * 100 + f * 4 + x)
  refine ⟨?_, by omega, ?_⟩
  · unfold jan
    rw [q4, q100, q400]
    omega
  · unfold yd
    by_cases he : g - x * 365 = 365
    · obtain ⟨rfl, rfl⟩ := l0.2.2 he
      have hfc : f < 24 ∨ c = 3 := by omega
      have : leap (1 + r * 400 + c * 100 + f * 4 + 3) = true := hl.2 (by omega)
      rw [if_pos this]
      omega
    · split <;> omega
def moOf (y : Int) : Nat → Int → Int → Int × Int
  | 0, m, l => (m, l)
  | k + 1, m, l => if md y m ≤ l then moOf y k (m + 1) (l - md y m) else (m, l)
theorem moOf_is (y : Int) : ∀ (k : Nat) (m l : Int), m = 13 - (k : Int) → k ≤ 12 → 0 ≤ l → cum y m + l < yd y → 1 ≤ (moOf y k m l).1 ∧ (moOf y k m l).1 ≤ 12 ∧ 0 ≤ (moOf y k m l).2 ∧ (moOf y k m l).2 < md y (moOf y k m l).1 ∧ cum y (moOf y k m l).1 + (moOf y k m l).2 = cum y m + l := by
  intro k
  induction k with
  | zero =>
    intro m l hm _ h0 hl
    simp only [Int.ofNat_zero, Int.natCast_zero, Int.sub_zero] at hm
    subst hm
    rw [cum_13] at hl
    omega
  | succ k ih =>
    intro m l hm hk h0 hl
    unfold moOf
    have hs := cum_succ y m (by omega) (by omega)
    split
    · have := ih (m + 1) (l - md y m) (by omega) (by omega) (by omega) (by omega)
      omega
    · dsimp only
      omega
def ymd (D : Int) : Int × Int × Int :=
  let a := yrOf (D + 719162)
  let b := moOf a.1 12 1 a.2
  (a.1, b.1, b.2 + 1)
theorem ymd_is {D : Int} (h1 : -719162 ≤ D) (h2 : D ≤ 2932896) : IsD (ymd D).1 (ymd D).2.1 (ymd D).2.2 ∧ dn (ymd D).1 (ymd D).2.1 (ymd D).2.2 = D := by
  unfold ymd
  dsimp only
  obtain ⟨a1, a2, a3⟩ := yrOf_jan (D + 719162) (by omega)
  have b := moOf_is (yrOf (D + 719162)).1 12 1 (yrOf (D + 719162)).2 (by decide) (by decide) a2 (by rw [cum_one]; omega)
  rw [cum_one] at b
  generalize yrOf (D + 719162) = Y at *
  generalize moOf Y.1 12 1 Y.2 = M at *
  have y1 : 1 ≤ Y.1 := by
    by_cases h : 1 ≤ Y.1
    · exact h
    · have := jan_mono (a := Y.1 + 1) (b := 1) (by omega)
      rw [jan_succ, jan_one] at this
      omega
  have y2 : Y.1 ≤ 9999 := by
    by_cases h : Y.1 ≤ 9999
    · exact h
    · have := jan_mono (a := 10000) (b := Y.1) (by omega)
      rw [jan_end] at this
      omega
  refine ⟨⟨y1, y2, by omega, by omega⟩, ?_⟩
  unfold dn
  omega
theorem ymd_of {y m d : Int} (h : IsD y m d) : ymd (dn y m d) = (y, m, d) := by
  have r := dn_range h
  obtain ⟨a, b⟩ := ymd_is r.1 r.2
  obtain ⟨e1, e2, e3⟩ := dn_inj a h b
  exact Prod.ext e1 (Prod.ext e2 e3)
theorem ymd_eq {y m d D : Int} (h : IsD y m d) (e : dn y m d = D) : ymd D = (y, m, d) := e ▸ ymd_of h
def wday (D : Int) : Int := (D + 3) % 7
theorem wday_r (D : Int) : 0 ≤ wday D ∧ wday D < 7 := by unfold wday; omega

end Bs
end Go.Proofs.YticncpjpkgdnlaaGreatDoor

/-
  What a date's text says, plain: names, digits, pieces, forms.
-/
set_option linter.unusedVariables false
set_option linter.unusedSimpArgs false
namespace Go.Proofs.YticncpjpkgdnlaaGreatDoor
namespace Bs

def shorts : List (List UInt8) := [[77, 111, 110], [84, 117, 101], [87, 101, 100], [84, 104, 117], [70, 114, 105], [83, 97, 116], [83, 117, 110]]
def longs : List (List UInt8) := [[77, 111, 110, 100, 97, 121], [84, 117, 101, 115, 100, 97, 121], [87, 101, 100, 110, 101, 115, 100, 97, 121], [84, 104, 117, 114, 115, 100, 97, 121], [70, 114, 105, 100, 97, 121], [83, 97, 116, 117, 114, 100, 97, 121], [83, 117, 110, 100, 97, 121]]
def mons : List (List UInt8) := [[74, 97, 110], [70, 101, 98], [77, 97, 114], [65, 112, 114], [77, 97, 121], [74, 117, 110], [74, 117, 108], [65, 117, 103], [83, 101, 112], [79, 99, 116], [78, 111, 118], [68, 101, 99]]
def nms : Nat → List (List UInt8)
  | 0 => shorts
  | 1 => longs
  | _ => mons

def dgt (c : UInt8) : Bool := decide (48 ≤ c.toNat ∧ c.toNat ≤ 57)
def dv (c : UInt8) : Int := (c.toNat : Int) - 48
def hp (l t : List UInt8) : Bool := decide (l.take t.length = t)

/-- So many digits from a place on: the place behind, and the number; or the place of the fault. -/
def dgs (l : List UInt8) : Nat → Nat → Int → Except Nat (Nat × Int)
  | 0, a, v => .ok (a, v)
  | k + 1, a, v => match l[a]? with
    | some c => if dgt c then dgs l k (a + 1) (v * 10 + dv c) else .error a
    | none => .error a
def exs (l : List UInt8) : List UInt8 → Nat → Except Nat Nat
  | [], a => .ok a
  | c :: t, a => if l[a]? = some c then exs l t (a + 1) else .error a
def nam (l : List UInt8) (a : Nat) (ns : List (List UInt8)) : Option Nat := ns.findIdx? fun t => hp (l.drop a) t

inductive TK where
  | ex (t : List UInt8)
  | dg (n f : Nat)
  | lo (f : Nat)
  | nm (k f : Nat)
def put (st : List Int) (f : Nat) (v a : Int) : List Int := (st.set (2 * f) v).set (2 * f + 1) a
def take1 (l : List UInt8) (a : Nat) (st : List Int) : TK → Except Nat (Nat × List Int)
  | .ex t => match exs l t a with
    | .ok b => .ok (b, st)
    | .error e => .error e
  | .dg n f => match dgs l n a 0 with
    | .ok (b, v) => .ok (b, put st f v a)
    | .error e => .error e
  | .lo f => if l[a]? = some 32 then match dgs l 1 (a + 1) 0 with
      | .ok (b, v) => .ok (b, put st f v a)
      | .error e => .error e
    else match dgs l 2 a 0 with
      | .ok (b, v) => .ok (b, put st f v a)
      | .error e => .error e
  | .nm k f => match nam l a (nms k) with
    | some i => .ok (a + ((nms k).getD i []).length, put st f i a)
    | none => .error a
def takes (l : List UInt8) : List TK → Nat → List Int → Except Nat (Nat × List Int)
  | [], a, st => .ok (a, st)
  | t :: ts, a, st => match take1 l a st t with
    | .ok (b, st') => takes l ts b st'
    | .error e => .error e
def tkL : List TK := [.nm 1 0, .ex [44, 32], .dg 2 1, .ex [45], .nm 2 2, .ex [45], .dg 2 3, .ex [32], .dg 2 4, .ex [58], .dg 2 5, .ex [58], .dg 2 6, .ex [32, 71, 77, 84]]
def tkP : List TK := [.nm 0 0, .ex [32], .nm 2 2, .ex [32], .lo 1, .ex [32], .dg 2 4, .ex [58], .dg 2 5, .ex [58], .dg 2 6, .ex [32], .dg 4 3]
def tkF : List TK := [.nm 0 0, .ex [44, 32], .dg 2 1, .ex [32], .nm 2 2, .ex [32], .dg 4 3, .ex [32], .dg 2 4, .ex [58], .dg 2 5, .ex [58], .dg 2 6, .ex [32, 71, 77, 84]]
def tks (form : Int) : List TK := if form = 1 then tkL else if form = 2 then tkP else tkF

def formF (l : List UInt8) : Nat → Nat → Int
  | 0, _ => 2
  | k + 1, i => if hp l (shorts.getD i [] ++ [44]) then 0 else if hp l (longs.getD i [] ++ [44]) then 1 else formF l k (i + 1)
def formS (l : List UInt8) : Int := formF l 7 0
theorem formF_r (l : List UInt8) : ∀ k i, 0 ≤ formF l k i ∧ formF l k i ≤ 2
  | 0, _ => ⟨by unfold formF; omega, by unfold formF; omega⟩
  | k + 1, i => by
    unfold formF
    have := formF_r l k (i + 1)
    split
    · omega
    · split <;> omega
theorem formS_r (l : List UInt8) : formS l = 0 ∨ formS l = 1 ∨ formS l = 2 := by
  have := formF_r l 7 0
  unfold formS
  omega

def z14 : List Int := [0, 0, 0, 0, 0, 0, 0, 0, 0, 0, 0, 0, 0, 0]
def g (st : List Int) (i : Nat) : Int := st.getD i 0
def nearS (c this : Int) : Int := this - 49 + (c - (this - 49)) % 100
def minM : Int := -62135596800
def maxM : Int := 253402300799
def isM (t : Int) : Prop := -62135596800 ≤ t ∧ t ≤ 253402300799
instance (t : Int) : Decidable (isM t) := inferInstanceAs (Decidable (_ ∧ _))
def momS (y : Int) (st : List Int) : Int × Int × Int :=
  if y < 1 ∨ 9999 < y then (0, 41, g st 7)
  else if ¬ (1 ≤ g st 2 ∧ g st 2 ≤ md y (g st 4 + 1)) then (0, 41, g st 3)
  else if 23 < g st 8 then (0, 42, g st 9)
  else if 59 < g st 10 then (0, 42, g st 11)
  else if 60 < g st 12 then (0, 42, g st 13)
  else if g st 0 ≠ wday (dn y (g st 4 + 1) (g st 2)) then (0, 43, 0)
  else
    if 253402300799 < dn y (g st 4 + 1) (g st 2) * 86400 + g st 8 * 3600 + g st 10 * 60 + g st 12 then (0, 40, 0)
    else (dn y (g st 4 + 1) (g st 2) * 86400 + g st 8 * 3600 + g st 10 * 60 + g st 12, 0, 0)
def yearOfM (t : Int) : Int := (ymd (t / 86400)).1
def yS (l : List UInt8) (now : Int) (st : List Int) : Int := if formS l = 1 then nearS (g st 6) (yearOfM now) else g st 6
def pars2 (l : List UInt8) (now : Int) : Except Nat (Nat × List Int) → Int × Int × Int × Int
  | .error a => (0, 0, 44, a)
  | .ok (a, st) =>
    if a ≠ l.length then (0, 0, 44, a)
    else if (momS (yS l now st) st).2.1 = 0 then ((momS (yS l now st) st).1, formS l, 0, 0)
    else (0, 0, (momS (yS l now st) st).2.1, (momS (yS l now st) st).2.2)
/-- All that Parse says: moment, form, error, place. -/
def parseS (l : List UInt8) (now : Int) : Int × Int × Int × Int :=
  if ¬ isM now then (0, 0, 40, 0)
  else pars2 l now (takes l (tks (formS l)) 0 z14)

end Bs
end Go.Proofs.YticncpjpkgdnlaaGreatDoor

/-
  Worlds that are as they were but for some blocks; rows of bytes; appends; texts.
-/
set_option linter.unusedVariables false
set_option linter.unusedSimpArgs false
namespace Go.Proofs.YticncpjpkgdnlaaGreatDoor
open Go.RowKit
namespace Bs

theorem ret_int {k : IntKind} {a b : Int} (h : a = b) : Ending.returned (.int k a) = .returned (.int k b) := by rw [h]
theorem ret_bool {a b : Bool} (h : a = b) : Ending.returned (.bool a) = .returned (.bool b) := by rw [h]
theorem ret_string {a b : ByteArray} (h : a = b) : Ending.returned (.string a) = .returned (.string b) := by rw [h]

def bv (l : List UInt8) : List Value := l.map fun x => Value.int .u8 (x.toNat : Int)
theorem bv_length (l : List UInt8) : (bv l).length = l.length := by unfold bv; simp
theorem bv_get (l : List UInt8) (i : Nat) : (bv l)[i]? = (l[i]?).map fun x => Value.int .u8 (x.toNat : Int) := by unfold bv; simp
theorem bv_append (a b : List UInt8) : bv (a ++ b) = bv a ++ bv b := by unfold bv; simp
theorem bv_one (l : List UInt8) : ∀ v ∈ bv l, v.oneCell' = true := by
  intro v hv
  unfold bv at hv
  obtain ⟨x, _, rfl⟩ := List.mem_map.1 hv
  rfl

/-- Of what was there nothing has turned but the blocks bs. -/
structure But (bs : List Nat) (w w' : World) : Prop where
  os : w'.os = w.os
  tape : w'.tape = w.tape
  output : w'.output = w.output
  size : w.heap.size ≤ w'.heap.size
  block : ∀ k, k < w.heap.size → k ∉ bs → w'.heap[k]? = w.heap[k]?
theorem But.refl (bs : List Nat) (w : World) : But bs w w := ⟨rfl, rfl, rfl, Nat.le_refl _, fun _ _ _ => rfl⟩
theorem But.trans {bs : List Nat} {a b c : World} (h : But bs a b) (k : But bs b c) : But bs a c :=
  ⟨k.os.trans h.os, k.tape.trans h.tape, k.output.trans h.output, Nat.le_trans h.size k.size, fun i hi hn => (k.block i (Nat.lt_of_lt_of_le hi h.size) hn).trans (h.block i hi hn)⟩
theorem But.mono {bs cs : List Nat} {a b : World} (h : But bs a b) (hs : ∀ x, x ∈ bs → x ∈ cs) : But cs a b := ⟨h.os, h.tape, h.output, h.size, fun i hi hn => h.block i hi (fun e => hn (hs i e))⟩
theorem But.nil {cs : List Nat} {a b : World} (h : But [] a b) : But cs a b := h.mono (fun _ e => by cases e)
theorem But.of_below {w w' : World} (h : Below w.heap.size w w') : But [] w w' := ⟨h.os, h.tape, h.output, h.size, fun k hk _ => h.block k hk⟩
theorem But.to_below {w w' : World} (h : But [] w w') : Below w.heap.size w w' := ⟨h.os, h.tape, h.output, h.size, fun k hk => h.block k hk (fun e => by cases e)⟩
theorem But.below {bs : List Nat} {w w' : World} {B : Nat} (h : But bs w w') (hB : B ≤ w.heap.size) (hb : ∀ x, x ∈ bs → B ≤ x) : Below B w w' :=
  ⟨h.os, h.tape, h.output, h.size, fun k hk => h.block k (by omega) (fun e => by have := hb k e; omega)⟩
theorem But.alloc {bs : List Nat} {a w : World} (h : But bs a w) (o : Obj) : But bs a (w.alloc o) := h.trans ⟨rfl, rfl, rfl, by simp, fun k hk _ => Below.heap_alloc _ _ _ hk⟩
theorem But.setCell {bs : List Nat} {a w : World} (h : But bs a w) {p : Addr} (hp : p.block ∈ bs) (u : Value) : But bs a (w.setCell p u) :=
  h.trans ⟨rfl, rfl, rfl, by simp [World.setCell], fun k hk hn => Below.heap_setCell _ _ _ _ (fun e => hn (e ▸ hp))⟩
theorem But.setRow {bs : List Nat} {a w : World} (h : But bs a w) {g : Nat} (hp : g ∈ bs) (cs : Array Value) : But bs a (w.setRow g cs) :=
  h.trans ⟨rfl, rfl, rfl, by simp [World.setRow], fun k hk hn => setRow_other w g k cs (fun e => hn (e ▸ hp))⟩
theorem But.drew {bs : List Nat} {a w : World} (h : But bs a w) : But bs a w.drew := ⟨h.os, h.tape, h.output, h.size, h.block⟩
theorem But.drewN {bs : List Nat} {a w : World} (h : But bs a w) (q : Nat) : But bs a (w.drewN q) := by
  induction q with
  | zero => exact h
  | succ q ih => exact ih.drew
theorem But.grown {bs : List Nat} {a w w' : World} {row : Option Nat} (h : But bs a w) (hg : w.grownBy w' row) (hr : ∀ k, row = some k → k ∈ bs) : But bs a w' :=
  h.trans ⟨hg.os, hg.tape, hg.output, hg.size, fun k hk hn => hg.block k hk (fun e => hn (hr k e.symm))⟩
theorem But.cell {bs : List Nat} {w w' : World} (h : But bs w w') {p : Addr} {v : Value} (hc : w.cell? p = some v) (hn : p.block ∉ bs) : w'.cell? p = some v := by
  rw [World.cell?_of_block (w := w) (h.block p.block (World.block_lt_of_cell? w _ hc) hn)]
  exact hc
theorem But.heap {bs : List Nat} {w w' : World} (h : But bs w w') {b : Nat} {o : Obj} (hc : w.heap[b]? = some o) (hn : b ∉ bs) : w'.heap[b]? = some o := by
  rw [h.block b (Array.getElem?_eq_some_iff.1 hc).1 hn]
  exact hc
theorem But.owns {bs : List Nat} {w w' : World} (h : But bs w w') {B T S n : Nat} {v : Value} {xs : List Value} (ho : w.ownsRow B T S v n xs) (hn : ∀ g, v.ownBlock = some g → g ∉ bs) : w'.ownsRow B T S v n xs := by
  refine ⟨ho.1, ?_⟩
  rcases ho.2 with hz | ⟨g, cap, cur, rfl, hb, hg, rest⟩
  · exact .inl hz
  · exact .inr ⟨g, cap, cur, rfl, hb, h.heap hg (hn g rfl), rest⟩

theorem bel_drewN {B : Nat} {a w : World} (h : Below B a w) (q : Nat) : Below B a (w.drewN q) := by
  induction q with
  | zero => exact h
  | succ q ih => exact ih.drew
theorem bel_trans {a b c : World} (h : Below a.heap.size a b) (k : Below b.heap.size b c) : Below a.heap.size a c := h.trans (k.mono h.size)

/-- The value is a slice of these bytes. -/
def RdB (w : World) (v : Value) (l : List UInt8) : Prop :=
  ∃ a cap, v = .slice a l.length cap ∧ l.length ≤ cap ∧ (a = none → cap = 0) ∧ (l = [] ∨ ∃ g o, a = some ⟨g, o, none⟩ ∧ ∀ j x, l[j]? = some x → w.cell? ⟨g, o + j, none⟩ = some (.int .u8 (x.toNat : Int)))
theorem RdB.nil (w : World) : RdB w (.slice none 0 0) [] := ⟨none, 0, rfl, Nat.le_refl _, fun _ => rfl, .inl rfl⟩
theorem RdB.but {bs : List Nat} {w w' : World} {v : Value} {l : List UInt8} (h : RdB w v l) (b : But bs w w') (hn : ∀ g, v.ownBlock = some g → g ∉ bs) : RdB w' v l := by
  obtain ⟨a, cap, rfl, hc, hz, h⟩ := h
  refine ⟨a, cap, rfl, hc, hz, ?_⟩
  rcases h with h | ⟨g, o, rfl, h⟩
  · exact .inl h
  · exact .inr ⟨g, o, rfl, fun j x hj => b.cell (h j x hj) (hn g rfl)⟩
theorem RdB.below {w w' : World} {v : Value} {l : List UInt8} (h : RdB w v l) (b : Below w.heap.size w w') : RdB w' v l := h.but (But.of_below b) (fun _ _ e => by cases e)
/-- A row of the call's own is read. -/
theorem RdB.own {w : World} {B T : Nat} {v : Value} {l : List UInt8} (h : w.ownsRow B T 1 v l.length (bv l)) : RdB w v l := by
  rcases h.2 with ⟨rfl, hn⟩ | ⟨g, cap, cur, rfl, hb, hg, hc, hm, hs, ht⟩
  · obtain rfl : l = [] := List.eq_nil_of_length_eq_zero hn
    exact RdB.nil w
  · refine ⟨_, cap, rfl, hc, (fun e => by cases e), .inr ⟨g, 0, rfl, fun j x hj => ?_⟩⟩
    have := World.ownsRow.cells h (g := g) rfl j _ (by rw [bv_get, hj]; rfl)
    rw [Addr.add_lit] at this
    exact this
theorem owns_len {w : World} {B T : Nat} {v : Value} {n : Nat} {l : List UInt8} (h : w.ownsRow B T 1 v n (bv l)) : n = l.length := by
  have := h.1
  rw [bv_length] at this
  omega
theorem RdB.ofOwn {w : World} {B T n : Nat} {v : Value} {l : List UInt8} (h : w.ownsRow B T 1 v n (bv l)) : RdB w v l := by
  have hn := owns_len h
  subst hn
  exact RdB.own h
theorem owns_fresh {w : World} {B T S n : Nat} {v : Value} {xs : List Value} (h : w.ownsRow B T S v n xs) : ∀ g, v.ownBlock = some g → B ≤ g := fun g hg => (World.ownsRow.lt h g hg).1

theorem infoB : (Tryz.prog.info? 5).map (fun i => (i.zero, i.size, i.bytes)) = some (some (.int .u8 0), 1, 1) := by kernel_rfl
theorem sizeB : (Tryz.prog.info? 5).map (·.size) = some 1 := by kernel_rfl

theorem wpList_wanted {P : Program} {ops : Array Oper} {rest : List Oper} {o : Oper} {a : Act} {w : World} {Q : Exit → Act → World → Prop} (hw : Region.wanted o (yielded ops a.tmps) = true)
    (h : o.wp P a w (wpList P ops Q rest) Q) : wpList P ops Q (o :: rest) a w := by
  rw [wpList, if_pos hw]
  exact .inl h

/- Texts. -/
def str (l : List UInt8) : ByteArray := ⟨l.toArray⟩
theorem str_list (l : List UInt8) : (str l).data.toList = l := by simp [str]
theorem str_size (l : List UInt8) : (str l).size = l.length := by simp [str, ByteArray.size]
theorem str_self (s : ByteArray) : str s.data.toList = s := by simp [str]
theorem str_inj {a b : List UInt8} (h : str a = str b) : a = b := by rw [← str_list a, h, str_list]
theorem size_list (s : ByteArray) : s.data.toList.length = s.size := by simp
theorem eq_list {a b : ByteArray} (h : a.data.toList = b.data.toList) : a = b := by rw [← str_self a, h, str_self]
theorem eq_toList (a b : ByteArray) : (a.toList == b.toList) = decide (a = b) := by
  rw [ByteArray.toList_eq, ByteArray.toList_eq, Bool.eq_iff_iff, beq_iff_eq, decide_eq_true_iff]
  exact ⟨eq_list, fun h => by rw [h]⟩
theorem ne_toList (a b : ByteArray) : (a.toList != b.toList) = !decide (a = b) := by
  rw [bne, eq_toList]
theorem at_lt (s : ByteArray) (k : Nat) (h : k < s.size) : s.data.toList.getD k 0 = s[k] := by
  rw [List.getD_eq_getElem?_getD, List.getElem?_eq_getElem (by simpa using h)]
  rfl
/-- The byte at a place, as a number. -/
def byt (s : ByteArray) (j : Nat) : Int := ((s.data.toList.getD j 0).toNat : Int)
theorem byt_bd (s : ByteArray) (j : Nat) : 0 ≤ byt s j ∧ byt s j ≤ 255 := by
  unfold byt
  have := (s.data.toList.getD j 0).toNat_lt
  omega
theorem byt_at (s : ByteArray) (j : Nat) (h : j < s.size) : (s[j].toNat : Int) = byt s j := by unfold byt; rw [at_lt s j h]

/-- 'string(b)' of a slice that is read. -/
theorem back (w : World) (v : Value) (l : List UInt8) (h : RdB w v l) : (convert 42 9 v).run Tryz.prog w = .ok (.string (str l)) w := by
  obtain ⟨a, cap, rfl, hc, hz, hr⟩ := h
  rcases hr with hr | ⟨g, o, rfl, hr⟩
  · subst hr
    cases a with
    | none => rw [run_convert_bytes_string (P := Tryz.prog) w 42 9 5 none _ cap Tryz.underlying42 Tryz.underlying5 Tryz.underlying9]; simp [Conv.bytesToString, Sem.run_pure, str]; rfl
    | some ad =>
      refine run_convert_bytes_back w 42 9 5 ad cap [] Tryz.underlying42 Tryz.underlying5 Tryz.underlying9 (fun j hj => ?_)
      simp at hj
  · refine run_convert_bytes_back w 42 9 5 ⟨g, o, none⟩ cap l Tryz.underlying42 Tryz.underlying5 Tryz.underlying9 (fun j hj => ?_)
    rw [Addr.add_lit]
    exact hr j _ (List.getElem?_eq_getElem hj)

end Bs
end Go.Proofs.YticncpjpkgdnlaaGreatDoor

/-
  Contracts of stamp's calendar, and of the document's.
-/
set_option linter.unusedVariables false
set_option linter.unusedSimpArgs false
namespace Go.Proofs.YticncpjpkgdnlaaGreatDoor
open Go.RowKit
namespace Bs

theorem tm_z (y k : Int) : (y.tmod k = 0) ↔ (y % k = 0) := ⟨fun h => Int.emod_eq_zero_of_dvd (Int.dvd_of_tmod_eq_zero h), fun h => Int.tmod_eq_zero_of_dvd (Int.dvd_of_emod_eq_zero h)⟩
theorem tq {y k : Int} (h : 0 ≤ y) : y.tdiv k = y / k := Int.tdiv_eq_ediv_of_nonneg h
theorem tr {y k : Int} (h : 0 ≤ y) : y.tmod k = y % k := Int.tmod_eq_emod_of_nonneg h
theorem leap_t (y : Int) : leap y = (decide (y.tmod 4 = 0) && !decide (y.tmod 100 = 0) || decide (y.tmod 400 = 0)) := by
  unfold leap
  simp only [tm_z]
  by_cases a : y % 4 = 0 <;> by_cases b : y % 100 = 0 <;> by_cases c : y % 400 = 0 <;> simp [a, b, c]

set_option maxHeartbeats 400000 in
theorem Leap_any (y : Int) (h0 : -9223372036854775808 ≤ y) (h1 : y ≤ 9223372036854775807) (w : World) :
    Calls Tryz.prog 309 #[.int .i64 y] w fun e w' => e = .returned (.bool (leap y)) ∧ w' = w := by
  rw [leap_t]
  by_cases a : y.tmod 4 = 0 <;> by_cases b : y.tmod 100 = 0 <;> by_cases c : y.tmod 400 = 0
  all_goals
    go_enter Tryz.func309, Tryz.ntmps309
    go_wp2
    go_ret
    exact ⟨ret_bool (by simp [a, b, c]), rfl⟩

/- The tables. -/
def pms : List Int := [31, 28, 31, 30, 31, 30, 31, 31, 30, 31, 30, 31]

/-- The tables lie where they were laid. -/
structure Tb (w : World) : Prop where
  l0 : 8 < w.heap.size
  l1 : 3 < w.heap.size
  l2 : 2 < w.heap.size
  l3 : 1 < w.heap.size
  l4 : 6 < w.heap.size
  pm : ∀ i : Nat, i < 12 → w.cell? ⟨8, i, none⟩ = some (.int .i64 (pms.getD i 0))
  sd : ∀ i : Nat, i < 7 → w.cell? ⟨3, i, none⟩ = some (.string (str (shorts.getD i [])))
  ld : ∀ i : Nat, i < 7 → w.cell? ⟨2, i, none⟩ = some (.string (str (longs.getD i [])))
  mo : ∀ i : Nat, i < 12 → w.cell? ⟨1, i, none⟩ = some (.string (str (mons.getD i [])))
  pw : Lib.TabIs Tryz.prog w "internal/strconv.uint64pow10" .u64 Lib.pow10Tab

theorem gPow : Tryz.prog.globalNamed "internal/strconv.uint64pow10" = some 6 := by kernel_rfl

theorem Tb.below {B : Nat} {w w' : World} (h : Tb w) (b : Below B w w') (hB : w.heap.size ≤ B) : Tb w' := by
  have hs := b.size
  have l0 := h.l0
  have l1 := h.l1
  have l2 := h.l2
  have l3 := h.l3
  have l4 := h.l4
  exact ⟨by omega, by omega, by omega, by omega, by omega, fun i hi => by rw [b.cell (show 8 < B by omega)]; exact h.pm i hi, fun i hi => by rw [b.cell (show 3 < B by omega)]; exact h.sd i hi, fun i hi => by rw [b.cell (show 2 < B by omega)]; exact h.ld i hi, fun i hi => by rw [b.cell (show 1 < B by omega)]; exact h.mo i hi, var?_below b gPow (by omega) h.pw⟩
theorem Tb.bel {w w' : World} (h : Tb w) (b : Below w.heap.size w w') : Tb w' := h.below b (Nat.le_refl _)

def I64 (x : Int) : Prop := -9223372036854775808 ≤ x ∧ x ≤ 9223372036854775807

set_option maxHeartbeats 1000000 in
theorem MonthDays_any (y m : Int) (hy : I64 y) (hm : I64 m) (w : World) (t : Tb w) :
    Calls Tryz.prog 259 #[.int .i64 y, .int .i64 m] w fun e w' => e = .returned (.int .i64 (md y m)) ∧ w' = w := by
  obtain ⟨m0, m1⟩ := hm
  by_cases h : 1 ≤ m ∧ m ≤ 12
  · by_cases h2 : m = 2
    · subst h2
      have c1 : w.cell? ⟨8, 1, none⟩ = some (.int .i64 28) := t.pm 1 (by decide)
      clear t
      cases hl : leap y
      all_goals
        go_enter Tryz.func259, Tryz.ntmps259
        go_wp2_with fail
        refine (Leap_any y hy.1 hy.2 w).mono ?_
        rintro e w' ⟨rfl, rfl⟩
        rw [hl]
        go_wp2
        go_ret
        exact ⟨ret_int (by simp [md, feb, hl]), rfl⟩
    · have ck := t.pm (m - 1).toNat (by omega)
      clear t
      rcases months h.1 h.2 with rfl | rfl | rfl | rfl | rfl | rfl | rfl | rfl | rfl | rfl | rfl | rfl
      all_goals first
        | (exfalso; exact h2 rfl)
        | (simp [pms] at ck
           go_enter Tryz.func259, Tryz.ntmps259
           go_wp2
           go_ret
           exact ⟨rfl, rfl⟩)
  · by_cases h3 : m < 1
    · go_enter Tryz.func259, Tryz.ntmps259
      go_wp2
      go_ret
      exact ⟨ret_int (by unfold md; rw [if_pos (by omega)]), rfl⟩
    · have h4 : 12 < m := by omega
      go_enter Tryz.func259, Tryz.ntmps259
      go_wp2
      go_ret
      exact ⟨ret_int (by unfold md; rw [if_pos (by omega)]), rfl⟩

def daysS (y m d : Int) : Int × Int := if 1 ≤ y ∧ y ≤ 9999 ∧ 1 ≤ d ∧ d ≤ md y m then (dn y m d, 0) else (0, 41)
theorem daysS_ok {y m d : Int} (h : IsD y m d) : daysS y m d = (dn y m d, 0) := if_pos h
theorem daysS_no {y m d : Int} (h : ¬ IsD y m d) : daysS y m d = (0, 41) := if_neg h
theorem ret_two {j k : IntKind} {a b : Int} {r : Int × Int} (h : r = (a, b)) : Ending.returned (.tuple #[.int j a, .int k b]) = .returned (.tuple #[.int j r.1, .int k r.2]) := by rw [h]
theorem ret_pair {j k : IntKind} {a b c d : Int} (h : a = c) (h' : b = d) : Ending.returned (.tuple #[.int j a, .int k b]) = .returned (.tuple #[.int j c, .int k d]) := by rw [h, h']
theorem jan_r {y : Int} (h1 : 1 ≤ y) (h2 : y ≤ 9999) : -719162 ≤ jan y ∧ jan y ≤ 2932896 := by
  have a := jan_mono h1
  have b := jan_mono (a := y) (b := 9999) h2
  rw [jan_one] at a
  have c : jan 9999 = 2932532 := by decide
  omega
theorem cum_r (y m : Int) : 0 ≤ cum y m ∧ cum y m ≤ 366 := by
  have a := cum_nn y m
  by_cases h : m ≤ 13
  · have b := cum_le y m h
    have c := feb_or y
    rw [yd_feb] at b
    omega
  · rw [cum_big (by omega)]
    have c := feb_or y
    omega
theorem jan_q {y : Int} (h : 1 ≤ y) : (y - 1) * 365 + (y - 1).tdiv 4 - (y - 1).tdiv 100 + (y - 1).tdiv 400 - 719162 = jan y := by
  unfold jan
  rw [tq (by omega), tq (by omega), tq (by omega)]

end Bs
end Go.Proofs.YticncpjpkgdnlaaGreatDoor

/-
  The date of a moment, and a date's moment.
-/
set_option linter.unusedVariables false
set_option linter.unusedSimpArgs false
namespace Go.Proofs.YticncpjpkgdnlaaGreatDoor
open Go.RowKit
namespace Bs

theorem Tb.alloc {w : World} (h : Tb w) (o : Obj) : Tb (w.alloc o) := h.bel ((But.refl [] w).alloc o).to_below

/-- The block is none of the tables. -/
def NotTb (P : Nat) : Prop := 8 < P ∧ 3 < P ∧ 2 < P ∧ 1 < P ∧ 6 < P
theorem Tb.notTb {w : World} (h : Tb w) {P : Nat} (hP : w.heap.size ≤ P) : NotTb P := by
  have := h.l0
  have := h.l1
  have := h.l2
  have := h.l3
  have := h.l4
  unfold NotTb
  omega

theorem Tb.butP {P : Nat} {w w' : World} (h : Tb w) (b : But [P] w w') (hn : NotTb P) : Tb w' := by
  have hl : ∀ k, k < P → k ∉ [P] := fun k hk e => by simp at e; omega
  have hs := b.size
  obtain ⟨n0, n1, n2, n3, n4⟩ := hn
  have l0 := h.l0
  have l1 := h.l1
  have l2 := h.l2
  have l3 := h.l3
  have l4 := h.l4
  refine ⟨by omega, by omega, by omega, by omega, by omega, fun i hi => b.cell (h.pm i hi) (hl _ n0), fun i hi => b.cell (h.sd i hi) (hl _ n1), fun i hi => b.cell (h.ld i hi) (hl _ n2), fun i hi => b.cell (h.mo i hi) (hl _ n3), ?_⟩
  have hb : Below (6 + 1) w w' := ⟨b.os, b.tape, b.output, b.size, fun k hk => b.block k (by omega) (hl _ (by omega))⟩
  exact var?_below hb gPow (by omega) h.pw

set_option maxHeartbeats 400000 in
theorem modulo_any (n by' : Int) (hn : I64 n) (h1 : 1 ≤ by') (h2 : by' ≤ 1000000) (w : World) :
    Calls Tryz.prog 310 #[.int .i64 n, .int .i64 by'] w fun e w' => e = .returned (.int .i64 (n % by')) ∧ w' = w := by
  obtain ⟨n0, n1⟩ := hn
  have a1 : -by' < n.tmod by' := Int.lt_tmod_of_pos n (by omega)
  have a2 : n.tmod by' < by' := Int.tmod_lt_of_pos n (by omega)
  have a3 : (n.tmod by' + by').tmod by' = n % by' := by
    rw [tr (by omega), Int.add_emod_right]
    have e : n % by' = (by' * n.tdiv by' + n.tmod by') % by' := by rw [Int.mul_tdiv_add_tmod]
    rw [e, Int.mul_add_emod_self_left]
  have a4 := Int.emod_nonneg n (show by' ≠ 0 by omega)
  have a5 := Int.emod_lt_of_pos n (show 0 < by' by omega)
  have A3 : Hid (_ = _) := a3
  have a6 : 0 ≤ (n.tmod by' + by').tmod by' ∧ (n.tmod by' + by').tmod by' < by' := by rw [a3]; omega
  clear a3
  have hz : ¬ by' = 0 := by omega
  go_enter Tryz.func310, Tryz.ntmps310
  go_wp2
  go_ret
  first | exact ⟨ret_int A3.out, rfl⟩ | exact ⟨ret_int (by rw [← A3.out]; exact (tr (by omega)).symm), rfl⟩

set_option maxHeartbeats 400000 in
theorem weekday_any (n : Int) (h0 : -1000000000 ≤ n) (h1 : n ≤ 1000000000) (w : World) :
    Calls Tryz.prog 260 #[.int .i64 n] w fun e w' => e = .returned (.int .i64 (wday n)) ∧ w' = w := by
  go_enter Tryz.func260, Tryz.ntmps260
  go_wp2_with fail
  refine (modulo_any (n + 3) 7 ⟨by omega, by omega⟩ (by omega) (by omega) w).mono ?_
  rintro e w' ⟨rfl, rfl⟩
  go_wp2
  go_ret
  exact ⟨rfl, rfl⟩

set_option maxHeartbeats 400000 in
theorem below_any (n k : Int) (hn : I64 n) (hk : I64 k) (w : World) :
    Calls Tryz.prog 210 #[.int .i64 n, .int .i64 k] w fun e w' => e = .returned (.bool (decide (0 ≤ n ∧ n < k))) ∧ w' = w := by
  by_cases a : 0 ≤ n <;> by_cases b : n < k
  all_goals
    go_enter Tryz.func210, Tryz.ntmps210
    go_wp2
    go_ret
    exact ⟨ret_bool (by simp [a, b]), rfl⟩

set_option maxHeartbeats 400000 in
theorem yearOf_any (n : Int) (h0 : 0 ≤ n) (h1 : n ≤ 4000000) (w : World) :
    Calls Tryz.prog 258 #[.int .i64 n] w fun e w' => e = .returned (.tuple #[.int .i64 (yrOf n).1, .int .i64 (yrOf n).2]) ∧ w' = w := by
  have e1 : n.tdiv 146097 = n / 146097 := tq h0
  have e2 : n.tmod 146097 = n % 146097 := tr h0
  unfold yrOf
  dsimp only
  generalize hr : n / 146097 = r at *
  generalize ha : n % 146097 = a at *
  have a0 : 0 ≤ a ∧ a < 146097 := by omega
  have r0 : 0 ≤ r ∧ r ≤ 100 := by omega
  have e3 : a.tdiv 36524 = a / 36524 := tq a0.1
  generalize hc : min (a / 36524) 3 = c
  have c0 : 0 ≤ c ∧ c ≤ 3 := by omega
  generalize hx1 : a / 36524 = x1 at *
  have hb0 : 0 ≤ a - c * 36524 ∧ a - c * 36524 ≤ 36524 := by omega
  have e4 : (a - c * 36524).tdiv 1461 = (a - c * 36524) / 1461 := tq hb0.1
  have e5 : (a - c * 36524).tmod 1461 = (a - c * 36524) % 1461 := tr hb0.1
  generalize hf : (a - c * 36524) / 1461 = f at *
  generalize hg : (a - c * 36524) % 1461 = g at *
  have f0 : 0 ≤ f ∧ f ≤ 24 := by omega
  have g0 : 0 ≤ g ∧ g ≤ 1460 := by omega
  have e6 : g.tdiv 365 = g / 365 := tq g0.1
  generalize hx2 : g / 365 = x2 at *
  generalize hx : min x2 3 = x at *
  have x0 : 0 ≤ x ∧ x ≤ 3 := by omega
  go_enter Tryz.func258, Tryz.ntmps258
  go_wp2
  all_goals go_ret2
  all_goals
    refine ⟨ret_pair ?_ ?_, rfl⟩
    · omega
    · omega

def dv7 (y m d h i s k : Int) : Value := .agg #[.int .i64 y, .int .i64 m, .int .i64 d, .int .i64 h, .int .i64 i, .int .i64 s, .int .i64 k]
def splitV (t : Int) : Value := dv7 (ymd (t / 86400)).1 (ymd (t / 86400)).2.1 (ymd (t / 86400)).2.2 (t % 86400 / 3600) (t % 86400 % 3600 / 60) (t % 86400 % 60) (wday (t / 86400))
def splitR (t : Int) : Value × Int := if isM t then (splitV t, 0) else (dv7 0 0 0 0 0 0 0, 40)
theorem ret_vi {a b : Value} {k : IntKind} {c d : Int} (h : a = b) (h' : c = d) : Ending.returned (.tuple #[a, .int k c]) = .returned (.tuple #[b, .int k d]) := by rw [h, h']

set_option maxRecDepth 100000 in
set_option maxHeartbeats 1000000 in
theorem Split_any (t : Int) (ht : I64 t) (w : World) (tb : Tb w) :
    Calls Tryz.prog 209 #[.int .i64 t] w fun e w' => e = .returned (.tuple #[(splitR t).1, .int .i64 (splitR t).2]) ∧ Below w.heap.size w w' := by
  obtain ⟨t0, t1⟩ := ht
  have tb1 := tb.alloc (.cells #[.int .i64 0, .int .i64 0, .int .i64 0, .int .i64 0, .int .i64 0, .int .i64 0, .int .i64 0] 246)
  have HM : Hid (∀ y k, I64 y → I64 k → Calls Tryz.prog 259 #[.int .i64 y, .int .i64 k] (w.alloc (.cells #[.int .i64 0, .int .i64 0, .int .i64 0, .int .i64 0, .int .i64 0, .int .i64 0, .int .i64 0] 246)) fun e w' => e = .returned (.int .i64 (md y k)) ∧ w' = (w.alloc (.cells #[.int .i64 0, .int .i64 0, .int .i64 0, .int .i64 0, .int .i64 0, .int .i64 0, .int .i64 0] 246))) := fun y k hy hk => MonthDays_any y k hy hk _ tb1
  clear tb1 tb
  by_cases h1 : t < -62135596800
  · unfold splitR
    rw [if_neg (by unfold isM; omega)]
    go_enter Tryz.func209, Tryz.ntmps209
    go_wp2
    exact bodyPost_ret (v := .tuple #[dv7 0 0 0 0 0 0 0, .int .i64 40]) (by simp [results, Tryz.results209, go_sem, dv7]) rfl ⟨rfl, ((But.refl [] w).alloc _).to_below⟩
  by_cases h2 : 253402300799 < t
  · unfold splitR
    rw [if_neg (by unfold isM; omega)]
    go_enter Tryz.func209, Tryz.ntmps209
    go_wp2
    exact bodyPost_ret (v := .tuple #[dv7 0 0 0 0 0 0 0, .int .i64 40]) (by simp [results, Tryz.results209, go_sem, dv7]) rfl ⟨rfl, ((But.refl [] w).alloc _).to_below⟩
  unfold splitR
  rw [if_pos (by unfold isM; omega)]
  have e1 : (t + 62135596800) / 86400 = t / 86400 + 719162 := by omega
  have e2 : (t + 62135596800) % 86400 = t % 86400 := by omega
  have hyr := yrOf_jan (t / 86400 + 719162) (by omega)
  have hY : ∀ k l : Int, 1 ≤ k → k ≤ 12 → 0 ≤ l → l < md (yrOf (t / 86400 + 719162)).1 k → cum (yrOf (t / 86400 + 719162)).1 k + l = (yrOf (t / 86400 + 719162)).2 → 1 ≤ (yrOf (t / 86400 + 719162)).1 → (yrOf (t / 86400 + 719162)).1 ≤ 9999 → ymd (t / 86400) = ((yrOf (t / 86400 + 719162)).1, k, l + 1) := fun k l k1 k2 l1 l2 hc y1 y2 => ymd_eq ⟨y1, y2, by omega, by omega⟩ (by unfold dn; omega)
  have d1 : -719162 ≤ t / 86400 := by omega
  have d2 : t / 86400 ≤ 2932896 := by omega
  have r1 : 0 ≤ t % 86400 ∧ t % 86400 < 86400 := by omega
  have y1 : 1 ≤ (yrOf (t / 86400 + 719162)).1 := by
    by_cases h : 1 ≤ (yrOf (t / 86400 + 719162)).1
    · exact h
    · have := jan_mono (a := (yrOf (t / 86400 + 719162)).1 + 1) (b := 1) (by omega)
      rw [jan_succ, jan_one] at this
      omega
  have y2 : (yrOf (t / 86400 + 719162)).1 ≤ 9999 := by
    by_cases h : (yrOf (t / 86400 + 719162)).1 ≤ 9999
    · exact h
    · have := jan_mono (a := 10000) (b := (yrOf (t / 86400 + 719162)).1) (by omega)
      rw [jan_end] at this
      omega
  have HYR : Hid (∀ w, Calls Tryz.prog 258 #[.int .i64 (t / 86400 + 719162)] w fun e w' => e = .returned (.tuple #[.int .i64 (yrOf (t / 86400 + 719162)).1, .int .i64 (yrOf (t / 86400 + 719162)).2]) ∧ w' = w) := fun w => yearOf_any _ (by omega) (by omega) w
  have HWD : Hid (∀ w, Calls Tryz.prog 260 #[.int .i64 (t / 86400)] w fun e w' => e = .returned (.int .i64 (wday (t / 86400))) ∧ w' = w) := fun w => weekday_any _ (by omega) (by omega) w
  unfold splitV
  have r4 : 0 ≤ t % 86400 / 3600 ∧ t % 86400 / 3600 ≤ 23 := by omega
  have r5 : 0 ≤ t % 86400 % 3600 := by omega
  generalize (yrOf (t / 86400 + 719162)).1 = Y at *
  generalize (yrOf (t / 86400 + 719162)).2 = L at *
  generalize t / 86400 = D at *
  generalize t % 86400 = R at *
  have l1 : L < 366 := by
    have := feb_or Y
    have := hyr.2.2
    rw [yd_feb] at this
    omega
  have HY : Hid (∀ k l : Int, _) := hY
  clear hY
  go_enter Tryz.func209, Tryz.ntmps209
  go_wp2_with fail
  refine (HYR.out _).mono ?_
  rintro e w' ⟨rfl, rfl⟩
  go_wp2
  go_loop [8, 9] (fun a i => ∃ k l : Int, 1 ≤ k ∧ k ≤ 12 ∧ 0 ≤ l ∧ l ≤ L ∧ Hid (cum Y k + l = L) ∧ a = .int .i64 l ∧ i = .int .i64 k) (fun _ i => (13 - intOf i).toNat)
  case atStart => exact ⟨1, L, by omega, by omega, by omega, by omega, (by rw [cum_one]; omega : cum Y 1 + L = L), rfl, rfl⟩
  case round =>
    obtain ⟨k, l, k1, k2, l0, l2, hc, rfl, rfl⟩ := hrel
    have mr := md_le Y k
    by_cases hk : md Y k ≤ l
    · have hs := cum_succ Y k k1 k2
      have hk13 : k + 1 ≤ 12 := by
        by_cases h : k = 12
        · subst h
          have h13 := cum_13 Y
          have := hc.out
          have := hyr.2.2
          simp only [show (12 : Int) + 1 = 13 from rfl] at hs
          omega
        · omega
      have hc' : cum Y (k + 1) + (l - md Y k) = L := by have := hc.out; omega
      have HC' : Hid _ := hc'
      clear hc' hs hc
      go_wp2_with fail
      refine (HM.out Y k ⟨by omega, by omega⟩ ⟨by omega, by omega⟩).mono ?_
      rintro e w' ⟨rfl, rfl⟩
      go_wp2_with fail
      refine (HM.out Y k ⟨by omega, by omega⟩ ⟨by omega, by omega⟩).mono ?_
      rintro e w' ⟨rfl, rfl⟩
      go_wp2
      exact ⟨⟨k + 1, l - md Y k, by omega, by omega, by omega, by omega, HC', rfl, rfl⟩, by simp [intOf]; omega⟩
    · have HD : Hid (ymd D = (Y, k, l + 1)) := HY.out k l k1 k2 l0 (by omega) hc.out y1 y2
      go_wp2_with fail
      refine (HM.out Y k ⟨by omega, by omega⟩ ⟨by omega, by omega⟩).mono ?_
      rintro e w' ⟨rfl, rfl⟩
      go_wp2_with fail
      have e3 : D + 719162 - 719162 = D := by omega
      try rw [e3]
      refine (HWD.out _).mono ?_
      rintro e w' ⟨rfl, rfl⟩
      go_wp2
      exact bodyPost_ret (v := .tuple #[dv7 Y k (l + 1) (R / 3600) (R % 3600 / 60) (R % 60) (wday D), .int .i64 0]) (by simp [results, Tryz.results209, go_sem, dv7]) rfl ⟨by rw [HD.out], ((But.refl [] w).alloc _).to_below⟩

end Bs
end Go.Proofs.YticncpjpkgdnlaaGreatDoor

/-
  The calendar, plain: 400 years, the day behind a day, the order of moments.
-/
set_option linter.unusedVariables false
set_option linter.unusedSimpArgs false
namespace Go.Proofs.YticncpjpkgdnlaaGreatDoor
namespace Bs

theorem leap_400 (y : Int) : leap (y + 400) = leap y := by
  have a := leap_iff (y + 400)
  have b := leap_iff y
  have : leap (y + 400) = true ↔ leap y = true := by
    rw [a, b]
    omega
  cases h : leap y <;> cases h' : leap (y + 400) <;> simp_all
theorem feb_400 (y : Int) : feb (y + 400) = feb y := by unfold feb; rw [leap_400]
theorem md_400 (y m : Int) : md (y + 400) m = md y m := by unfold md; rw [feb_400]
theorem cum_400 (y m : Int) : cum (y + 400) m = cum y m := by unfold cum; rw [feb_400]
theorem jan_400 (y : Int) : jan (y + 400) = jan y + 146097 := by unfold jan; omega
theorem dn_400 (y m d : Int) : dn (y + 400) m d = dn y m d + 146097 := by unfold dn; rw [jan_400, cum_400]; omega
theorem ymd_400 {D : Int} (h1 : -719162 ≤ D) (h2 : D ≤ 2932896 - 146097) : ymd (D + 146097) = ((ymd D).1 + 400, (ymd D).2.1, (ymd D).2.2) := by
  obtain ⟨a, b⟩ := ymd_is h1 (by omega)
  have hm := a.m
  have hd := md_le (ymd D).1 (ymd D).2.1
  obtain ⟨y1, y2, d1, d2⟩ := a
  have hy : (ymd D).1 + 400 ≤ 9999 := by
    by_cases h : (ymd D).1 + 400 ≤ 9999
    · exact h
    · have a' : IsD (ymd D).1 (ymd D).2.1 (ymd D).2.2 := ⟨y1, y2, d1, d2⟩
      have := a'.lo
      have := jan_mono (a := 9600) (b := (ymd D).1) (by omega)
      have e : jan 9600 = 2786800 := by decide
      omega
  refine ymd_eq ⟨by omega, hy, d1, by rw [md_400]; exact d2⟩ ?_
  rw [dn_400, b]
theorem wday_400 (D : Int) : wday (D + 146097) = wday D := by unfold wday; omega

/- The day behind a day. -/
def nxt (y m d : Int) : Int × Int × Int := if d < md y m then (y, m, d + 1) else if m < 12 then (y, m + 1, 1) else (y + 1, 1, 1)
theorem nxt_dn {y m d : Int} (h : IsD y m d) : dn (nxt y m d).1 (nxt y m d).2.1 (nxt y m d).2.2 = dn y m d + 1 := by
  obtain ⟨m1, m2⟩ := h.m
  obtain ⟨_, _, h3, h4⟩ := h
  unfold nxt
  split
  · show dn y m (d + 1) = _
    unfold dn
    omega
  · obtain rfl : d = md y m := by omega
    split
    · show dn y (m + 1) 1 = _
      unfold dn
      rw [cum_succ y m m1 m2]
      omega
    · obtain rfl : m = 12 := by omega
      show dn (y + 1) 1 1 = _
      unfold dn
      have c := cum_succ y 12 (by omega) (by omega)
      rw [show (12 : Int) + 1 = 13 from rfl, cum_13] at c
      rw [jan_succ, cum_one]
      omega
theorem nxt_is {y m d : Int} (h : IsD y m d) (hy : (nxt y m d).1 ≤ 9999) : IsD (nxt y m d).1 (nxt y m d).2.1 (nxt y m d).2.2 := by
  obtain ⟨m1, m2⟩ := h.m
  obtain ⟨h1, h2, h3, h4⟩ := h
  unfold nxt at hy ⊢
  split at hy
  · rename_i hd
    rw [if_pos hd]
    exact ⟨h1, h2, by show 1 ≤ d + 1; omega, by show d + 1 ≤ md y m; omega⟩
  · rename_i hd
    rw [if_neg hd]
    split at hy
    · rename_i hm
      rw [if_pos hm]
      have := md_ge (y := y) (m := m + 1) (by omega) (by omega)
      exact ⟨h1, h2, by show (1 : Int) ≤ 1; omega, by show 1 ≤ md y (m + 1); omega⟩
    · rename_i hm
      rw [if_neg hm]
      have := md_ge (y := y + 1) (m := 1) (by omega) (by omega)
      exact ⟨by show 1 ≤ y + 1; omega, hy, by show (1 : Int) ≤ 1; omega, by show 1 ≤ md (y + 1) 1; omega⟩
theorem nxt_last {y m d : Int} (h : IsD y m d) (hy : 9999 < (nxt y m d).1) : dn y m d = 2932896 := by
  have a := nxt_dn h
  obtain ⟨m1, m2⟩ := h.m
  obtain ⟨h1, h2, h3, h4⟩ := h
  unfold nxt at hy a
  split at hy
  · dsimp only at hy
    omega
  · rename_i hd
    rw [if_neg hd] at a
    split at hy
    · dsimp only at hy
      omega
    · rename_i hm
      rw [if_neg hm] at a
      dsimp only at hy a
      obtain rfl : y = 9999 := by omega
      have e : dn (9999 + 1) 1 1 = 2932897 := by decide
      omega
theorem day_of {n k : Int} (h0 : 0 ≤ k) (h1 : k < 86400) : (n * 86400 + k) / 86400 = n ∧ (n * 86400 + k) % 86400 = k := by omega

/- The order of moments. -/
def Lt6 (y m d h i s y' m' d' h' i' s' : Int) : Prop := y < y' ∨ (y = y' ∧ (m < m' ∨ (m = m' ∧ (d < d' ∨ (d = d' ∧ (h < h' ∨ (h = h' ∧ (i < i' ∨ (i = i' ∧ s < s')))))))))
theorem moments_lt {a b : Int} (ha : isM a) (hb : isM b) (h : Lt6 (ymd (a / 86400)).1 (ymd (a / 86400)).2.1 (ymd (a / 86400)).2.2 (a % 86400 / 3600) (a % 86400 % 3600 / 60) (a % 86400 % 60) (ymd (b / 86400)).1 (ymd (b / 86400)).2.1 (ymd (b / 86400)).2.2 (b % 86400 / 3600) (b % 86400 % 3600 / 60) (b % 86400 % 60)) : a < b := by
  obtain ⟨a1, a2⟩ := ha
  obtain ⟨b1, b2⟩ := hb
  obtain ⟨ia, ea⟩ := ymd_is (D := a / 86400) (by omega) (by omega)
  obtain ⟨ib, eb⟩ := ymd_is (D := b / 86400) (by omega) (by omega)
  have hl := dn_lt ia ib
  rw [ea, eb] at hl
  unfold Lt6 at h
  rcases (by omega : ((ymd (a / 86400)).1 < (ymd (b / 86400)).1 ∨ ((ymd (a / 86400)).1 = (ymd (b / 86400)).1 ∧ ((ymd (a / 86400)).2.1 < (ymd (b / 86400)).2.1 ∨ ((ymd (a / 86400)).2.1 = (ymd (b / 86400)).2.1 ∧ (ymd (a / 86400)).2.2 < (ymd (b / 86400)).2.2)))) ∨ ((ymd (a / 86400)).1 = (ymd (b / 86400)).1 ∧ (ymd (a / 86400)).2.1 = (ymd (b / 86400)).2.1 ∧ (ymd (a / 86400)).2.2 = (ymd (b / 86400)).2.2 ∧ (a % 86400 / 3600 < b % 86400 / 3600 ∨ (a % 86400 / 3600 = b % 86400 / 3600 ∧ (a % 86400 % 3600 / 60 < b % 86400 % 3600 / 60 ∨ (a % 86400 % 3600 / 60 = b % 86400 % 3600 / 60 ∧ a % 86400 % 60 < b % 86400 % 60)))))) with k | ⟨k1, k2, k3, k4⟩
  · have := hl k
    omega
  · have e : a / 86400 = b / 86400 := by rw [← ea, ← eb, k1, k2, k3]
    omega
theorem moments_lt_iff {a b : Int} (ha : isM a) (hb : isM b) : Lt6 (ymd (a / 86400)).1 (ymd (a / 86400)).2.1 (ymd (a / 86400)).2.2 (a % 86400 / 3600) (a % 86400 % 3600 / 60) (a % 86400 % 60) (ymd (b / 86400)).1 (ymd (b / 86400)).2.1 (ymd (b / 86400)).2.2 (b % 86400 / 3600) (b % 86400 % 3600 / 60) (b % 86400 % 60) ↔ a < b := by
  refine ⟨moments_lt ha hb, fun h => ?_⟩
  have h2 := moments_lt hb ha
  have a1 := ha.1
  have a2 := ha.2
  have b1 := hb.1
  have b2 := hb.2
  have ea := (ymd_is (D := a / 86400) (by omega) (by omega)).2
  have eb := (ymd_is (D := b / 86400) (by omega) (by omega)).2
  have h3 : ¬ Lt6 (ymd (b / 86400)).1 (ymd (b / 86400)).2.1 (ymd (b / 86400)).2.2 (b % 86400 / 3600) (b % 86400 % 3600 / 60) (b % 86400 % 60) (ymd (a / 86400)).1 (ymd (a / 86400)).2.1 (ymd (a / 86400)).2.2 (a % 86400 / 3600) (a % 86400 % 3600 / 60) (a % 86400 % 60) := fun k => by have := h2 k; omega
  have h4 : ¬ ((ymd (a / 86400)).1 = (ymd (b / 86400)).1 ∧ (ymd (a / 86400)).2.1 = (ymd (b / 86400)).2.1 ∧ (ymd (a / 86400)).2.2 = (ymd (b / 86400)).2.2 ∧ a % 86400 / 3600 = b % 86400 / 3600 ∧ a % 86400 % 3600 / 60 = b % 86400 % 3600 / 60 ∧ a % 86400 % 60 = b % 86400 % 60) := fun ⟨k1, k2, k3, k4, k5, k6⟩ => by
    have e : a / 86400 = b / 86400 := by rw [← ea, ← eb, k1, k2, k3]
    omega
  unfold Lt6 at h3 ⊢
  generalize (ymd (a / 86400)).1 = A1 at *
  generalize (ymd (a / 86400)).2.1 = A2 at *
  generalize (ymd (a / 86400)).2.2 = A3 at *
  generalize (ymd (b / 86400)).1 = B1 at *
  generalize (ymd (b / 86400)).2.1 = B2 at *
  generalize (ymd (b / 86400)).2.2 = B3 at *
  generalize a % 86400 / 3600 = A4 at *
  generalize a % 86400 % 3600 / 60 = A5 at *
  generalize a % 86400 % 60 = A6 at *
  generalize b % 86400 / 3600 = B4 at *
  generalize b % 86400 % 3600 / 60 = B5 at *
  generalize b % 86400 % 60 = B6 at *
  clear h2 ea eb
  by_cases c1 : A1 = B1
  · by_cases c2 : A2 = B2
    · by_cases c3 : A3 = B3
      · by_cases c4 : A4 = B4
        · by_cases c5 : A5 = B5
          · omega
          · omega
        · omega
      · omega
    · omega
  · omega

end Bs
end Go.Proofs.YticncpjpkgdnlaaGreatDoor

/-
  Dates as texts, plain: what is written is read, what is read was so written.
-/
set_option linter.unusedVariables false
set_option linter.unusedSimpArgs false
namespace Go.Proofs.YticncpjpkgdnlaaGreatDoor
namespace Bs

def dg (n : Nat) : UInt8 := UInt8.ofNat (48 + n % 10)
def d2 (n : Nat) : List UInt8 := [dg (n / 10), dg n]
def d4 (n : Nat) : List UInt8 := [dg (n / 1000), dg (n / 100), dg (n / 10), dg n]
def p2 (c : UInt8) (n : Nat) : List UInt8 := if n < 10 then [c, dg n] else d2 n
def clk (h i s : Nat) : List UInt8 := [32] ++ d2 h ++ [58] ++ d2 i ++ [58] ++ d2 s
/-- A date in a form: Y the year as it is written (four digits or two), dt the day. -/
def txt (form : Int) (Y m h i s k : Nat) (dt : List UInt8) : List UInt8 :=
  if form = 1 then longs.getD k [] ++ [44, 32] ++ dt ++ [45] ++ mons.getD (m - 1) [] ++ [45] ++ d2 Y ++ clk h i s ++ [32, 71, 77, 84]
  else if form = 2 then shorts.getD k [] ++ [32] ++ mons.getD (m - 1) [] ++ [32] ++ dt ++ clk h i s ++ [32] ++ d4 Y
  else shorts.getD k [] ++ [44, 32] ++ dt ++ [32] ++ mons.getD (m - 1) [] ++ [32] ++ d4 Y ++ clk h i s ++ [32, 71, 77, 84]
def wrS (form : Int) (y m d h i s k : Nat) : List UInt8 := txt form (if form = 1 then y % 100 else y) m h i s k (if form = 2 then p2 32 d else d2 d)
def writeR (t form : Int) : List UInt8 × Int :=
  if ¬ isM t then ([], 40) else if ¬ (0 ≤ form ∧ form < 3) then ([], 44)
  else (wrS form (ymd (t / 86400)).1.toNat (ymd (t / 86400)).2.1.toNat (ymd (t / 86400)).2.2.toNat (t % 86400 / 3600).toNat (t % 86400 % 3600 / 60).toNat (t % 86400 % 60).toNat (wday (t / 86400)).toNat, 0)

/- Digits. -/
theorem dg_nat (n : Nat) : (dg n).toNat = 48 + n % 10 := by
  unfold dg
  have : 48 + n % 10 < 256 := by omega
  simp [UInt8.toNat_ofNat, Nat.mod_eq_of_lt this]
theorem dg_dgt (n : Nat) : dgt (dg n) = true := by
  unfold dgt
  rw [dg_nat]
  simp
  omega
theorem dg_dv (n : Nat) : dv (dg n) = ((n % 10 : Nat) : Int) := by
  unfold dv
  rw [dg_nat]
  omega
theorem dg_inj {a b : Nat} (h : dg a = dg b) : a % 10 = b % 10 := by
  have := congrArg UInt8.toNat h
  rw [dg_nat, dg_nat] at this
  omega
theorem dg_of {c : UInt8} (h : dgt c = true) {n : Nat} (hn : (n % 10 : Nat) = (dv c).toNat) : dg n = c := by
  unfold dgt at h
  have h' := of_decide_eq_true h
  unfold dv at hn
  apply UInt8.toNat_inj.1
  rw [dg_nat]
  omega
theorem dv_r {c : UInt8} (h : dgt c = true) : 0 ≤ dv c ∧ dv c ≤ 9 := by
  unfold dgt at h
  have h' := of_decide_eq_true h
  unfold dv
  omega
theorem d2_inj {a b : Nat} (ha : a < 100) (hb : b < 100) (h : d2 a = d2 b) : a = b := by
  unfold d2 at h
  simp only [List.cons.injEq, and_true] at h
  have h1 := dg_inj h.1
  have h2 := dg_inj h.2
  omega
theorem d4_inj {a b : Nat} (ha : a < 10000) (hb : b < 10000) (h : d4 a = d4 b) : a = b := by
  unfold d4 at h
  simp only [List.cons.injEq, and_true] at h
  obtain ⟨h1, h2, h3, h4⟩ := h
  have h1 := dg_inj h1
  have h2 := dg_inj h2
  have h3 := dg_inj h3
  have h4 := dg_inj h4
  omega

/- At a place. -/
theorem drop_get {l : List UInt8} {a : Nat} {c : UInt8} {r : List UInt8} (h : l.drop a = c :: r) : l[a]? = some c ∧ l.drop (a + 1) = r := by
  have h1 : (l.drop a)[0]? = some c := by rw [h]; rfl
  rw [List.getElem?_drop] at h1
  refine ⟨by simpa using h1, ?_⟩
  have h2 : (l.drop a).drop 1 = r := by rw [h]; rfl
  rw [List.drop_drop] at h2
  exact h2
theorem get_drop {l : List UInt8} {a : Nat} {c : UInt8} (h : l[a]? = some c) : l.drop a = c :: l.drop (a + 1) := by
  have hl := (List.getElem?_eq_some_iff.1 h)
  obtain ⟨h1, h2⟩ := hl
  rw [List.drop_eq_getElem_cons h1, h2]
theorem drop_app {l p r : List UInt8} {a : Nat} (h : l.drop a = p ++ r) : l.drop (a + p.length) = r := by
  rw [← List.drop_drop, h, List.drop_left]

theorem exs_to {l : List UInt8} : ∀ {t r : List UInt8} {a : Nat}, l.drop a = t ++ r → exs l t a = .ok (a + t.length)
  | [], r, a, h => rfl
  | c :: t, r, a, h => by
    obtain ⟨h1, h2⟩ := drop_get (r := t ++ r) h
    unfold exs
    rw [if_pos h1, exs_to h2]
    simp only [List.length_cons]
    congr 1
    omega
theorem exs_of {l : List UInt8} : ∀ {t : List UInt8} {a b : Nat}, exs l t a = .ok b → b = a + t.length ∧ l.drop a = t ++ l.drop b
  | [], a, b, h => by
    cases h
    exact ⟨rfl, rfl⟩
  | c :: t, a, b, h => by
    unfold exs at h
    split at h
    · rename_i hc
      obtain ⟨h1, h2⟩ := exs_of h
      refine ⟨by simp only [List.length_cons]; omega, ?_⟩
      rw [get_drop hc, h2]
      rfl
    · cases h
theorem dgs_cons {l : List UInt8} {k a : Nat} {v : Int} {c : UInt8} (h : l[a]? = some c) (hd : dgt c = true) : dgs l (k + 1) a v = dgs l k (a + 1) (v * 10 + dv c) := by
  conv => lhs; unfold dgs
  simp only [h, hd, if_true]
theorem dgs_un {l : List UInt8} {k a : Nat} {v : Int} {r : Nat × Int} (h : dgs l (k + 1) a v = .ok r) : ∃ c, l[a]? = some c ∧ dgt c = true ∧ dgs l k (a + 1) (v * 10 + dv c) = .ok r := by
  unfold dgs at h
  split at h
  · rename_i c hc
    split at h
    · rename_i hd
      exact ⟨c, hc, hd, h⟩
    · cases h
  · cases h
theorem dgs1_to {l r : List UInt8} {a n : Nat} (hn : n < 10) (h : l.drop a = dg n :: r) : dgs l 1 a 0 = .ok (a + 1, (n : Int)) := by
  obtain ⟨h1, h2⟩ := drop_get h
  rw [dgs_cons h1 (dg_dgt _), dg_dv]
  unfold dgs
  congr 2
  omega
theorem dgs2_to {l r : List UInt8} {a n : Nat} (hn : n < 100) (h : l.drop a = d2 n ++ r) : dgs l 2 a 0 = .ok (a + 2, (n : Int)) := by
  obtain ⟨h1, h2⟩ := drop_get (r := dg n :: r) h
  obtain ⟨h3, h4⟩ := drop_get h2
  rw [dgs_cons h1 (dg_dgt _), dgs_cons h3 (dg_dgt _), dg_dv, dg_dv]
  unfold dgs
  congr 2
  omega
theorem dgs4_to {l r : List UInt8} {a n : Nat} (hn : n < 10000) (h : l.drop a = d4 n ++ r) : dgs l 4 a 0 = .ok (a + 4, (n : Int)) := by
  obtain ⟨h1, h2⟩ := drop_get (r := dg (n / 100) :: dg (n / 10) :: dg n :: r) h
  obtain ⟨h3, h4⟩ := drop_get h2
  obtain ⟨h5, h6⟩ := drop_get h4
  obtain ⟨h7, h8⟩ := drop_get h6
  rw [dgs_cons h1 (dg_dgt _), dgs_cons h3 (dg_dgt _), dgs_cons h5 (dg_dgt _), dgs_cons h7 (dg_dgt _), dg_dv, dg_dv, dg_dv, dg_dv]
  unfold dgs
  congr 2
  omega
theorem dgs1_of {l : List UInt8} {a b : Nat} {v : Int} (h : dgs l 1 a 0 = .ok (b, v)) : ∃ n : Nat, n < 10 ∧ v = (n : Int) ∧ b = a + 1 ∧ l.drop a = dg n :: l.drop b := by
  obtain ⟨c, h1, h2, h⟩ := dgs_un h
  unfold dgs at h
  cases h
  have r := dv_r h2
  refine ⟨(dv c).toNat, by omega, by omega, rfl, ?_⟩
  rw [get_drop h1, dg_of h2 (by omega)]
theorem dgs2_of {l : List UInt8} {a b : Nat} {v : Int} (h : dgs l 2 a 0 = .ok (b, v)) : ∃ n : Nat, n < 100 ∧ v = (n : Int) ∧ b = a + 2 ∧ l.drop a = d2 n ++ l.drop b := by
  obtain ⟨c, h1, h2, h⟩ := dgs_un h
  obtain ⟨c', h3, h4, h⟩ := dgs_un h
  unfold dgs at h
  cases h
  have r := dv_r h2
  have r' := dv_r h4
  refine ⟨(dv c).toNat * 10 + (dv c').toNat, by omega, by omega, rfl, ?_⟩
  rw [get_drop h1, get_drop h3]
  unfold d2
  rw [dg_of h2 (by omega), dg_of h4 (by omega)]
  rfl
theorem dgs4_of {l : List UInt8} {a b : Nat} {v : Int} (h : dgs l 4 a 0 = .ok (b, v)) : ∃ n : Nat, n < 10000 ∧ v = (n : Int) ∧ b = a + 4 ∧ l.drop a = d4 n ++ l.drop b := by
  obtain ⟨c, h1, h2, h⟩ := dgs_un h
  obtain ⟨c', h3, h4, h⟩ := dgs_un h
  obtain ⟨c'', h5, h6, h⟩ := dgs_un h
  obtain ⟨c3, h7, h8, h⟩ := dgs_un h
  unfold dgs at h
  cases h
  have r := dv_r h2
  have r' := dv_r h4
  have r'' := dv_r h6
  have r3 := dv_r h8
  refine ⟨(dv c).toNat * 1000 + (dv c').toNat * 100 + (dv c'').toNat * 10 + (dv c3).toNat, by omega, by omega, rfl, ?_⟩
  rw [get_drop h1, get_drop h3, get_drop h5, get_drop h7]
  unfold d4
  rw [dg_of h2 (by omega), dg_of h4 (by omega), dg_of h6 (by omega), dg_of h8 (by omega)]
  rfl

/- Names. -/
theorem hp_app {l t : List UInt8} (h : hp l t = true) : l = t ++ l.drop t.length := by
  have := of_decide_eq_true h
  conv => lhs; rw [← List.take_append_drop t.length l, this]
theorem hp_self (t r : List UInt8) : hp (t ++ r) t = true := by
  unfold hp
  simp
theorem nam_of {l : List UInt8} {a i : Nat} {ns : List (List UInt8)} (h : nam l a ns = some i) : i < ns.length ∧ l.drop a = ns.getD i [] ++ l.drop (a + (ns.getD i []).length) := by
  unfold nam at h
  obtain ⟨hi, hh, _⟩ := List.findIdx?_eq_some_iff_getElem.1 h
  have e : ns.getD i [] = ns[i] := by rw [List.getD_eq_getElem?_getD, List.getElem?_eq_getElem hi]; rfl
  refine ⟨hi, ?_⟩
  rw [e]
  have := hp_app hh
  rw [List.drop_drop] at this
  exact this
theorem nam_to {l r : List UInt8} {a i : Nat} {ns : List (List UInt8)} (hi : i < ns.length) (hns : ∀ j, j < i → hp (ns.getD i [] ++ r) (ns.getD j []) = false) (h : l.drop a = ns.getD i [] ++ r) : nam l a ns = some i := by
  unfold nam
  rw [List.findIdx?_eq_some_iff_getElem]
  have e : ∀ j (hj : j < ns.length), ns.getD j [] = ns[j] := fun j hj => by rw [List.getD_eq_getElem?_getD, List.getElem?_eq_getElem hj]; rfl
  refine ⟨hi, by rw [h, e i hi]; exact hp_self _ _, fun j hj => ?_⟩
  rw [h, ← e j (by omega), hns j hj]
  simp
theorem hp_ne {x r t : List UInt8} (k : Nat) (hk : k ≤ x.length) (hk2 : k ≤ t.length) (h : x.take k ≠ t.take k) : hp (x ++ r) t = false := by
  unfold hp
  apply decide_eq_false
  intro e
  apply h
  have h1 : ((x ++ r).take t.length).take k = t.take k := by rw [e]
  rw [List.take_take, Nat.min_eq_left hk2, List.take_append_of_le_length hk] at h1
  exact h1
theorem shorts_ne : ∀ i j : Fin 7, j.val < i.val → (shorts.getD i.val []).take 3 ≠ (shorts.getD j.val []).take 3 := by decide
theorem longs_ne : ∀ i j : Fin 7, j.val < i.val → (longs.getD i.val []).take 2 ≠ (longs.getD j.val []).take 2 := by decide
theorem mons_ne : ∀ i j : Fin 12, j.val < i.val → (mons.getD i.val []).take 3 ≠ (mons.getD j.val []).take 3 := by decide
theorem shorts_n : ∀ i : Fin 7, (shorts.getD i.val []).length = 3 := by decide
theorem longs_n : ∀ i : Fin 7, 6 ≤ (longs.getD i.val []).length ∧ (longs.getD i.val []).length ≤ 9 := by decide
theorem mons_n : ∀ i : Fin 12, (mons.getD i.val []).length = 3 := by decide
theorem shorts_n' {i : Nat} (hi : i < 7) : (shorts.getD i []).length = 3 := shorts_n ⟨i, hi⟩
theorem longs_n' {i : Nat} (hi : i < 7) : 6 ≤ (longs.getD i []).length ∧ (longs.getD i []).length ≤ 9 := longs_n ⟨i, hi⟩
theorem mons_n' {i : Nat} (hi : i < 12) : (mons.getD i []).length = 3 := mons_n ⟨i, hi⟩
theorem short_to {l r : List UInt8} {a i : Nat} (hi : i < 7) (h : l.drop a = shorts.getD i [] ++ r) : nam l a (nms 0) = some i :=
  nam_to (ns := shorts) hi (fun j hj => hp_ne 3 (by have := shorts_n' hi; omega) (by have := shorts_n' (i := j) (by omega); omega) (shorts_ne ⟨i, hi⟩ ⟨j, by omega⟩ hj)) h
theorem long_to {l r : List UInt8} {a i : Nat} (hi : i < 7) (h : l.drop a = longs.getD i [] ++ r) : nam l a (nms 1) = some i :=
  nam_to (ns := longs) hi (fun j hj => hp_ne 2 (by have := longs_n' hi; omega) (by have := longs_n' (i := j) (by omega); omega) (longs_ne ⟨i, hi⟩ ⟨j, by omega⟩ hj)) h
theorem mon_to {l r : List UInt8} {a i : Nat} (hi : i < 12) (h : l.drop a = mons.getD i [] ++ r) : nam l a (nms 2) = some i :=
  nam_to (ns := mons) hi (fun j hj => hp_ne 3 (by have := mons_n' hi; omega) (by have := mons_n' (i := j) (by omega); omega) (mons_ne ⟨i, hi⟩ ⟨j, by omega⟩ hj)) h

/- Takers, forth. -/
theorem takes_cons {l : List UInt8} {t : TK} {ts : List TK} {a b : Nat} {st st' : List Int} (h : take1 l a st t = .ok (b, st')) : takes l (t :: ts) a st = takes l ts b st' := by
  conv => lhs; unfold takes
  rw [h]
theorem tk_ex {l t r : List UInt8} {a : Nat} {st : List Int} {ts : List TK} (h : l.drop a = t ++ r) : takes l (.ex t :: ts) a st = takes l ts (a + t.length) st ∧ l.drop (a + t.length) = r := by
  refine ⟨?_, drop_app h⟩
  exact takes_cons (by simp only [take1, exs_to h])
theorem tk_d2 {l r : List UInt8} {a f n : Nat} {st : List Int} {ts : List TK} (hn : n < 100) (h : l.drop a = d2 n ++ r) : takes l (.dg 2 f :: ts) a st = takes l ts (a + 2) (put st f n a) ∧ l.drop (a + 2) = r := by
  refine ⟨?_, drop_app h⟩
  exact takes_cons (by simp only [take1, dgs2_to hn h])
theorem tk_d4 {l r : List UInt8} {a f n : Nat} {st : List Int} {ts : List TK} (hn : n < 10000) (h : l.drop a = d4 n ++ r) : takes l (.dg 4 f :: ts) a st = takes l ts (a + 4) (put st f n a) ∧ l.drop (a + 4) = r := by
  refine ⟨?_, drop_app h⟩
  exact takes_cons (by simp only [take1, dgs4_to hn h])
theorem tk_nm {l r : List UInt8} {a f k i : Nat} {st : List Int} {ts : List TK} (hn : nam l a (nms k) = some i) (h : l.drop a = (nms k).getD i [] ++ r) : takes l (.nm k f :: ts) a st = takes l ts (a + ((nms k).getD i []).length) (put st f i a) ∧ l.drop (a + ((nms k).getD i []).length) = r := by
  refine ⟨?_, drop_app h⟩
  exact takes_cons (by simp only [take1, hn])
theorem tk_lo {l r : List UInt8} {a f n : Nat} {st : List Int} {ts : List TK} (hn : n < 100) (h : l.drop a = p2 32 n ++ r ∨ l.drop a = d2 n ++ r) : takes l (.lo f :: ts) a st = takes l ts (a + 2) (put st f n a) ∧ l.drop (a + 2) = r := by
  have key : (n < 10 ∧ l.drop a = [32, dg n] ++ r) ∨ l.drop a = d2 n ++ r := by
    rcases h with h | h
    · unfold p2 at h
      split at h
      · exact .inl ⟨by assumption, h⟩
      · exact .inr h
    · exact .inr h
  rcases key with ⟨h1, h⟩ | h
  · obtain ⟨h2, h3⟩ := drop_get (r := dg n :: r) h
    refine ⟨?_, drop_app h⟩
    exact takes_cons (by simp only [take1, if_pos h2, dgs1_to h1 h3])
  · obtain ⟨h2, h3⟩ := drop_get (r := dg n :: r) h
    have hne : ¬ l[a]? = some 32 := by
      rw [h2]
      intro e
      have e2 : dg (n / 10) = 32 := Option.some.inj e
      have := dg_nat (n / 10)
      rw [e2] at this
      have : (32 : UInt8).toNat = 32 := rfl
      omega
    refine ⟨?_, drop_app h⟩
    exact takes_cons (by simp only [take1, if_neg hne, dgs2_to hn h])

end Bs
end Go.Proofs.YticncpjpkgdnlaaGreatDoor

/-
  A date's text is read, and says the date; a text that is read is such.
-/
set_option linter.unusedVariables false
set_option linter.unusedSimpArgs false
namespace Go.Proofs.YticncpjpkgdnlaaGreatDoor
namespace Bs

/-- The day's text says the day. -/
def DayT (form : Int) (d : Nat) (dt : List UInt8) : Prop := dt = d2 d ∨ (form = 2 ∧ d < 10 ∧ dt = [32, dg d])
theorem dayT_p2 {d : Nat} : DayT 2 d (p2 32 d) := by
  unfold p2
  split
  · exact .inr ⟨rfl, by assumption, rfl⟩
  · exact .inl rfl
theorem takes_nil (l : List UInt8) (a : Nat) (st : List Int) : takes l [] a st = .ok (a, st) := rfl
theorem drop_len {l : List UInt8} {a : Nat} (ha : a ≤ l.length) (h : l.drop a = []) : a = l.length := by
  have := List.drop_eq_nil_iff.1 h
  omega
theorem drop_le {l p r : List UInt8} {a : Nat} (ha : a ≤ l.length) (h : l.drop a = p ++ r) : a + p.length ≤ l.length := by
  have := congrArg List.length h
  rw [List.length_drop, List.length_append] at this
  omega

/- Back. -/
theorem takes_un {l : List UInt8} {t : TK} {ts : List TK} {a : Nat} {st : List Int} {r : Nat × List Int} (h : takes l (t :: ts) a st = .ok r) : ∃ b st', take1 l a st t = .ok (b, st') ∧ takes l ts b st' = .ok r := by
  unfold takes at h
  split at h
  · rename_i b st' e
    exact ⟨b, st', e, h⟩
  · cases h
theorem un_ex {l t : List UInt8} {ts : List TK} {a : Nat} {st : List Int} {r : Nat × List Int} (h : takes l (.ex t :: ts) a st = .ok r) : ∃ b, l.drop a = t ++ l.drop b ∧ takes l ts b st = .ok r := by
  obtain ⟨b, st', h1, h2⟩ := takes_un h
  simp only [take1] at h1
  split at h1
  · rename_i b' e
    cases h1
    exact ⟨_, (exs_of e).2, h2⟩
  · cases h1
theorem un_d2 {l : List UInt8} {f : Nat} {ts : List TK} {a : Nat} {st : List Int} {r : Nat × List Int} (h : takes l (.dg 2 f :: ts) a st = .ok r) : ∃ b n, n < 100 ∧ l.drop a = d2 n ++ l.drop b ∧ takes l ts b (put st f (n : Int) a) = .ok r := by
  obtain ⟨b, st', h1, h2⟩ := takes_un h
  simp only [take1] at h1
  split at h1
  · rename_i b' v e
    cases h1
    obtain ⟨n, hn, rfl, _, hd⟩ := dgs2_of e
    exact ⟨_, n, hn, hd, h2⟩
  · cases h1
theorem un_d4 {l : List UInt8} {f : Nat} {ts : List TK} {a : Nat} {st : List Int} {r : Nat × List Int} (h : takes l (.dg 4 f :: ts) a st = .ok r) : ∃ b n, n < 10000 ∧ l.drop a = d4 n ++ l.drop b ∧ takes l ts b (put st f (n : Int) a) = .ok r := by
  obtain ⟨b, st', h1, h2⟩ := takes_un h
  simp only [take1] at h1
  split at h1
  · rename_i b' v e
    cases h1
    obtain ⟨n, hn, rfl, _, hd⟩ := dgs4_of e
    exact ⟨_, n, hn, hd, h2⟩
  · cases h1
theorem un_nm {l : List UInt8} {k f : Nat} {ts : List TK} {a : Nat} {st : List Int} {r : Nat × List Int} (h : takes l (.nm k f :: ts) a st = .ok r) : ∃ b i, i < (nms k).length ∧ l.drop a = (nms k).getD i [] ++ l.drop b ∧ takes l ts b (put st f (i : Int) a) = .ok r := by
  obtain ⟨b, st', h1, h2⟩ := takes_un h
  simp only [take1] at h1
  split at h1
  · rename_i i e
    cases h1
    obtain ⟨hi, hd⟩ := nam_of e
    exact ⟨_, i, hi, hd, h2⟩
  · cases h1
theorem un_lo {l : List UInt8} {f : Nat} {ts : List TK} {a : Nat} {st : List Int} {r : Nat × List Int} (h : takes l (.lo f :: ts) a st = .ok r) : ∃ b n dt, n < 100 ∧ DayT 2 n dt ∧ l.drop a = dt ++ l.drop b ∧ takes l ts b (put st f (n : Int) a) = .ok r := by
  obtain ⟨b, st', h1, h2⟩ := takes_un h
  simp only [take1] at h1
  split at h1
  · rename_i hb
    split at h1
    · rename_i b' v e
      cases h1
      obtain ⟨n, hn, rfl, _, hd⟩ := dgs1_of e
      exact ⟨_, n, [32, dg n], by omega, .inr ⟨rfl, hn, rfl⟩, by rw [get_drop hb, hd]; rfl, h2⟩
    · cases h1
  · split at h1
    · rename_i b' v e
      cases h1
      obtain ⟨n, hn, rfl, _, hd⟩ := dgs2_of e
      exact ⟨_, n, d2 n, hn, .inl rfl, hd, h2⟩
    · cases h1

theorem takes_F {l : List UInt8} {Y m h i s k d : Nat} (hY : Y < 10000) (hm : m < 12) (hd : d < 100) (hh : h < 100) (hi : i < 100) (hs : s < 100) (hk : k < 7)
    (x0 : l = shorts.getD k [] ++ ([44, 32] ++ (d2 d ++ ([32] ++ (mons.getD m [] ++ ([32] ++ (d4 Y ++ ([32] ++ (d2 h ++ ([58] ++ (d2 i ++ ([58] ++ (d2 s ++ ([32, 71, 77, 84] ++ [])))))))))))))) :
    ∃ p0 p1 q2 p3 p4 p5 p6 : Int, takes l tkF 0 z14 = .ok (l.length, [(k : Int), p0, (d : Int), p1, (m : Int), q2, (Y : Int), p3, (h : Int), p4, (i : Int), p5, (s : Int), p6]) := by
  have x0 : l.drop 0 = shorts.getD k [] ++ ([44, 32] ++ (d2 d ++ ([32] ++ (mons.getD m [] ++ ([32] ++ (d4 Y ++ ([32] ++ (d2 h ++ ([58] ++ (d2 i ++ ([58] ++ (d2 s ++ ([32, 71, 77, 84] ++ []))))))))))))) := x0
  have n0 : 0 ≤ l.length := Nat.zero_le _
  unfold tkF
  rw [(tk_nm (k := 0) (short_to hk x0) x0).1]
  have x1 : l.drop (0 + ((nms 0).getD k []).length) = [44, 32] ++ (d2 d ++ ([32] ++ (mons.getD m [] ++ ([32] ++ (d4 Y ++ ([32] ++ (d2 h ++ ([58] ++ (d2 i ++ ([58] ++ (d2 s ++ ([32, 71, 77, 84] ++ [])))))))))))) := drop_app x0
  have n1 : 0 + ((nms 0).getD k []).length ≤ l.length := drop_le n0 x0
  clear x0 n0
  generalize 0 + ((nms 0).getD k []).length = a1 at *
  rw [(tk_ex x1).1]
  have x2 : l.drop (a1 + ([44, 32] : List UInt8).length) = d2 d ++ ([32] ++ (mons.getD m [] ++ ([32] ++ (d4 Y ++ ([32] ++ (d2 h ++ ([58] ++ (d2 i ++ ([58] ++ (d2 s ++ ([32, 71, 77, 84] ++ []))))))))))) := drop_app x1
  have n2 : a1 + ([44, 32] : List UInt8).length ≤ l.length := drop_le n1 x1
  clear x1 n1
  generalize a1 + ([44, 32] : List UInt8).length = a2 at *
  rw [(tk_d2 hd x2).1]
  have x3 : l.drop (a2 + 2) = [32] ++ (mons.getD m [] ++ ([32] ++ (d4 Y ++ ([32] ++ (d2 h ++ ([58] ++ (d2 i ++ ([58] ++ (d2 s ++ ([32, 71, 77, 84] ++ [])))))))))) := drop_app x2
  have n3 : a2 + 2 ≤ l.length := drop_le n2 x2
  clear x2 n2
  generalize a2 + 2 = a3 at *
  rw [(tk_ex x3).1]
  have x4 : l.drop (a3 + ([32] : List UInt8).length) = mons.getD m [] ++ ([32] ++ (d4 Y ++ ([32] ++ (d2 h ++ ([58] ++ (d2 i ++ ([58] ++ (d2 s ++ ([32, 71, 77, 84] ++ []))))))))) := drop_app x3
  have n4 : a3 + ([32] : List UInt8).length ≤ l.length := drop_le n3 x3
  clear x3 n3
  generalize a3 + ([32] : List UInt8).length = a4 at *
  rw [(tk_nm (k := 2) (mon_to hm x4) x4).1]
  have x5 : l.drop (a4 + ((nms 2).getD m []).length) = [32] ++ (d4 Y ++ ([32] ++ (d2 h ++ ([58] ++ (d2 i ++ ([58] ++ (d2 s ++ ([32, 71, 77, 84] ++ [])))))))) := drop_app x4
  have n5 : a4 + ((nms 2).getD m []).length ≤ l.length := drop_le n4 x4
  clear x4 n4
  generalize a4 + ((nms 2).getD m []).length = a5 at *
  rw [(tk_ex x5).1]
  have x6 : l.drop (a5 + ([32] : List UInt8).length) = d4 Y ++ ([32] ++ (d2 h ++ ([58] ++ (d2 i ++ ([58] ++ (d2 s ++ ([32, 71, 77, 84] ++ []))))))) := drop_app x5
  have n6 : a5 + ([32] : List UInt8).length ≤ l.length := drop_le n5 x5
  clear x5 n5
  generalize a5 + ([32] : List UInt8).length = a6 at *
  rw [(tk_d4 hY x6).1]
  have x7 : l.drop (a6 + 4) = [32] ++ (d2 h ++ ([58] ++ (d2 i ++ ([58] ++ (d2 s ++ ([32, 71, 77, 84] ++ [])))))) := drop_app x6
  have n7 : a6 + 4 ≤ l.length := drop_le n6 x6
  clear x6 n6
  generalize a6 + 4 = a7 at *
  rw [(tk_ex x7).1]
  have x8 : l.drop (a7 + ([32] : List UInt8).length) = d2 h ++ ([58] ++ (d2 i ++ ([58] ++ (d2 s ++ ([32, 71, 77, 84] ++ []))))) := drop_app x7
  have n8 : a7 + ([32] : List UInt8).length ≤ l.length := drop_le n7 x7
  clear x7 n7
  generalize a7 + ([32] : List UInt8).length = a8 at *
  rw [(tk_d2 hh x8).1]
  have x9 : l.drop (a8 + 2) = [58] ++ (d2 i ++ ([58] ++ (d2 s ++ ([32, 71, 77, 84] ++ [])))) := drop_app x8
  have n9 : a8 + 2 ≤ l.length := drop_le n8 x8
  clear x8 n8
  generalize a8 + 2 = a9 at *
  rw [(tk_ex x9).1]
  have x10 : l.drop (a9 + ([58] : List UInt8).length) = d2 i ++ ([58] ++ (d2 s ++ ([32, 71, 77, 84] ++ []))) := drop_app x9
  have n10 : a9 + ([58] : List UInt8).length ≤ l.length := drop_le n9 x9
  clear x9 n9
  generalize a9 + ([58] : List UInt8).length = a10 at *
  rw [(tk_d2 hi x10).1]
  have x11 : l.drop (a10 + 2) = [58] ++ (d2 s ++ ([32, 71, 77, 84] ++ [])) := drop_app x10
  have n11 : a10 + 2 ≤ l.length := drop_le n10 x10
  clear x10 n10
  generalize a10 + 2 = a11 at *
  rw [(tk_ex x11).1]
  have x12 : l.drop (a11 + ([58] : List UInt8).length) = d2 s ++ ([32, 71, 77, 84] ++ []) := drop_app x11
  have n12 : a11 + ([58] : List UInt8).length ≤ l.length := drop_le n11 x11
  clear x11 n11
  generalize a11 + ([58] : List UInt8).length = a12 at *
  rw [(tk_d2 hs x12).1]
  have x13 : l.drop (a12 + 2) = [32, 71, 77, 84] ++ [] := drop_app x12
  have n13 : a12 + 2 ≤ l.length := drop_le n12 x12
  clear x12 n12
  generalize a12 + 2 = a13 at *
  rw [(tk_ex x13).1]
  have x14 : l.drop (a13 + ([32, 71, 77, 84] : List UInt8).length) = [] := drop_app x13
  have n14 : a13 + ([32, 71, 77, 84] : List UInt8).length ≤ l.length := drop_le n13 x13
  clear x13 n13
  rw [takes_nil, drop_len n14 x14]
  exact ⟨_, _, _, _, _, _, _, rfl⟩

theorem takes_F' {l : List UInt8} {e : Nat} {st : List Int} (h : takes l tkF 0 z14 = .ok (e, st)) (he : e = l.length) :
    ∃ (Y m h i s k d : Nat) (p0 p1 q2 p3 p4 p5 p6 : Int), Y < 10000 ∧ m < 12 ∧ d < 100 ∧ h < 100 ∧ i < 100 ∧ s < 100 ∧ k < 7 ∧ st = [(k : Int), p0, (d : Int), p1, (m : Int), q2, (Y : Int), p3, (h : Int), p4, (i : Int), p5, (s : Int), p6] ∧ l = shorts.getD k [] ++ ([44, 32] ++ (d2 d ++ ([32] ++ (mons.getD m [] ++ ([32] ++ (d4 Y ++ ([32] ++ (d2 h ++ ([58] ++ (d2 i ++ ([58] ++ (d2 s ++ ([32, 71, 77, 84] ++ []))))))))))))) := by
  unfold tkF at h
  obtain ⟨a1, k, hk, x0, h⟩ := un_nm h
  obtain ⟨a2, x1, h⟩ := un_ex h
  obtain ⟨a3, d, hd, x2, h⟩ := un_d2 h
  obtain ⟨a4, x3, h⟩ := un_ex h
  obtain ⟨a5, m, hm, x4, h⟩ := un_nm h
  obtain ⟨a6, x5, h⟩ := un_ex h
  obtain ⟨a7, Y, hY, x6, h⟩ := un_d4 h
  obtain ⟨a8, x7, h⟩ := un_ex h
  obtain ⟨a9, hr, hh, x8, h⟩ := un_d2 h
  obtain ⟨a10, x9, h⟩ := un_ex h
  obtain ⟨a11, i, hi, x10, h⟩ := un_d2 h
  obtain ⟨a12, x11, h⟩ := un_ex h
  obtain ⟨a13, s, hs, x12, h⟩ := un_d2 h
  obtain ⟨a14, x13, h⟩ := un_ex h
  rw [takes_nil] at h
  cases h
  have xe : l.drop e = [] := List.drop_eq_nil_iff.2 (by omega)
  rw [xe] at x13
  rw [x13] at x12
  rw [x12] at x11
  rw [x11] at x10
  rw [x10] at x9
  rw [x9] at x8
  rw [x8] at x7
  rw [x7] at x6
  rw [x6] at x5
  rw [x5] at x4
  rw [x4] at x3
  rw [x3] at x2
  rw [x2] at x1
  rw [x1] at x0
  exact ⟨Y, m, hr, i, s, k, d, _, _, _, _, _, _, _, hY, hm, hd, hh, hi, hs, hk, rfl, x0⟩

theorem takes_L {l : List UInt8} {Y m h i s k d : Nat} (hY : Y < 100) (hm : m < 12) (hd : d < 100) (hh : h < 100) (hi : i < 100) (hs : s < 100) (hk : k < 7)
    (x0 : l = longs.getD k [] ++ ([44, 32] ++ (d2 d ++ ([45] ++ (mons.getD m [] ++ ([45] ++ (d2 Y ++ ([32] ++ (d2 h ++ ([58] ++ (d2 i ++ ([58] ++ (d2 s ++ ([32, 71, 77, 84] ++ [])))))))))))))) :
    ∃ p0 p1 q2 p3 p4 p5 p6 : Int, takes l tkL 0 z14 = .ok (l.length, [(k : Int), p0, (d : Int), p1, (m : Int), q2, (Y : Int), p3, (h : Int), p4, (i : Int), p5, (s : Int), p6]) := by
  have x0 : l.drop 0 = longs.getD k [] ++ ([44, 32] ++ (d2 d ++ ([45] ++ (mons.getD m [] ++ ([45] ++ (d2 Y ++ ([32] ++ (d2 h ++ ([58] ++ (d2 i ++ ([58] ++ (d2 s ++ ([32, 71, 77, 84] ++ []))))))))))))) := x0
  have n0 : 0 ≤ l.length := Nat.zero_le _
  unfold tkL
  rw [(tk_nm (k := 1) (long_to hk x0) x0).1]
  have x1 : l.drop (0 + ((nms 1).getD k []).length) = [44, 32] ++ (d2 d ++ ([45] ++ (mons.getD m [] ++ ([45] ++ (d2 Y ++ ([32] ++ (d2 h ++ ([58] ++ (d2 i ++ ([58] ++ (d2 s ++ ([32, 71, 77, 84] ++ [])))))))))))) := drop_app x0
  have n1 : 0 + ((nms 1).getD k []).length ≤ l.length := drop_le n0 x0
  clear x0 n0
  generalize 0 + ((nms 1).getD k []).length = a1 at *
  rw [(tk_ex x1).1]
  have x2 : l.drop (a1 + ([44, 32] : List UInt8).length) = d2 d ++ ([45] ++ (mons.getD m [] ++ ([45] ++ (d2 Y ++ ([32] ++ (d2 h ++ ([58] ++ (d2 i ++ ([58] ++ (d2 s ++ ([32, 71, 77, 84] ++ []))))))))))) := drop_app x1
  have n2 : a1 + ([44, 32] : List UInt8).length ≤ l.length := drop_le n1 x1
  clear x1 n1
  generalize a1 + ([44, 32] : List UInt8).length = a2 at *
  rw [(tk_d2 hd x2).1]
  have x3 : l.drop (a2 + 2) = [45] ++ (mons.getD m [] ++ ([45] ++ (d2 Y ++ ([32] ++ (d2 h ++ ([58] ++ (d2 i ++ ([58] ++ (d2 s ++ ([32, 71, 77, 84] ++ [])))))))))) := drop_app x2
  have n3 : a2 + 2 ≤ l.length := drop_le n2 x2
  clear x2 n2
  generalize a2 + 2 = a3 at *
  rw [(tk_ex x3).1]
  have x4 : l.drop (a3 + ([45] : List UInt8).length) = mons.getD m [] ++ ([45] ++ (d2 Y ++ ([32] ++ (d2 h ++ ([58] ++ (d2 i ++ ([58] ++ (d2 s ++ ([32, 71, 77, 84] ++ []))))))))) := drop_app x3
  have n4 : a3 + ([45] : List UInt8).length ≤ l.length := drop_le n3 x3
  clear x3 n3
  generalize a3 + ([45] : List UInt8).length = a4 at *
  rw [(tk_nm (k := 2) (mon_to hm x4) x4).1]
  have x5 : l.drop (a4 + ((nms 2).getD m []).length) = [45] ++ (d2 Y ++ ([32] ++ (d2 h ++ ([58] ++ (d2 i ++ ([58] ++ (d2 s ++ ([32, 71, 77, 84] ++ [])))))))) := drop_app x4
  have n5 : a4 + ((nms 2).getD m []).length ≤ l.length := drop_le n4 x4
  clear x4 n4
  generalize a4 + ((nms 2).getD m []).length = a5 at *
  rw [(tk_ex x5).1]
  have x6 : l.drop (a5 + ([45] : List UInt8).length) = d2 Y ++ ([32] ++ (d2 h ++ ([58] ++ (d2 i ++ ([58] ++ (d2 s ++ ([32, 71, 77, 84] ++ []))))))) := drop_app x5
  have n6 : a5 + ([45] : List UInt8).length ≤ l.length := drop_le n5 x5
  clear x5 n5
  generalize a5 + ([45] : List UInt8).length = a6 at *
  rw [(tk_d2 hY x6).1]
  have x7 : l.drop (a6 + 2) = [32] ++ (d2 h ++ ([58] ++ (d2 i ++ ([58] ++ (d2 s ++ ([32, 71, 77, 84] ++ [])))))) := drop_app x6
  have n7 : a6 + 2 ≤ l.length := drop_le n6 x6
  clear x6 n6
  generalize a6 + 2 = a7 at *
  rw [(tk_ex x7).1]
  have x8 : l.drop (a7 + ([32] : List UInt8).length) = d2 h ++ ([58] ++ (d2 i ++ ([58] ++ (d2 s ++ ([32, 71, 77, 84] ++ []))))) := drop_app x7
  have n8 : a7 + ([32] : List UInt8).length ≤ l.length := drop_le n7 x7
  clear x7 n7
  generalize a7 + ([32] : List UInt8).length = a8 at *
  rw [(tk_d2 hh x8).1]
  have x9 : l.drop (a8 + 2) = [58] ++ (d2 i ++ ([58] ++ (d2 s ++ ([32, 71, 77, 84] ++ [])))) := drop_app x8
  have n9 : a8 + 2 ≤ l.length := drop_le n8 x8
  clear x8 n8
  generalize a8 + 2 = a9 at *
  rw [(tk_ex x9).1]
  have x10 : l.drop (a9 + ([58] : List UInt8).length) = d2 i ++ ([58] ++ (d2 s ++ ([32, 71, 77, 84] ++ []))) := drop_app x9
  have n10 : a9 + ([58] : List UInt8).length ≤ l.length := drop_le n9 x9
  clear x9 n9
  generalize a9 + ([58] : List UInt8).length = a10 at *
  rw [(tk_d2 hi x10).1]
  have x11 : l.drop (a10 + 2) = [58] ++ (d2 s ++ ([32, 71, 77, 84] ++ [])) := drop_app x10
  have n11 : a10 + 2 ≤ l.length := drop_le n10 x10
  clear x10 n10
  generalize a10 + 2 = a11 at *
  rw [(tk_ex x11).1]
  have x12 : l.drop (a11 + ([58] : List UInt8).length) = d2 s ++ ([32, 71, 77, 84] ++ []) := drop_app x11
  have n12 : a11 + ([58] : List UInt8).length ≤ l.length := drop_le n11 x11
  clear x11 n11
  generalize a11 + ([58] : List UInt8).length = a12 at *
  rw [(tk_d2 hs x12).1]
  have x13 : l.drop (a12 + 2) = [32, 71, 77, 84] ++ [] := drop_app x12
  have n13 : a12 + 2 ≤ l.length := drop_le n12 x12
  clear x12 n12
  generalize a12 + 2 = a13 at *
  rw [(tk_ex x13).1]
  have x14 : l.drop (a13 + ([32, 71, 77, 84] : List UInt8).length) = [] := drop_app x13
  have n14 : a13 + ([32, 71, 77, 84] : List UInt8).length ≤ l.length := drop_le n13 x13
  clear x13 n13
  rw [takes_nil, drop_len n14 x14]
  exact ⟨_, _, _, _, _, _, _, rfl⟩

theorem takes_L' {l : List UInt8} {e : Nat} {st : List Int} (h : takes l tkL 0 z14 = .ok (e, st)) (he : e = l.length) :
    ∃ (Y m h i s k d : Nat) (p0 p1 q2 p3 p4 p5 p6 : Int), Y < 100 ∧ m < 12 ∧ d < 100 ∧ h < 100 ∧ i < 100 ∧ s < 100 ∧ k < 7 ∧ st = [(k : Int), p0, (d : Int), p1, (m : Int), q2, (Y : Int), p3, (h : Int), p4, (i : Int), p5, (s : Int), p6] ∧ l = longs.getD k [] ++ ([44, 32] ++ (d2 d ++ ([45] ++ (mons.getD m [] ++ ([45] ++ (d2 Y ++ ([32] ++ (d2 h ++ ([58] ++ (d2 i ++ ([58] ++ (d2 s ++ ([32, 71, 77, 84] ++ []))))))))))))) := by
  unfold tkL at h
  obtain ⟨a1, k, hk, x0, h⟩ := un_nm h
  obtain ⟨a2, x1, h⟩ := un_ex h
  obtain ⟨a3, d, hd, x2, h⟩ := un_d2 h
  obtain ⟨a4, x3, h⟩ := un_ex h
  obtain ⟨a5, m, hm, x4, h⟩ := un_nm h
  obtain ⟨a6, x5, h⟩ := un_ex h
  obtain ⟨a7, Y, hY, x6, h⟩ := un_d2 h
  obtain ⟨a8, x7, h⟩ := un_ex h
  obtain ⟨a9, hr, hh, x8, h⟩ := un_d2 h
  obtain ⟨a10, x9, h⟩ := un_ex h
  obtain ⟨a11, i, hi, x10, h⟩ := un_d2 h
  obtain ⟨a12, x11, h⟩ := un_ex h
  obtain ⟨a13, s, hs, x12, h⟩ := un_d2 h
  obtain ⟨a14, x13, h⟩ := un_ex h
  rw [takes_nil] at h
  cases h
  have xe : l.drop e = [] := List.drop_eq_nil_iff.2 (by omega)
  rw [xe] at x13
  rw [x13] at x12
  rw [x12] at x11
  rw [x11] at x10
  rw [x10] at x9
  rw [x9] at x8
  rw [x8] at x7
  rw [x7] at x6
  rw [x6] at x5
  rw [x5] at x4
  rw [x4] at x3
  rw [x3] at x2
  rw [x2] at x1
  rw [x1] at x0
  exact ⟨Y, m, hr, i, s, k, d, _, _, _, _, _, _, _, hY, hm, hd, hh, hi, hs, hk, rfl, x0⟩

theorem takes_P {l : List UInt8} {Y m h i s k d : Nat} {dt : List UInt8} (hY : Y < 10000) (hm : m < 12) (hd : d < 100) (hh : h < 100) (hi : i < 100) (hs : s < 100) (hk : k < 7) (hdt : DayT 2 d dt)
    (x0 : l = shorts.getD k [] ++ ([32] ++ (mons.getD m [] ++ ([32] ++ (dt ++ ([32] ++ (d2 h ++ ([58] ++ (d2 i ++ ([58] ++ (d2 s ++ ([32] ++ (d4 Y ++ []))))))))))))) :
    ∃ p0 p1 q2 p3 p4 p5 p6 : Int, takes l tkP 0 z14 = .ok (l.length, [(k : Int), p0, (d : Int), p1, (m : Int), q2, (Y : Int), p3, (h : Int), p4, (i : Int), p5, (s : Int), p6]) := by
  have x0 : l.drop 0 = shorts.getD k [] ++ ([32] ++ (mons.getD m [] ++ ([32] ++ (dt ++ ([32] ++ (d2 h ++ ([58] ++ (d2 i ++ ([58] ++ (d2 s ++ ([32] ++ (d4 Y ++ [])))))))))))) := x0
  have n0 : 0 ≤ l.length := Nat.zero_le _
  unfold tkP
  have hdt' : ∀ {a : Nat} {r : List UInt8}, l.drop a = dt ++ r → l.drop a = p2 32 d ++ r ∨ l.drop a = d2 d ++ r := fun {a r} e => by
    rcases hdt with rfl | ⟨_, h10, rfl⟩
    · exact .inr e
    · exact .inl (by rw [e]; unfold p2; rw [if_pos h10])
  have hdl : dt.length = 2 := by
    rcases hdt with rfl | ⟨_, h10, rfl⟩ <;> rfl
  rw [(tk_nm (k := 0) (short_to hk x0) x0).1]
  have x1 : l.drop (0 + ((nms 0).getD k []).length) = [32] ++ (mons.getD m [] ++ ([32] ++ (dt ++ ([32] ++ (d2 h ++ ([58] ++ (d2 i ++ ([58] ++ (d2 s ++ ([32] ++ (d4 Y ++ []))))))))))) := drop_app x0
  have n1 : 0 + ((nms 0).getD k []).length ≤ l.length := drop_le n0 x0
  clear x0 n0
  generalize 0 + ((nms 0).getD k []).length = a1 at *
  rw [(tk_ex x1).1]
  have x2 : l.drop (a1 + ([32] : List UInt8).length) = mons.getD m [] ++ ([32] ++ (dt ++ ([32] ++ (d2 h ++ ([58] ++ (d2 i ++ ([58] ++ (d2 s ++ ([32] ++ (d4 Y ++ [])))))))))) := drop_app x1
  have n2 : a1 + ([32] : List UInt8).length ≤ l.length := drop_le n1 x1
  clear x1 n1
  generalize a1 + ([32] : List UInt8).length = a2 at *
  rw [(tk_nm (k := 2) (mon_to hm x2) x2).1]
  have x3 : l.drop (a2 + ((nms 2).getD m []).length) = [32] ++ (dt ++ ([32] ++ (d2 h ++ ([58] ++ (d2 i ++ ([58] ++ (d2 s ++ ([32] ++ (d4 Y ++ []))))))))) := drop_app x2
  have n3 : a2 + ((nms 2).getD m []).length ≤ l.length := drop_le n2 x2
  clear x2 n2
  generalize a2 + ((nms 2).getD m []).length = a3 at *
  rw [(tk_ex x3).1]
  have x4 : l.drop (a3 + ([32] : List UInt8).length) = dt ++ ([32] ++ (d2 h ++ ([58] ++ (d2 i ++ ([58] ++ (d2 s ++ ([32] ++ (d4 Y ++ [])))))))) := drop_app x3
  have n4 : a3 + ([32] : List UInt8).length ≤ l.length := drop_le n3 x3
  clear x3 n3
  generalize a3 + ([32] : List UInt8).length = a4 at *
  rw [(tk_lo hd (hdt' x4)).1]
  have x5 := drop_app x4
  have n5 := drop_le n4 x4
  rw [hdl] at x5 n5
  clear x4 n4
  generalize a4 + 2 = a5 at *
  rw [(tk_ex x5).1]
  have x6 : l.drop (a5 + ([32] : List UInt8).length) = d2 h ++ ([58] ++ (d2 i ++ ([58] ++ (d2 s ++ ([32] ++ (d4 Y ++ [])))))) := drop_app x5
  have n6 : a5 + ([32] : List UInt8).length ≤ l.length := drop_le n5 x5
  clear x5 n5
  generalize a5 + ([32] : List UInt8).length = a6 at *
  rw [(tk_d2 hh x6).1]
  have x7 : l.drop (a6 + 2) = [58] ++ (d2 i ++ ([58] ++ (d2 s ++ ([32] ++ (d4 Y ++ []))))) := drop_app x6
  have n7 : a6 + 2 ≤ l.length := drop_le n6 x6
  clear x6 n6
  generalize a6 + 2 = a7 at *
  rw [(tk_ex x7).1]
  have x8 : l.drop (a7 + ([58] : List UInt8).length) = d2 i ++ ([58] ++ (d2 s ++ ([32] ++ (d4 Y ++ [])))) := drop_app x7
  have n8 : a7 + ([58] : List UInt8).length ≤ l.length := drop_le n7 x7
  clear x7 n7
  generalize a7 + ([58] : List UInt8).length = a8 at *
  rw [(tk_d2 hi x8).1]
  have x9 : l.drop (a8 + 2) = [58] ++ (d2 s ++ ([32] ++ (d4 Y ++ []))) := drop_app x8
  have n9 : a8 + 2 ≤ l.length := drop_le n8 x8
  clear x8 n8
  generalize a8 + 2 = a9 at *
  rw [(tk_ex x9).1]
  have x10 : l.drop (a9 + ([58] : List UInt8).length) = d2 s ++ ([32] ++ (d4 Y ++ [])) := drop_app x9
  have n10 : a9 + ([58] : List UInt8).length ≤ l.length := drop_le n9 x9
  clear x9 n9
  generalize a9 + ([58] : List UInt8).length = a10 at *
  rw [(tk_d2 hs x10).1]
  have x11 : l.drop (a10 + 2) = [32] ++ (d4 Y ++ []) := drop_app x10
  have n11 : a10 + 2 ≤ l.length := drop_le n10 x10
  clear x10 n10
  generalize a10 + 2 = a11 at *
  rw [(tk_ex x11).1]
  have x12 : l.drop (a11 + ([32] : List UInt8).length) = d4 Y ++ [] := drop_app x11
  have n12 : a11 + ([32] : List UInt8).length ≤ l.length := drop_le n11 x11
  clear x11 n11
  generalize a11 + ([32] : List UInt8).length = a12 at *
  rw [(tk_d4 hY x12).1]
  have x13 : l.drop (a12 + 4) = [] := drop_app x12
  have n13 : a12 + 4 ≤ l.length := drop_le n12 x12
  clear x12 n12
  rw [takes_nil, drop_len n13 x13]
  exact ⟨_, _, _, _, _, _, _, rfl⟩

theorem takes_P' {l : List UInt8} {e : Nat} {st : List Int} (h : takes l tkP 0 z14 = .ok (e, st)) (he : e = l.length) :
    ∃ (Y m h i s k d : Nat) (dt : List UInt8) (p0 p1 q2 p3 p4 p5 p6 : Int), Y < 10000 ∧ m < 12 ∧ d < 100 ∧ h < 100 ∧ i < 100 ∧ s < 100 ∧ k < 7 ∧ DayT 2 d dt ∧ st = [(k : Int), p0, (d : Int), p1, (m : Int), q2, (Y : Int), p3, (h : Int), p4, (i : Int), p5, (s : Int), p6] ∧ l = shorts.getD k [] ++ ([32] ++ (mons.getD m [] ++ ([32] ++ (dt ++ ([32] ++ (d2 h ++ ([58] ++ (d2 i ++ ([58] ++ (d2 s ++ ([32] ++ (d4 Y ++ [])))))))))))) := by
  unfold tkP at h
  obtain ⟨a1, k, hk, x0, h⟩ := un_nm h
  obtain ⟨a2, x1, h⟩ := un_ex h
  obtain ⟨a3, m, hm, x2, h⟩ := un_nm h
  obtain ⟨a4, x3, h⟩ := un_ex h
  obtain ⟨a5, d, dt, hd, hdt, x4, h⟩ := un_lo h
  obtain ⟨a6, x5, h⟩ := un_ex h
  obtain ⟨a7, hr, hh, x6, h⟩ := un_d2 h
  obtain ⟨a8, x7, h⟩ := un_ex h
  obtain ⟨a9, i, hi, x8, h⟩ := un_d2 h
  obtain ⟨a10, x9, h⟩ := un_ex h
  obtain ⟨a11, s, hs, x10, h⟩ := un_d2 h
  obtain ⟨a12, x11, h⟩ := un_ex h
  obtain ⟨a13, Y, hY, x12, h⟩ := un_d4 h
  rw [takes_nil] at h
  cases h
  have xe : l.drop e = [] := List.drop_eq_nil_iff.2 (by omega)
  rw [xe] at x12
  rw [x12] at x11
  rw [x11] at x10
  rw [x10] at x9
  rw [x9] at x8
  rw [x8] at x7
  rw [x7] at x6
  rw [x6] at x5
  rw [x5] at x4
  rw [x4] at x3
  rw [x3] at x2
  rw [x2] at x1
  rw [x1] at x0
  exact ⟨Y, m, hr, i, s, k, d, dt, _, _, _, _, _, _, _, hY, hm, hd, hh, hi, hs, hk, hdt, rfl, x0⟩

end Bs
end Go.Proofs.YticncpjpkgdnlaaGreatDoor
