/-
  What a date's text says, plain: names, digits, pieces, forms.
-/
import Derived.Test.YtjngpafokkjkdaaGreatDoorCPlain
set_option linter.unusedVariables false
set_option linter.unusedSimpArgs false
namespace Go.Proofs.YtjngpafokkjkdaaGreatDoor
namespace Bs

def shorts : List (List UInt8) := [[77, 111, 110], [84, 117, 101], [87, 101, 100], [84, 104, 117], [70, 114, 105], [83, 97, 116], [83, 117, 110]]
def longs : List (List UInt8) := [[77, 111, 110, 100, 97, 121], [84, 117, 101, 115, 100, 97, 121], [87, 101, 100, 110, 101, 115, 100, 97, 121], [84, 104, 117, 114, 115, 100, 97, 121], [70, 114, 105, 100, 97, 121], [83, 97, 116, 117, 114, 100, 97, 121], [83, 117, 110, 100, 97, 121]]
def mons : List (List UInt8) := [[74, 97, 110], [70, 101, 98], [77, 97, 114], [65, 112, 114], [77, 97, 121], [74, 117, 110], [74, 117, 108], [65, 117, 103], [83, 101, 112], [79, 99, 116], [78, 111, 118], [68, 101, 99]]
def nms : Nat → List (List UInt8)
  | 0 => shorts
  | 1 => longs
  | _ => mons

def dgt (c : UInt8) : Bool := decide (48 ≤ c.toNat ∧ c.toNat ≤ 57)
def dv (c : UInt8) : Int := (c.toNat : Int) - 48
def hp (l t : List UInt8) : Bool := decide (l.take t.length = t)

/-- So many digits from a place on: the place behind, and the number; or the place of the fault. -/
def dgs (l : List UInt8) : Nat → Nat → Int → Except Nat (Nat × Int)
  | 0, a, v => .ok (a, v)
  | k + 1, a, v => match l[a]? with
    | some c => if dgt c then dgs l k (a + 1) (v * 10 + dv c) else .error a
    | none => .error a
def exs (l : List UInt8) : List UInt8 → Nat → Except Nat Nat
  | [], a => .ok a
  | c :: t, a => if l[a]? = some c then exs l t (a + 1) else .error a
def nam (l : List UInt8) (a : Nat) (ns : List (List UInt8)) : Option Nat := ns.findIdx? fun t => hp (l.drop a) t

inductive TK where
  | ex (t : List UInt8)
  | dg (n f : Nat)
  | lo (f : Nat)
  | nm (k f : Nat)
def put (st : List Int) (f : Nat) (v a : Int) : List Int := (st.set (2 * f) v).set (2 * f + 1) a
def take1 (l : List UInt8) (a : Nat) (st : List Int) : TK → Except Nat (Nat × List Int)
  | .ex t => match exs l t a with
    | .ok b => .ok (b, st)
    | .error e => .error e
  | .dg n f => match dgs l n a 0 with
    | .ok (b, v) => .ok (b, put st f v a)
    | .error e => .error e
  | .lo f => if l[a]? = some 32 then match dgs l 1 (a + 1) 0 with
      | .ok (b, v) => .ok (b, put st f v a)
      | .error e => .error e
    else match dgs l 2 a 0 with
      | .ok (b, v) => .ok (b, put st f v a)
      | .error e => .error e
  | .nm k f => match nam l a (nms k) with
    | some i => .ok (a + ((nms k).getD i []).length, put st f i a)
    | none => .error a
def takes (l : List UInt8) : List TK → Nat → List Int → Except Nat (Nat × List Int)
  | [], a, st => .ok (a, st)
  | t :: ts, a, st => match take1 l a st t with
    | .ok (b, st') => takes l ts b st'
    | .error e => .error e
def tkL : List TK := [.nm 1 0, .ex [44, 32], .dg 2 1, .ex [45], .nm 2 2, .ex [45], .dg 2 3, .ex [32], .dg 2 4, .ex [58], .dg 2 5, .ex [58], .dg 2 6, .ex [32, 71, 77, 84]]
def tkP : List TK := [.nm 0 0, .ex [32], .nm 2 2, .ex [32], .lo 1, .ex [32], .dg 2 4, .ex [58], .dg 2 5, .ex [58], .dg 2 6, .ex [32], .dg 4 3]
def tkF : List TK := [.nm 0 0, .ex [44, 32], .dg 2 1, .ex [32], .nm 2 2, .ex [32], .dg 4 3, .ex [32], .dg 2 4, .ex [58], .dg 2 5, .ex [58], .dg 2 6, .ex [32, 71, 77, 84]]
def tks (form : Int) : List TK := if form = 1 then tkL else if form = 2 then tkP else tkF

def formF (l : List UInt8) : Nat → Nat → Int
  | 0, _ => 2
  | k + 1, i => if hp l (shorts.getD i [] ++ [44]) then 0 else if hp l (longs.getD i [] ++ [44]) then 1 else formF l k (i + 1)
def formS (l : List UInt8) : Int := formF l 7 0
theorem formF_r (l : List UInt8) : ∀ k i, 0 ≤ formF l k i ∧ formF l k i ≤ 2
  | 0, _ => ⟨by unfold formF; omega, by unfold formF; omega⟩
  | k + 1, i => by
    unfold formF
    have := formF_r l k (i + 1)
    split
    · omega
    · split <;> omega
theorem formS_r (l : List UInt8) : formS l = 0 ∨ formS l = 1 ∨ formS l = 2 := by
  have := formF_r l 7 0
  unfold formS
  omega

def z14 : List Int := [0, 0, 0, 0, 0, 0, 0, 0, 0, 0, 0, 0, 0, 0]
def g (st : List Int) (i : Nat) : Int := st.getD i 0
def nearS (c this : Int) : Int := this - 49 + (c - (this - 49)) % 100
def minM : Int := -62135596800
def maxM : Int := 253402300799
def isM (t : Int) : Prop := -62135596800 ≤ t ∧ t ≤ 253402300799
instance (t : Int) : Decidable (isM t) := inferInstanceAs (Decidable (_ ∧ _))
def momS (y : Int) (st : List Int) : Int × Int × Int :=
  if y < 1 ∨ 9999 < y then (0, 41, g st 7)
  else if ¬ (1 ≤ g st 2 ∧ g st 2 ≤ md y (g st 4 + 1)) then (0, 41, g st 3)
  else if 23 < g st 8 then (0, 42, g st 9)
  else if 59 < g st 10 then (0, 42, g st 11)
  else if 60 < g st 12 then (0, 42, g st 13)
  else if g st 0 ≠ wday (dn y (g st 4 + 1) (g st 2)) then (0, 43, 0)
  else
    if 253402300799 < dn y (g st 4 + 1) (g st 2) * 86400 + g st 8 * 3600 + g st 10 * 60 + g st 12 then (0, 40, 0)
    else (dn y (g st 4 + 1) (g st 2) * 86400 + g st 8 * 3600 + g st 10 * 60 + g st 12, 0, 0)
def yearOfM (t : Int) : Int := (ymd (t / 86400)).1
def yS (l : List UInt8) (now : Int) (st : List Int) : Int := if formS l = 1 then nearS (g st 6) (yearOfM now) else g st 6
def pars2 (l : List UInt8) (now : Int) : Except Nat (Nat × List Int) → Int × Int × Int × Int
  | .error a => (0, 0, 44, a)
  | .ok (a, st) =>
    if a ≠ l.length then (0, 0, 44, a)
    else if (momS (yS l now st) st).2.1 = 0 then ((momS (yS l now st) st).1, formS l, 0, 0)
    else (0, 0, (momS (yS l now st) st).2.1, (momS (yS l now st) st).2.2)
/-- All that Parse says: moment, form, error, place. -/
def parseS (l : List UInt8) (now : Int) : Int × Int × Int × Int :=
  if ¬ isM now then (0, 0, 40, 0)
  else pars2 l now (takes l (tks (formS l)) 0 z14)

end Bs
end Go.Proofs.YtjngpafokkjkdaaGreatDoor
