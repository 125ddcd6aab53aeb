/- Several texts as one. -/
import Derived.Test.YtenipnlpambehaaDoorZzA
import Derived.Lib.IndexMore
import Derived.Test.YtenipnlpambehaaDoorZzD
import Derived.Test.YtenipnlpambehaaDoorZzE
/-
  Plain mathematics for package target: signs, triples, classes, pieces. Nothing of the program.
-/
set_option linter.unusedVariables false
set_option linter.unusedSimpArgs false
namespace Go.Proofs.YtenipnlpambehaaDoor
namespace Tg

def hx (c : UInt8) : Bool := Oc.hexI (c.toNat : Int)
def vl (c : UInt8) : Nat := (Oc.valI (c.toNat : Int)).toNat
def byteOf (a b : UInt8) : UInt8 := UInt8.ofNat (vl a * 16 + vl b)
/-- Does a percent triple stand at the front? -/
def trip : List UInt8 → Bool
  | p :: a :: b :: _ => p == 37 && (hx a && hx b)
  | _ => false
theorem trip_len {l : List UInt8} (h : trip l = true) : 3 ≤ l.length := by
  match l, h with
  | p :: a :: b :: t, _ => simp
theorem trip_take (l : List UInt8) : trip (l.take 3) = trip l := by
  match l with
  | [] => rfl
  | [_] => rfl
  | [_, _] => rfl
  | p :: a :: b :: t => rfl
theorem trip_head {c : UInt8} {t : List UInt8} (h : trip (c :: t) = true) : c = 37 := by
  match t, h with
  | a :: b :: t, h => simp [trip] at h; exact h.1
/-- A sign, and its place. -/
structure Sg where
  at_ : Nat
  z : List UInt8
  ok : (z.length = 3 ∧ trip z = true) ∨ (z.length = 1 ∧ trip z = false)
theorem ok3 {l : List UInt8} (h : trip l = true) : ((l.take 3).length = 3 ∧ trip (l.take 3) = true) ∨ ((l.take 3).length = 1 ∧ trip (l.take 3) = false) := by
  have := trip_len h
  exact .inl ⟨by rw [List.length_take]; omega, by rw [trip_take]; exact h⟩
theorem ok1 (c : UInt8) : ([c].length = 3 ∧ trip [c] = true) ∨ ([c].length = 1 ∧ trip [c] = false) := .inr ⟨rfl, rfl⟩
/-- The signs of a text. -/
def sg (p : Nat) (l : List UInt8) : List Sg :=
  match l with
  | [] => []
  | c :: t => if h : trip (c :: t) = true then ⟨p, (c :: t).take 3, ok3 h⟩ :: sg (p + 3) (t.drop 2) else ⟨p, [c], ok1 c⟩ :: sg (p + 1) t
termination_by l.length
decreasing_by
  · simp; omega
  · simp
theorem sg_nil (p : Nat) : sg p [] = [] := by rw [sg]
theorem sg_trip (p : Nat) (l : List UInt8) (h : trip l = true) : sg p l = ⟨p, l.take 3, ok3 h⟩ :: sg (p + 3) (l.drop 3) := by
  match l, h with
  | c :: t, h => rw [sg, dif_pos h]; rfl
theorem sg_one (p : Nat) (c : UInt8) (t : List UInt8) (h : trip (c :: t) = false) : sg p (c :: t) = ⟨p, [c], ok1 c⟩ :: sg (p + 1) t := by
  rw [sg, dif_neg (by simp [h])]
theorem sg_len (p : Nat) (l : List UInt8) : (sg p l).length ≤ l.length := by
  match l with
  | [] => rw [sg_nil]; exact Nat.le_refl _
  | c :: t =>
    by_cases h : trip (c :: t) = true
    · rw [sg_trip p _ h]
      have := sg_len (p + 3) ((c :: t).drop 3)
      simp at this ⊢
      have := trip_len h
      simp at this
      omega
    · rw [sg_one p c t (by simpa using h)]
      have := sg_len (p + 1) t
      simp; omega
termination_by l.length
decreasing_by
  · simp; omega
  · simp
/-- What a sign stands for; its normal form. -/
def valS (x : Sg) : List UInt8 := match x.z with | [_, a, b] => [byteOf a b] | z => z
def unr (c : UInt8) : Bool := Oc.lettI (c.toNat : Int) || Oc.digI (c.toNat : Int) || [45, 46, 95, 126].contains c
def sub (c : UInt8) : Bool := [33, 36, 38, 39, 40, 41, 42, 43, 44, 59, 61].contains c
def col (c : UInt8) : Bool := c == 58 || c == 64
def cls (c : UInt8) : Int := if unr c then 1 else if sub c then 2 else if col c then 4 else if c == 47 then 8 else if c == 63 then 16 else 0
def hd (n : Nat) : UInt8 := [48, 49, 50, 51, 52, 53, 54, 55, 56, 57, 65, 66, 67, 68, 69, 70].getD n 0
def encB (c : UInt8) : List UInt8 := if unr c then [c] else [37, hd (c.toNat / 16), hd (c.toNat % 16)]
def enc (l : List UInt8) : List UInt8 := l.flatMap encB
def bad (x : Sg) : Bool := x.z == [37]
def decR (l : List UInt8) : List UInt8 × Nat × Int := match (sg 0 l).find? bad with | some x => ([], x.at_, 51) | none => ((sg 0 l).flatMap valS, 0, 0)
/-- The first sign that may not stand there, its error. -/
def wrong (ok : UInt8 → Bool) (x : Sg) : Bool := !(x.z.length == 3) && !ok (x.z.headD 0)
def chk (ok : UInt8 → Bool) (other : Int) (l : List UInt8) : Nat × Int := match (sg 0 l).find? (wrong ok) with | some x => (x.at_, if x.z = [37] then 51 else other) | none => (0, 0)
def nt (x : Sg) : List UInt8 := if x.z.length = 3 then enc (valS x) else x.z
def ntr (l : List UInt8) : List UInt8 := (sg 0 l).flatMap nt
def nameOk (c : UInt8) : Bool := unr c || sub c
def pathOk (c : UInt8) : Bool := unr c || sub c || col c || c == 47
def queryOk (c : UInt8) : Bool := unr c || sub c || col c || c == 47 || c == 63

/-- The pieces between a byte. -/
def cutA (b : UInt8) (l : List UInt8) : List UInt8 := l.takeWhile (· != b)
def cutB (b : UInt8) (l : List UInt8) : List UInt8 := (l.dropWhile (· != b)).drop 1
def has (b : UInt8) (l : List UInt8) : Bool := l.contains b
def splitB (b : UInt8) : List UInt8 → List (List UInt8)
  | [] => [[]]
  | c :: t => if c == b then [] :: splitB b t else match splitB b t with | h :: r => (c :: h) :: r | [] => [[c]]
theorem splitB_ne (b : UInt8) (l : List UInt8) : splitB b l ≠ [] := by
  cases l with
  | nil => simp [splitB]
  | cons c t =>
    unfold splitB
    by_cases h : (c == b) = true
    · rw [if_pos h]; simp
    · rw [if_neg h]; split <;> simp
theorem splitB_cons (b c : UInt8) (t : List UInt8) : splitB b (c :: t) = if c == b then [] :: splitB b t else match splitB b t with | h :: r => (c :: h) :: r | [] => [[c]] := rfl
theorem split_cut (b : UInt8) (l : List UInt8) : splitB b l = cutA b l :: if has b l then splitB b (cutB b l) else [] := by
  induction l with
  | nil => rfl
  | cons c t ih =>
    rw [splitB_cons]
    by_cases h : c = b
    · subst h
      simp [cutA, cutB, has]
    · have h2 : ¬ b = c := fun e => h e.symm
      have e1 : cutA b (c :: t) = c :: cutA b t := by simp [cutA, h]
      have e2 : cutB b (c :: t) = cutB b t := by simp [cutB, h]
      have e3 : has b (c :: t) = has b t := by simp [has, h2]
      rw [if_neg (by simpa using h), ih, e1, e2, e3]
theorem split_len (b : UInt8) (l : List UInt8) : (splitB b l).length ≤ l.length + 1 := by
  induction l with
  | nil => simp [splitB]
  | cons c t ih =>
    unfold splitB
    by_cases h : (c == b) = true
    · rw [if_pos h]; simp; omega
    · rw [if_neg h]
      revert ih
      cases splitB b t with
      | nil => simp
      | cons h r => simp; omega
theorem cutA_len (b : UInt8) (l : List UInt8) : (cutA b l).length ≤ l.length := (List.takeWhile_sublist _).length_le
theorem cutB_len (b : UInt8) (l : List UInt8) : (cutB b l).length ≤ l.length := by
  unfold cutB
  have := (List.dropWhile_sublist (fun x => x != b) (l := l)).length_le
  rw [List.length_drop]
  omega

end Tg
end Go.Proofs.YtenipnlpambehaaDoor

/-
  Plain: what the library's cut says of one byte.
-/
set_option linter.unusedVariables false
set_option linter.unusedSimpArgs false
namespace Go.Proofs.YtenipnlpambehaaDoor
namespace Tg

theorem index_cons_one (b c : UInt8) (t : List UInt8) : Lib.index (c :: t) [b] = if c = b then 0 else if Lib.index t [b] = -1 then -1 else Lib.index t [b] + 1 := by
  by_cases h : c = b
  · subst h; simp [Lib.index, List.isPrefixOf]
  · have h2 : ¬ b = c := fun e => h e.symm
    simp [Lib.index, List.isPrefixOf, h, h2]
theorem index_one (b : UInt8) (l : List UInt8) : Lib.index l [b] = if has b l then ((cutA b l).length : Int) else -1 := by
  induction l with
  | nil => rfl
  | cons c t ih =>
    rw [index_cons_one, ih]
    by_cases h : c = b
    · subst h; simp [has, cutA]
    · have h2 : ¬ b = c := fun e => h e.symm
      have e1 : cutA b (c :: t) = c :: cutA b t := by simp [cutA, h]
      have e3 : has b (c :: t) = has b t := by simp [has, h2]
      rw [if_neg h, e1, e3]
      cases has b t with
      | true => simp
      | false => simp
theorem cutA_all (b : UInt8) (l : List UInt8) (h : has b l = false) : cutA b l = l := by
  induction l with
  | nil => rfl
  | cons c t ih =>
    have h' : ¬ b = c ∧ has b t = false := by simpa [has] using h
    have h2 : ¬ c = b := fun e => h'.1 e.symm
    have e1 : cutA b (c :: t) = c :: cutA b t := by simp [cutA, h2]
    rw [e1, ih h'.2]
theorem cutB_none (b : UInt8) (l : List UInt8) (h : has b l = false) : cutB b l = [] := by
  induction l with
  | nil => rfl
  | cons c t ih =>
    have h' : ¬ b = c ∧ has b t = false := by simpa [has] using h
    have h2 : ¬ c = b := fun e => h'.1 e.symm
    have e2 : cutB b (c :: t) = cutB b t := by simp [cutB, h2]
    rw [e2, ih h'.2]
theorem cut_app (b : UInt8) (l : List UInt8) (h : has b l = true) : cutA b l ++ b :: cutB b l = l := by
  induction l with
  | nil => simp [has] at h
  | cons c t ih =>
    by_cases e : c = b
    · subst e; simp [cutA, cutB]
    · have h2 : ¬ b = c := fun x => e x.symm
      have e1 : cutA b (c :: t) = c :: cutA b t := by simp [cutA, e]
      have e2 : cutB b (c :: t) = cutB b t := by simp [cutB, e]
      have e3 : has b t = true := by simpa [has, h2] using h
      rw [e1, e2, List.cons_append, ih e3]
theorem cut_one (b : UInt8) (l : List UInt8) : Lib.cut l [b] = (cutA b l, cutB b l, has b l) := by
  unfold Lib.cut
  rw [index_one]
  cases h : has b l with
  | true =>
    rw [if_pos rfl, if_pos (by omega)]
    have e := cut_app b l h
    generalize cutA b l = A at *
    generalize cutB b l = B at *
    subst e
    simp
  | false =>
    rw [if_neg (by simp)]
    simp [cutA_all b l h, cutB_none b l h]

end Tg
end Go.Proofs.YtenipnlpambehaaDoor

/-
  What lies in the world, and the library's Cut.
-/
set_option linter.unusedVariables false
set_option linter.unusedSimpArgs false
namespace Go.Proofs.YtenipnlpambehaaDoor
open Go.RowKit Go.Shelf
namespace Ac
open Oc Tg

/-- The library's MaxLen lies. -/
def ML (w : World) : Prop := ∃ m : Int, w.cell? ⟨0, 0, none⟩ = some (.int .i64 m)
theorem ML.below {w w' : World} (h : ML w) (hb : Below w.heap.size w w') : ML w' := by
  obtain ⟨m, hm⟩ := h
  exact ⟨m, (hb.cell (p := ⟨0, 0, none⟩) (World.block_lt_of_cell? w _ hm)).trans hm⟩
theorem Cut_any (s p : ByteArray) (hs : s.size ≤ 4000000000) (w : World) (h : ML w) :
    Calls Tryd.prog 48 #[.string s, .string p] w fun e w' => e = .returned (.tuple #[.string (str (Lib.cut s.data.toList p.data.toList).1), .string (str (Lib.cut s.data.toList p.data.toList).2.1), .bool (Lib.cut s.data.toList p.data.toList).2.2]) ∧ Below w.heap.size w w' := by
  obtain ⟨m, hm⟩ := h
  refine (Tryd.strings_Cut s p m w (by omega) hm).mono ?_
  rintro e w' ⟨rfl, n, rfl⟩
  exact ⟨rfl, ⟨rfl, rfl, rfl, Nat.le_refl _, fun _ _ => rfl⟩⟩
theorem Cut_one (s : ByteArray) (b : UInt8) (hs : s.size ≤ 4000000000) (w : World) (h : ML w) :
    Calls Tryd.prog 48 #[.string s, .string ⟨#[b]⟩] w fun e w' => e = .returned (.tuple #[.string (str (cutA b s.data.toList)), .string (str (cutB b s.data.toList)), .bool (has b s.data.toList)]) ∧ Below w.heap.size w w' := by
  have h := Cut_any s ⟨#[b]⟩ hs w h
  rw [show (⟨#[b]⟩ : ByteArray).data.toList = [b] from rfl, cut_one] at h
  exact h

end Ac
end Go.Proofs.YtenipnlpambehaaDoor
