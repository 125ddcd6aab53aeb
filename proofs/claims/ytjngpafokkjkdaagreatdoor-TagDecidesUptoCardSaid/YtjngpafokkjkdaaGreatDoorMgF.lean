/- Several texts as one. -/
import Derived.Test.YtjngpafokkjkdaaGreatDoorMgA
import Derived.Lib.IndexMore
import Derived.Test.YtjngpafokkjkdaaGreatDoorMgE
/-
  Plain mathematics for package target: signs, triples, classes, pieces. Nothing of the program.
-/
set_option linter.unusedVariables false
set_option linter.unusedSimpArgs false
namespace Go.Proofs.YtjngpafokkjkdaaGreatDoor
namespace Tg

def hx (c : UInt8) : Bool := Oc.hexI (c.toNat : Int)
def vl (c : UInt8) : Nat := (Oc.valI (c.toNat : Int)).toNat
def byteOf (a b : UInt8) : UInt8 := UInt8.ofNat (vl a * 16 + vl b)
/-- Does a percent triple stand at the front? -/
def trip : List UInt8 → Bool
  | p :: a :: b :: _ => p == 37 && (hx a && hx b)
  | _ => false
theorem trip_len {l : List UInt8} (h : trip l = true) : 3 ≤ l.length := by
  match l, h with
  | p :: a :: b :: t, _ => simp
theorem trip_take (l : List UInt8) : trip (l.take 3) = trip l := by
  match l with
  | [] => rfl
  | [_] => rfl
  | [_, _] => rfl
  | p :: a :: b :: t => rfl
theorem trip_head {c : UInt8} {t : List UInt8} (h : trip (c :: t) = true) : c = 37 := by
  match t, h with
  | a :: b :: t, h => simp [trip] at h; exact h.1
/-- A sign, and its place. -/
structure Sg where
  at_ : Nat
  z : List UInt8
  ok : (z.length = 3 ∧ trip z = true) ∨ (z.length = 1 ∧ trip z = false)
theorem ok3 {l : List UInt8} (h : trip l = true) : ((l.take 3).length = 3 ∧ trip (l.take 3) = true) ∨ ((l.take 3).length = 1 ∧ trip (l.take 3) = false) := by
  have := trip_len h
  exact .inl ⟨by rw [List.length_take]; omega, by rw [trip_take]; exact h⟩
theorem ok1 (c : UInt8) : ([c].length = 3 ∧ trip [c] = true) ∨ ([c].length = 1 ∧ trip [c] = false) := .inr ⟨rfl, rfl⟩
/-- The signs of a text. -/
def sg (p : Nat) (l : List UInt8) : List Sg :=
  match l with
  | [] => []
  | c :: t => if h : trip (c :: t) = true then ⟨p, (c :: t).take 3, ok3 h⟩ :: sg (p + 3) (t.drop 2) else ⟨p, [c], ok1 c⟩ :: sg (p + 1) t
termination_by l.length
decreasing_by
  · simp; omega
  · simp
theorem sg_nil (p : Nat) : sg p [] = [] := by rw [sg]
theorem sg_trip (p : Nat) (l : List UInt8) (h : trip l = true) : sg p l = ⟨p, l.take 3, ok3 h⟩ :: sg (p + 3) (l.drop 3) := by
  match l, h with
  | c :: t, h => rw [sg, dif_pos h]; rfl
theorem sg_one (p : Nat) (c : UInt8) (t : List UInt8) (h : trip (c :: t) = false) : sg p (c :: t) = ⟨p, [c], ok1 c⟩ :: sg (p + 1) t := by
  rw [sg, dif_neg (by simp [h])]
theorem sg_len (p : Nat) (l : List UInt8) : (sg p l).length ≤ l.length := by
  match l with
  | [] => rw [sg_nil]; exact Nat.le_refl _
  | c :: t =>
    by_cases h : trip (c :: t) = true
    · rw [sg_trip p _ h]
      have := sg_len (p + 3) ((c :: t).drop 3)
      simp at this ⊢
      have := trip_len h
      simp at this
      omega
    · rw [sg_one p c t (by simpa using h)]
      have := sg_len (p + 1) t
      simp; omega
termination_by l.length
decreasing_by
  · simp; omega
  · simp
/-- What a sign stands for; its normal form. -/
def valS (x : Sg) : List UInt8 := match x.z with | [_, a, b] => [byteOf a b] | z => z
def unr (c : UInt8) : Bool := Oc.lettI (c.toNat : Int) || Oc.digI (c.toNat : Int) || [45, 46, 95, 126].contains c
def sub (c : UInt8) : Bool := [33, 36, 38, 39, 40, 41, 42, 43, 44, 59, 61].contains c
def col (c : UInt8) : Bool := c == 58 || c == 64
def cls (c : UInt8) : Int := if unr c then 1 else if sub c then 2 else if col c then 4 else if c == 47 then 8 else if c == 63 then 16 else 0
def hd (n : Nat) : UInt8 := [48, 49, 50, 51, 52, 53, 54, 55, 56, 57, 65, 66, 67, 68, 69, 70].getD n 0
def encB (c : UInt8) : List UInt8 := if unr c then [c] else [37, hd (c.toNat / 16), hd (c.toNat % 16)]
def enc (l : List UInt8) : List UInt8 := l.flatMap encB
def bad (x : Sg) : Bool := x.z == [37]
def decR (l : List UInt8) : List UInt8 × Nat × Int := match (sg 0 l).find? bad with | some x => ([], x.at_, 51) | none => ((sg 0 l).flatMap valS, 0, 0)
/-- The first sign that may not stand there, its error. -/
def wrong (ok : UInt8 → Bool) (x : Sg) : Bool := !(x.z.length == 3) && !ok (x.z.headD 0)
def chk (ok : UInt8 → Bool) (other : Int) (l : List UInt8) : Nat × Int := match (sg 0 l).find? (wrong ok) with | some x => (x.at_, if x.z = [37] then 51 else other) | none => (0, 0)
def nt (x : Sg) : List UInt8 := if x.z.length = 3 then enc (valS x) else x.z
def ntr (l : List UInt8) : List UInt8 := (sg 0 l).flatMap nt
def nameOk (c : UInt8) : Bool := unr c || sub c
def pathOk (c : UInt8) : Bool := unr c || sub c || col c || c == 47
def queryOk (c : UInt8) : Bool := unr c || sub c || col c || c == 47 || c == 63

/-- The pieces between a byte. -/
def cutA (b : UInt8) (l : List UInt8) : List UInt8 := l.takeWhile (· != b)
def cutB (b : UInt8) (l : List UInt8) : List UInt8 := (l.dropWhile (· != b)).drop 1
def has (b : UInt8) (l : List UInt8) : Bool := l.contains b
def splitB (b : UInt8) : List UInt8 → List (List UInt8)
  | [] => [[]]
  | c :: t => if c == b then [] :: splitB b t else match splitB b t with | h :: r => (c :: h) :: r | [] => [[c]]
theorem splitB_ne (b : UInt8) (l : List UInt8) : splitB b l ≠ [] := by
  cases l with
  | nil => simp [splitB]
  | cons c t =>
    unfold splitB
    by_cases h : (c == b) = true
    · rw [if_pos h]; simp
    · rw [if_neg h]; split <;> simp
theorem splitB_cons (b c : UInt8) (t : List UInt8) : splitB b (c :: t) = if c == b then [] :: splitB b t else match splitB b t with | h :: r => (c :: h) :: r | [] => [[c]] := rfl
theorem split_cut (b : UInt8) (l : List UInt8) : splitB b l = cutA b l :: if has b l then splitB b (cutB b l) else [] := by
  induction l with
  | nil => rfl
  | cons c t ih =>
    rw [splitB_cons]
    by_cases h : c = b
    · subst h
      simp [cutA, cutB, has]
    · have h2 : ¬ b = c := fun e => h e.symm
      have e1 : cutA b (c :: t) = c :: cutA b t := by simp [cutA, h]
      have e2 : cutB b (c :: t) = cutB b t := by simp [cutB, h]
      have e3 : has b (c :: t) = has b t := by simp [has, h2]
      rw [if_neg (by simpa using h), ih, e1, e2, e3]
theorem split_len (b : UInt8) (l : List UInt8) : (splitB b l).length ≤ l.length + 1 := by
  induction l with
  | nil => simp [splitB]
  | cons c t ih =>
    unfold splitB
    by_cases h : (c == b) = true
    · rw [if_pos h]; simp; omega
    · rw [if_neg h]
      revert ih
      cases splitB b t with
      | nil => simp
      | cons h r => simp; omega
theorem cutA_len (b : UInt8) (l : List UInt8) : (cutA b l).length ≤ l.length := (List.takeWhile_sublist _).length_le
theorem cutB_len (b : UInt8) (l : List UInt8) : (cutB b l).length ≤ l.length := by
  unfold cutB
  have := (List.dropWhile_sublist (fun x => x != b) (l := l)).length_le
  rw [List.length_drop]
  omega

end Tg
end Go.Proofs.YtjngpafokkjkdaaGreatDoor

/-
  Plain: what the library's cut says of one byte.
-/
set_option linter.unusedVariables false
set_option linter.unusedSimpArgs false
namespace Go.Proofs.YtjngpafokkjkdaaGreatDoor
namespace Tg

theorem index_cons_one (b c : UInt8) (t : List UInt8) : Lib.index (c :: t) [b] = if c = b then 0 else if Lib.index t [b] = -1 then -1 else Lib.index t [b] + 1 := by
  by_cases h : c = b
  · subst h; simp [Lib.index, List.isPrefixOf]
  · have h2 : ¬ b = c := fun e => h e.symm
    simp [Lib.index, List.isPrefixOf, h, h2]
theorem index_one (b : UInt8) (l : List UInt8) : Lib.index l [b] = if has b l then ((cutA b l).length : Int) else -1 := by
  induction l with
  | nil => rfl
  | cons c t ih =>
    rw [index_cons_one, ih]
    by_cases h : c = b
    · subst h; simp [has, cutA]
    · have h2 : ¬ b = c := fun e => h e.symm
      have e1 : cutA b (c :: t) = c :: cutA b t := by simp [cutA, h]
      have e3 : has b (c :: t) = has b t := by simp [has, h2]
      rw [if_neg h, e1, e3]
      cases has b t with
      | true => simp
      | false => simp
theorem cutA_all (b : UInt8) (l : List UInt8) (h : has b l = false) : cutA b l = l := by
  induction l with
  | nil => rfl
  | cons c t ih =>
    have h' : ¬ b = c ∧ has b t = false := by simpa [has] using h
    have h2 : ¬ c = b := fun e => h'.1 e.symm
    have e1 : cutA b (c :: t) = c :: cutA b t := by simp [cutA, h2]
    rw [e1, ih h'.2]
theorem cutB_none (b : UInt8) (l : List UInt8) (h : has b l = false) : cutB b l = [] := by
  induction l with
  | nil => rfl
  | cons c t ih =>
    have h' : ¬ b = c ∧ has b t = false := by simpa [has] using h
    have h2 : ¬ c = b := fun e => h'.1 e.symm
    have e2 : cutB b (c :: t) = cutB b t := by simp [cutB, h2]
    rw [e2, ih h'.2]
theorem cut_app (b : UInt8) (l : List UInt8) (h : has b l = true) : cutA b l ++ b :: cutB b l = l := by
  induction l with
  | nil => simp [has] at h
  | cons c t ih =>
    by_cases e : c = b
    · subst e; simp [cutA, cutB]
    · have h2 : ¬ b = c := fun x => e x.symm
      have e1 : cutA b (c :: t) = c :: cutA b t := by simp [cutA, e]
      have e2 : cutB b (c :: t) = cutB b t := by simp [cutB, e]
      have e3 : has b t = true := by simpa [has, h2] using h
      rw [e1, e2, List.cons_append, ih e3]
theorem cut_one (b : UInt8) (l : List UInt8) : Lib.cut l [b] = (cutA b l, cutB b l, has b l) := by
  unfold Lib.cut
  rw [index_one]
  cases h : has b l with
  | true =>
    rw [if_pos rfl, if_pos (by omega)]
    have e := cut_app b l h
    generalize cutA b l = A at *
    generalize cutB b l = B at *
    subst e
    simp
  | false =>
    rw [if_neg (by simp)]
    simp [cutA_all b l h, cutB_none b l h]

end Tg
end Go.Proofs.YtjngpafokkjkdaaGreatDoor

/-
  Lines of fields, plain: what a line says, or what is wrong with it, and where.
-/
set_option linter.unusedVariables false
set_option linter.unusedSimpArgs false
namespace Go.Proofs.YtjngpafokkjkdaaGreatDoor
open Go.RowKit
namespace Fd
open Oc Tg

def isName (l : List UInt8) : Bool := isTok l && decide (l.length ≤ 128)
def isValue (l : List UInt8) : Bool := isFld l && decide (l.length ≤ 8192) && decide (trim l = l)
def lead (l : List UInt8) : Nat := (l.takeWhile blankB).length
def fnot (p : UInt8 → Bool) (l : List UInt8) : Nat := (l.takeWhile p).length
def blank0 : List UInt8 → Bool
  | [] => false
  | c :: _ => blankB c
def parseL (l : List UInt8) : (List UInt8 × List UInt8) × Nat × Int :=
  if blank0 l then (([], []), 0, 63)
  else if has 58 l then
    if isName (cutA 58 l) then
      if isFld (cutB 58 l) then
        if (trim (cutB 58 l)).length ≤ 8192 then ((cutA 58 l, trim (cutB 58 l)), 0, 0)
        else (([], []), (cutA 58 l).length + 1 + (lead (cutB 58 l) + 8192), 61)
      else (([], []), (cutA 58 l).length + 1 + fnot fieldB (cutB 58 l), 61)
    else (([], []), min (fnot tokB (cutA 58 l)) 128, 60)
  else (([], []), l.length, 62)

theorem blank_field {c : UInt8} (h : blankB c = true) : fieldB c = true := by
  unfold blankB blankI at h
  have h := of_decide_eq_true h
  unfold fieldB fieldI
  exact decide_eq_true (by omega)
theorem trimL_split (l : List UInt8) : l = l.takeWhile blankB ++ trimL l := by unfold trimL; exact (List.takeWhile_append_dropWhile).symm
theorem trimL_head (l : List UInt8) (c : UInt8) (t : List UInt8) (h : trimL l = c :: t) : blankB c = false := by
  unfold trimL at h
  induction l with
  | nil => simp at h
  | cons a l ih =>
    rw [List.dropWhile_cons] at h
    by_cases e : blankB a = true
    · rw [if_pos e] at h; exact ih h
    · rw [if_neg e] at h
      obtain ⟨rfl, _⟩ := List.cons.inj h
      simpa using e
theorem trimR_split (l : List UInt8) : ∃ b : List UInt8, l = trimR l ++ b ∧ b.all blankB = true := by
  refine ⟨(l.reverse.takeWhile blankB).reverse, ?_, ?_⟩
  · unfold trimR
    rw [← List.reverse_append, List.takeWhile_append_dropWhile, List.reverse_reverse]
  · rw [List.all_reverse]
    exact List.all_takeWhile
theorem trim_split (l : List UInt8) : ∃ b : List UInt8, l = l.takeWhile blankB ++ (trim l ++ b) ∧ b.all blankB = true := by
  obtain ⟨b, hb, hb2⟩ := trimR_split (trimL l)
  exact ⟨b, by unfold trim; rw [← hb]; exact trimL_split l, hb2⟩
theorem all_mono {p q : UInt8 → Bool} (h : ∀ c, p c = true → q c = true) {l : List UInt8} (hl : l.all p = true) : l.all q = true := by
  rw [List.all_eq_true] at *
  exact fun x hx => h x (hl x hx)
theorem fld_trim (l : List UInt8) : isFld (trim l) = isFld l := by
  obtain ⟨b, hb, hb2⟩ := trim_split l
  unfold isFld
  conv => rhs; rw [hb]
  rw [List.all_append, List.all_append, all_mono (fun c h => blank_field h) hb2, all_mono (fun c h => blank_field h) (List.all_takeWhile (p := blankB) (l := l))]
  simp
theorem trimL_stay {l : List UInt8} (h : ∀ c t, l = c :: t → blankB c = false) : trimL l = l := by
  cases l with
  | nil => rfl
  | cons c t => rw [trimL_cons, h c t rfl]; rfl
theorem trimL_idem (l : List UInt8) : trimL (trimL l) = trimL l := trimL_stay (fun c t h => trimL_head l c t h)
theorem trimR_idem (l : List UInt8) : trimR (trimR l) = trimR l := by
  unfold trimR
  rw [List.reverse_reverse]
  have := trimL_idem l.reverse
  unfold trimL at this
  rw [this]
theorem trim_idem (l : List UInt8) : trim (trim l) = trim l := by
  unfold trim
  rw [trim_comm, trimR_idem, trimL_idem]
theorem isValue_trim (l : List UInt8) : isValue (trim l) = (isFld l && decide ((trim l).length ≤ 8192)) := by
  unfold isValue
  rw [fld_trim, trim_idem]
  simp
theorem trim_one (c : UInt8) : trim [c] = if blankB c then [] else [c] := by
  unfold trim
  rw [trimL_cons]
  by_cases h : blankB c = true
  · rw [if_pos h, if_pos h]; rfl
  · rw [if_neg h, if_neg h, trimR_cons, if_neg h]; rfl
theorem trim_nil_blank {l : List UInt8} (h : l.all blankB = true) : trim l = [] := by
  unfold trim
  have : trimL l = [] := by
    unfold trimL
    have e : List.dropWhile blankB (l ++ []) = List.dropWhile blankB [] := List.dropWhile_append_of_pos (fun y hy => List.all_eq_true.1 h y hy)
    simpa using e
  rw [this]; rfl
theorem trim_head (l : List UInt8) (c : UInt8) (t : List UInt8) (h : trim l = c :: t) : blankB c = false := by
  have h2 : trimL (trim l) = trim l := by unfold trim; rw [trim_comm, trimL_idem]
  rw [h] at h2
  exact trimL_head _ c t h2
theorem lead_le (l : List UInt8) : lead l + (trim l).length ≤ l.length := by
  obtain ⟨b, hb, _⟩ := trim_split l
  have := congrArg List.length hb
  simp at this
  unfold lead
  omega
theorem index_trim (l : List UInt8) (h : trim l ≠ []) : Lib.index l (trim l) = (lead l : Int) := by
  obtain ⟨b, hb, _⟩ := trim_split l
  have hle := lead_le l
  cases hx : trim l with
  | nil => exact absurd hx h
  | cons c t =>
    have hc := trim_head l c t hx
    refine Lib.index_first (by omega) ?_ (fun j hj => ?_)
    · rw [Lib.occAt_iff_take _ _ _ (by rw [← hx]; exact hle)]
      have hd : l.drop (lead l) = trim l ++ b := by
        unfold lead
        generalize trim l = T at hb ⊢
        generalize List.takeWhile blankB l = A at hb ⊢
        rw [hb, List.drop_left]
      rw [hd, hx, List.take_left]
      simp
    · cases ho : Lib.occAt l (c :: t) j with
      | false => rfl
      | true =>
        have := Lib.occAt_head rfl ho
        have hj2 : l[j]? = (l.takeWhile blankB)[j]? := by
          conv => lhs; rw [hb]
          exact List.getElem?_append_left hj
        rw [hj2] at this
        have hm := List.mem_of_getElem? this
        have := List.all_eq_true.1 (List.all_takeWhile (p := blankB) (l := l)) c hm
        rw [hc] at this
        cases this
theorem fnot_le (p : UInt8 → Bool) (l : List UInt8) : fnot p l ≤ l.length := (List.takeWhile_sublist _).length_le
theorem fnot_lt (p : UInt8 → Bool) (l : List UInt8) (h : l.all p = false) : fnot p l < l.length := by
  unfold fnot
  induction l with
  | nil => simp at h
  | cons a l ih =>
    rw [List.takeWhile_cons]
    by_cases e : p a = true
    · rw [if_pos e]
      have := ih (by simpa [e] using h)
      simp; omega
    · rw [if_neg e]; simp
theorem fnot_all (p : UInt8 → Bool) (l : List UInt8) (h : l.all p = true) : fnot p l = l.length := by
  unfold fnot
  induction l with
  | nil => rfl
  | cons a l ih =>
    have h1 : p a = true := by simp at h; exact h.1
    rw [List.takeWhile_cons, if_pos h1, List.length_cons, List.length_cons, ih (by simpa [h1] using h)]

end Fd
end Go.Proofs.YtjngpafokkjkdaaGreatDoor
