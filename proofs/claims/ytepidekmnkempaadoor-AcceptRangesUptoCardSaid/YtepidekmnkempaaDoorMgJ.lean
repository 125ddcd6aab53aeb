/- Several texts as one. -/
import Derived.Test.YtepidekmnkempaaDoorMgA
import Derived.Lib.IndexMore
import Derived.Test.YtepidekmnkempaaDoorMgI
/-
  Plain mathematics for package target: signs, triples, classes, pieces. Nothing of the program.
-/
set_option linter.unusedVariables false
set_option linter.unusedSimpArgs false
namespace Go.Proofs.YtepidekmnkempaaDoor
namespace Tg

def hx (c : UInt8) : Bool := Oc.hexI (c.toNat : Int)
def vl (c : UInt8) : Nat := (Oc.valI (c.toNat : Int)).toNat
def byteOf (a b : UInt8) : UInt8 := UInt8.ofNat (vl a * 16 + vl b)
/-- Does a percent triple stand at the front? -/
def trip : List UInt8 → Bool
  | p :: a :: b :: _ => p == 37 && (hx a && hx b)
  | _ => false
theorem trip_len {l : List UInt8} (h : trip l = true) : 3 ≤ l.length := by
  match l, h with
  | p :: a :: b :: t, _ => simp
theorem trip_take (l : List UInt8) : trip (l.take 3) = trip l := by
  match l with
  | [] => rfl
  | [_] => rfl
  | [_, _] => rfl
  | p :: a :: b :: t => rfl
theorem trip_head {c : UInt8} {t : List UInt8} (h : trip (c :: t) = true) : c = 37 := by
  match t, h with
  | a :: b :: t, h => simp [trip] at h; exact h.1
/-- A sign, and its place. -/
structure Sg where
  at_ : Nat
  z : List UInt8
  ok : (z.length = 3 ∧ trip z = true) ∨ (z.length = 1 ∧ trip z = false)
theorem ok3 {l : List UInt8} (h : trip l = true) : ((l.take 3).length = 3 ∧ trip (l.take 3) = true) ∨ ((l.take 3).length = 1 ∧ trip (l.take 3) = false) := by
  have := trip_len h
  exact .inl ⟨by rw [List.length_take]; omega, by rw [trip_take]; exact h⟩
theorem ok1 (c : UInt8) : ([c].length = 3 ∧ trip [c] = true) ∨ ([c].length = 1 ∧ trip [c] = false) := .inr ⟨rfl, rfl⟩
/-- The signs of a text. -/
def sg (p : Nat) (l : List UInt8) : List Sg :=
  match l with
  | [] => []
  | c :: t => if h : trip (c :: t) = true then ⟨p, (c :: t).take 3, ok3 h⟩ :: sg (p + 3) (t.drop 2) else ⟨p, [c], ok1 c⟩ :: sg (p + 1) t
termination_by l.length
decreasing_by
  · simp; omega
  · simp
theorem sg_nil (p : Nat) : sg p [] = [] := by rw [sg]
theorem sg_trip (p : Nat) (l : List UInt8) (h : trip l = true) : sg p l = ⟨p, l.take 3, ok3 h⟩ :: sg (p + 3) (l.drop 3) := by
  match l, h with
  | c :: t, h => rw [sg, dif_pos h]; rfl
theorem sg_one (p : Nat) (c : UInt8) (t : List UInt8) (h : trip (c :: t) = false) : sg p (c :: t) = ⟨p, [c], ok1 c⟩ :: sg (p + 1) t := by
  rw [sg, dif_neg (by simp [h])]
theorem sg_len (p : Nat) (l : List UInt8) : (sg p l).length ≤ l.length := by
  match l with
  | [] => rw [sg_nil]; exact Nat.le_refl _
  | c :: t =>
    by_cases h : trip (c :: t) = true
    · rw [sg_trip p _ h]
      have := sg_len (p + 3) ((c :: t).drop 3)
      simp at this ⊢
      have := trip_len h
      simp at this
      omega
    · rw [sg_one p c t (by simpa using h)]
      have := sg_len (p + 1) t
      simp; omega
termination_by l.length
decreasing_by
  · simp; omega
  · simp
/-- What a sign stands for; its normal form. -/
def valS (x : Sg) : List UInt8 := match x.z with | [_, a, b] => [byteOf a b] | z => z
def unr (c : UInt8) : Bool := Oc.lettI (c.toNat : Int) || Oc.digI (c.toNat : Int) || [45, 46, 95, 126].contains c
def sub (c : UInt8) : Bool := [33, 36, 38, 39, 40, 41, 42, 43, 44, 59, 61].contains c
def col (c : UInt8) : Bool := c == 58 || c == 64
def cls (c : UInt8) : Int := if unr c then 1 else if sub c then 2 else if col c then 4 else if c == 47 then 8 else if c == 63 then 16 else 0
def hd (n : Nat) : UInt8 := [48, 49, 50, 51, 52, 53, 54, 55, 56, 57, 65, 66, 67, 68, 69, 70].getD n 0
def encB (c : UInt8) : List UInt8 := if unr c then [c] else [37, hd (c.toNat / 16), hd (c.toNat % 16)]
def enc (l : List UInt8) : List UInt8 := l.flatMap encB
def bad (x : Sg) : Bool := x.z == [37]
def decR (l : List UInt8) : List UInt8 × Nat × Int := match (sg 0 l).find? bad with | some x => ([], x.at_, 51) | none => ((sg 0 l).flatMap valS, 0, 0)
/-- The first sign that may not stand there, its error. -/
def wrong (ok : UInt8 → Bool) (x : Sg) : Bool := !(x.z.length == 3) && !ok (x.z.headD 0)
def chk (ok : UInt8 → Bool) (other : Int) (l : List UInt8) : Nat × Int := match (sg 0 l).find? (wrong ok) with | some x => (x.at_, if x.z = [37] then 51 else other) | none => (0, 0)
def nt (x : Sg) : List UInt8 := if x.z.length = 3 then enc (valS x) else x.z
def ntr (l : List UInt8) : List UInt8 := (sg 0 l).flatMap nt
def nameOk (c : UInt8) : Bool := unr c || sub c
def pathOk (c : UInt8) : Bool := unr c || sub c || col c || c == 47
def queryOk (c : UInt8) : Bool := unr c || sub c || col c || c == 47 || c == 63

/-- The pieces between a byte. -/
def cutA (b : UInt8) (l : List UInt8) : List UInt8 := l.takeWhile (· != b)
def cutB (b : UInt8) (l : List UInt8) : List UInt8 := (l.dropWhile (· != b)).drop 1
def has (b : UInt8) (l : List UInt8) : Bool := l.contains b
def splitB (b : UInt8) : List UInt8 → List (List UInt8)
  | [] => [[]]
  | c :: t => if c == b then [] :: splitB b t else match splitB b t with | h :: r => (c :: h) :: r | [] => [[c]]
theorem splitB_ne (b : UInt8) (l : List UInt8) : splitB b l ≠ [] := by
  cases l with
  | nil => simp [splitB]
  | cons c t =>
    unfold splitB
    by_cases h : (c == b) = true
    · rw [if_pos h]; simp
    · rw [if_neg h]; split <;> simp
theorem splitB_cons (b c : UInt8) (t : List UInt8) : splitB b (c :: t) = if c == b then [] :: splitB b t else match splitB b t with | h :: r => (c :: h) :: r | [] => [[c]] := rfl
theorem split_cut (b : UInt8) (l : List UInt8) : splitB b l = cutA b l :: if has b l then splitB b (cutB b l) else [] := by
  induction l with
  | nil => rfl
  | cons c t ih =>
    rw [splitB_cons]
    by_cases h : c = b
    · subst h
      simp [cutA, cutB, has]
    · have h2 : ¬ b = c := fun e => h e.symm
      have e1 : cutA b (c :: t) = c :: cutA b t := by simp [cutA, h]
      have e2 : cutB b (c :: t) = cutB b t := by simp [cutB, h]
      have e3 : has b (c :: t) = has b t := by simp [has, h2]
      rw [if_neg (by simpa using h), ih, e1, e2, e3]
theorem split_len (b : UInt8) (l : List UInt8) : (splitB b l).length ≤ l.length + 1 := by
  induction l with
  | nil => simp [splitB]
  | cons c t ih =>
    unfold splitB
    by_cases h : (c == b) = true
    · rw [if_pos h]; simp; omega
    · rw [if_neg h]
      revert ih
      cases splitB b t with
      | nil => simp
      | cons h r => simp; omega
theorem cutA_len (b : UInt8) (l : List UInt8) : (cutA b l).length ≤ l.length := (List.takeWhile_sublist _).length_le
theorem cutB_len (b : UInt8) (l : List UInt8) : (cutB b l).length ≤ l.length := by
  unfold cutB
  have := (List.dropWhile_sublist (fun x => x != b) (l := l)).length_le
  rw [List.length_drop]
  omega

end Tg
end Go.Proofs.YtepidekmnkempaaDoor

/-
  Plain: what the library's cut says of one byte.
-/
set_option linter.unusedVariables false
set_option linter.unusedSimpArgs false
namespace Go.Proofs.YtepidekmnkempaaDoor
namespace Tg

theorem index_cons_one (b c : UInt8) (t : List UInt8) : Lib.index (c :: t) [b] = if c = b then 0 else if Lib.index t [b] = -1 then -1 else Lib.index t [b] + 1 := by
  by_cases h : c = b
  · subst h; simp [Lib.index, List.isPrefixOf]
  · have h2 : ¬ b = c := fun e => h e.symm
    simp [Lib.index, List.isPrefixOf, h, h2]
theorem index_one (b : UInt8) (l : List UInt8) : Lib.index l [b] = if has b l then ((cutA b l).length : Int) else -1 := by
  induction l with
  | nil => rfl
  | cons c t ih =>
    rw [index_cons_one, ih]
    by_cases h : c = b
    · subst h; simp [has, cutA]
    · have h2 : ¬ b = c := fun e => h e.symm
      have e1 : cutA b (c :: t) = c :: cutA b t := by simp [cutA, h]
      have e3 : has b (c :: t) = has b t := by simp [has, h2]
      rw [if_neg h, e1, e3]
      cases has b t with
      | true => simp
      | false => simp
theorem cutA_all (b : UInt8) (l : List UInt8) (h : has b l = false) : cutA b l = l := by
  induction l with
  | nil => rfl
  | cons c t ih =>
    have h' : ¬ b = c ∧ has b t = false := by simpa [has] using h
    have h2 : ¬ c = b := fun e => h'.1 e.symm
    have e1 : cutA b (c :: t) = c :: cutA b t := by simp [cutA, h2]
    rw [e1, ih h'.2]
theorem cutB_none (b : UInt8) (l : List UInt8) (h : has b l = false) : cutB b l = [] := by
  induction l with
  | nil => rfl
  | cons c t ih =>
    have h' : ¬ b = c ∧ has b t = false := by simpa [has] using h
    have h2 : ¬ c = b := fun e => h'.1 e.symm
    have e2 : cutB b (c :: t) = cutB b t := by simp [cutB, h2]
    rw [e2, ih h'.2]
theorem cut_app (b : UInt8) (l : List UInt8) (h : has b l = true) : cutA b l ++ b :: cutB b l = l := by
  induction l with
  | nil => simp [has] at h
  | cons c t ih =>
    by_cases e : c = b
    · subst e; simp [cutA, cutB]
    · have h2 : ¬ b = c := fun x => e x.symm
      have e1 : cutA b (c :: t) = c :: cutA b t := by simp [cutA, e]
      have e2 : cutB b (c :: t) = cutB b t := by simp [cutB, e]
      have e3 : has b t = true := by simpa [has, h2] using h
      rw [e1, e2, List.cons_append, ih e3]
theorem cut_one (b : UInt8) (l : List UInt8) : Lib.cut l [b] = (cutA b l, cutB b l, has b l) := by
  unfold Lib.cut
  rw [index_one]
  cases h : has b l with
  | true =>
    rw [if_pos rfl, if_pos (by omega)]
    have e := cut_app b l h
    generalize cutA b l = A at *
    generalize cutB b l = B at *
    subst e
    simp
  | false =>
    rw [if_neg (by simp)]
    simp [cutA_all b l h, cutB_none b l h]

end Tg
end Go.Proofs.YtepidekmnkempaaDoor

/-
  Media types and words with parameters, plainly: the two ways to read them.
-/
set_option linter.unusedVariables false
set_option linter.unusedSimpArgs false
namespace Go.Proofs.YtepidekmnkempaaDoor
namespace Ac
open Oc Tg

/-- A byte that ends what stands ahead of parameters. -/
def endB (c : UInt8) : Bool := c == 59 || c == 32 || c == 9
def hdLen (l : List UInt8) : Nat := (l.takeWhile (fun c => !endB c)).length
def lowP (p : Prm) : Prm := (lower p.1, p.2.1, p.2.2)
/-- The parameters go on to the end. -/
def full (l : List UInt8) : Prop := (paramsR l).2.2 = 0 ∧ (paramsR l).2.1 = l.length
instance (l : List UInt8) : Decidable (full l) := by unfold full; infer_instance
def psOf (l : List UInt8) : List Prm := (paramsR l).1.map lowP
/-- What stands ahead, and the parameters. -/
def cutP (l : List UInt8) : Option (List UInt8 × List Prm) := if full (l.drop (hdLen l)) then some (l.take (hdLen l), psOf (l.drop (hdLen l))) else none
abbrev Med := List UInt8 × List UInt8 × List Prm
/-- A media type or a range. -/
def med (l : List UInt8) : Option Med := match cutP l with
  | none => none
  | some x => if isTok (cutA 47 x.1) && isTok (cutB 47 x.1) then some (lower (cutA 47 x.1), lower (cutB 47 x.1), x.2) else none
/-- The document's. -/
def jAt (l : List UInt8) : Nat := tokLen l + 1 + tokLen (l.drop (tokLen l + 1))
def condR (l : List UInt8) : Prop := 0 < tokLen l ∧ tokLen l < l.length ∧ l.getD (tokLen l) 0 = 47 ∧ 0 < tokLen (l.drop (tokLen l + 1))
instance (l : List UInt8) : Decidable (condR l) := by unfold condR; infer_instance
def partsR (l : List UInt8) : Option Med :=
  if condR l ∧ full (l.drop (jAt l)) then some (lower (l.take (tokLen l)), lower ((l.drop (tokLen l + 1)).take (tokLen (l.drop (tokLen l + 1)))), psOf (l.drop (jAt l))) else none
/-- A word with parameters: the program's, and the document's. -/
def wrd (l : List UInt8) : Option (List UInt8 × List Prm) := match cutP l with
  | none => none
  | some x => if isTok x.1 then some x else none
def wrdR (l : List UInt8) : Option (List UInt8 × List Prm) := if 0 < tokLen l ∧ full (l.drop (tokLen l)) then some (l.take (tokLen l), psOf (l.drop (tokLen l))) else none

theorem tw_len {p : UInt8 → Bool} (K R : List UInt8) (hK : ∀ c ∈ K, p c = true) (hR : ∀ c, R.head? = some c → p c = false) : ((K ++ R).takeWhile p).length = K.length := by
  induction K with
  | nil =>
    cases R with
    | nil => rfl
    | cons c R => simp [List.takeWhile, hR c rfl]
  | cons a K ih =>
    have ha := hK a (by simp)
    simp only [List.cons_append, List.takeWhile_cons, ha, if_true, List.length_cons]
    rw [ih (fun c hc => hK c (by simp [hc]))]
theorem tw_take {p : UInt8 → Bool} (l : List UInt8) : ∀ c ∈ l.take (l.takeWhile p).length, p c = true := by
  have e : l.take (l.takeWhile p).length = l.takeWhile p := by
    have h := List.take_left (l₁ := l.takeWhile p) (l₂ := l.dropWhile p)
    rwa [List.takeWhile_append_dropWhile] at h
  rw [e]
  intro c hc
  have := List.all_takeWhile (p := p) (l := l)
  exact List.all_eq_true.1 this c hc
theorem tw_drop {p : UInt8 → Bool} (l : List UInt8) : ∀ c, (l.drop (l.takeWhile p).length).head? = some c → p c = false := by
  intro c hc
  have e : l.drop (l.takeWhile p).length = l.dropWhile p := by
    have h := List.drop_left (l₁ := l.takeWhile p) (l₂ := l.dropWhile p)
    rwa [List.takeWhile_append_dropWhile] at h
  rw [e] at hc
  have := List.head?_dropWhile_not p l
  rw [hc] at this
  simpa using this
theorem tok_end {c : UInt8} (h : tokB c = true) : endB c = false := by
  unfold endB
  rw [Bool.or_eq_false_iff, Bool.or_eq_false_iff]
  refine ⟨⟨?_, ?_⟩, ?_⟩
  all_goals
    rw [beq_eq_false_iff_ne]
    rintro rfl
    revert h
    decide
theorem tok_slash {c : UInt8} (h : tokB c = true) : c ≠ 47 := by rintro rfl; revert h; decide
theorem isTok_iff (l : List UInt8) : isTok l = true ↔ l ≠ [] ∧ ∀ c ∈ l, tokB c = true := by
  unfold isTok
  rw [Bool.and_eq_true, List.all_eq_true]
  cases l <;> simp
/-- Where neither a blank nor a semicolon stands ahead there are no parameters. -/
theorem params_none (c : UInt8) (r : List UInt8) (h : endB c = false) : paramsR (c :: r) = ([], 0, 0) := by
  have hb : blankB c = false := by
    unfold endB at h
    rw [Bool.or_eq_false_iff, Bool.or_eq_false_iff] at h
    unfold blankB
    have h1 : c.toNat ≠ 32 := fun e => beq_eq_false_iff_ne.1 h.1.2 (UInt8.toNat_inj.1 e)
    have h2 : c.toNat ≠ 9 := fun e => beq_eq_false_iff_ne.1 h.2 (UInt8.toNat_inj.1 e)
    simp [blankI]
    omega
  have h59 : c ≠ 59 := by
    rintro rfl
    revert h; decide
  have e0 : bl (c :: r) = 0 := by simp [bl, List.takeWhile, hb]
  have hs : semi (c :: r) (bl (c :: r)) = false := by rw [e0]; unfold semi; simp [h59]
  exact paramsR_some (x := ([], 0)) (prm_end (pstep_stop hs))
theorem not_full (c : UInt8) (r : List UInt8) (h : endB c = false) : ¬ full (c :: r) := by
  unfold full
  rw [params_none c r h]
  simp
  omega
theorem full_head {l : List UInt8} (h : full l) : ∀ c, l.head? = some c → endB c = true := by
  intro c hc
  cases l with
  | nil => simp at hc
  | cons a r =>
    obtain rfl : a = c := by simpa using hc
    cases e : endB a with
    | true => rfl
    | false => exact absurd h (not_full a r e)

/-- The parts of a text that begins with a token. -/
theorem tok_parts (l : List UInt8) : l = l.take (tokLen l) ++ l.drop (tokLen l) ∧ (∀ c ∈ l.take (tokLen l), tokB c = true) ∧ (∀ c, (l.drop (tokLen l)).head? = some c → tokB c = false) :=
  ⟨(List.take_append_drop _ _).symm, tw_take l, tw_drop l⟩
theorem tokLen_app (K R : List UInt8) (hK : ∀ c ∈ K, tokB c = true) (hR : ∀ c, R.head? = some c → tokB c = false) : tokLen (K ++ R) = K.length := tw_len K R hK hR
theorem hdLen_app (H R : List UInt8) (hH : ∀ c ∈ H, endB c = false) (hR : ∀ c, R.head? = some c → endB c = true) : hdLen (H ++ R) = H.length :=
  tw_len H R (fun c hc => by rw [hH c hc]; rfl) (fun c hc => by rw [hR c hc]; rfl)
theorem end_tok {c : UInt8} (h : endB c = true) : tokB c = false := by
  cases e : tokB c with
  | false => rfl
  | true => rw [tok_end e] at h; cases h

theorem wrd_eq (l : List UInt8) : wrd l = wrdR l := by
  unfold wrdR
  split
  · rename_i h
    obtain ⟨e, hK, hR⟩ := tok_parts l
    have hh : hdLen l = tokLen l := by
      have := hdLen_app (l.take (tokLen l)) (l.drop (tokLen l)) (fun c hc => tok_end (hK c hc)) (full_head h.2)
      rw [← e] at this
      rw [this, List.length_take]
      have := tokLen_le l
      omega
    unfold wrd cutP
    rw [hh, if_pos h.2]
    have : isTok (l.take (tokLen l)) = true := (isTok_iff _).2 ⟨fun e => by
      have h2 := congrArg List.length e
      rw [List.length_take, List.length_nil] at h2
      have h3 := tokLen_le l
      have h4 := h.1
      omega, hK⟩
    simp only [this, if_true]
  · rename_i h
    unfold wrd cutP
    split
    · rfl
    · rename_i x hx
      split at hx
      · rename_i hf
        cases hx
        split
        · rename_i ht
          exfalso
          apply h
          obtain ⟨hne, hall⟩ := (isTok_iff _).1 ht
          have ht2 : tokLen l = hdLen l := by
            have := tokLen_app (l.take (hdLen l)) (l.drop (hdLen l)) hall (fun c hc => end_tok (full_head hf c hc))
            rw [List.take_append_drop] at this
            rw [this, List.length_take]
            have : hdLen l ≤ l.length := (List.takeWhile_sublist _).length_le
            omega
          rw [ht2]
          refine ⟨?_, hf⟩
          rcases Nat.eq_zero_or_pos (hdLen l) with h0 | h0
          · rw [h0] at hne; simp at hne
          · exact h0
        · rfl
      · cases hx

theorem cut_slash (K S : List UInt8) (hK : ∀ c ∈ K, tokB c = true) : cutA 47 (K ++ 47 :: S) = K ∧ cutB 47 (K ++ 47 :: S) = S := by
  have e : ∀ c ∈ K, (c != 47) = true := fun c hc => by simp [tok_slash (hK c hc)]
  constructor
  · unfold cutA
    rw [List.takeWhile_append_of_pos e]
    simp
  · unfold cutB
    rw [List.dropWhile_append_of_pos e]
    simp
theorem shape (K S R : List UInt8) (hK : ∀ c ∈ K, tokB c = true) (hS : ∀ c ∈ S, tokB c = true) (hR : ∀ c, R.head? = some c → tokB c = false) :
    tokLen (K ++ 47 :: (S ++ R)) = K.length ∧ (K ++ 47 :: (S ++ R)).drop (K.length + 1) = S ++ R ∧ tokLen (S ++ R) = S.length ∧ (K ++ 47 :: (S ++ R)).take K.length = K := by
  refine ⟨tokLen_app _ _ hK (fun c hc => by simp at hc; subst hc; decide), ?_, tokLen_app _ _ hS hR, List.take_left⟩
  rw [show K ++ 47 :: (S ++ R) = (K ++ [47]) ++ (S ++ R) by simp, show K.length + 1 = (K ++ [47]).length by simp, List.drop_left]
theorem parts_shape (K S R : List UInt8) (hK : ∀ c ∈ K, tokB c = true) (hS : ∀ c ∈ S, tokB c = true) (hR : ∀ c, R.head? = some c → tokB c = false) (kn : K ≠ []) (sn : S ≠ []) :
    partsR (K ++ 47 :: (S ++ R)) = if full R then some (lower K, lower S, psOf R) else none := by
  obtain ⟨a, b, c, d⟩ := shape K S R hK hS hR
  have p1 : 0 < K.length := List.length_pos_iff.2 kn
  have p2 : 0 < S.length := List.length_pos_iff.2 sn
  have hj : (K ++ 47 :: (S ++ R)).drop (jAt (K ++ 47 :: (S ++ R))) = R := by
    unfold jAt
    rw [a, b, c, ← List.drop_drop, b, List.drop_left]
  have hc : condR (K ++ 47 :: (S ++ R)) := by
    unfold condR
    rw [a, b, c]
    exact ⟨p1, by simp, by simp [List.getD_eq_getElem?_getD], p2⟩
  unfold partsR
  rw [hj, a, b, c, d, List.take_left]
  by_cases hf : full R
  · rw [if_pos ⟨hc, hf⟩, if_pos hf]
  · rw [if_neg (fun h => hf h.2), if_neg hf]
theorem med_shape (K S R : List UInt8) (hK : ∀ c ∈ K, tokB c = true) (hS : ∀ c ∈ S, tokB c = true) (hR : ∀ c, R.head? = some c → endB c = true) (kn : K ≠ []) (sn : S ≠ []) :
    med (K ++ 47 :: (S ++ R)) = if full R then some (lower K, lower S, psOf R) else none := by
  have hh : hdLen (K ++ 47 :: (S ++ R)) = (K ++ 47 :: S).length := by
    rw [show K ++ 47 :: (S ++ R) = (K ++ 47 :: S) ++ R by simp]
    exact hdLen_app _ _ (fun c hc => by
      rcases List.mem_append.1 hc with h | h
      · exact tok_end (hK c h)
      · rcases List.mem_cons.1 h with rfl | h
        · decide
        · exact tok_end (hS c h)) hR
  have hd : (K ++ 47 :: (S ++ R)).drop (K ++ 47 :: S).length = R := by
    rw [show K ++ 47 :: (S ++ R) = (K ++ 47 :: S) ++ R by simp, List.drop_left]
  have ht : (K ++ 47 :: (S ++ R)).take (K ++ 47 :: S).length = K ++ 47 :: S := by
    rw [show K ++ 47 :: (S ++ R) = (K ++ 47 :: S) ++ R by simp, List.take_left]
  obtain ⟨c1, c2⟩ := cut_slash K S hK
  unfold med cutP
  rw [hh, hd, ht]
  by_cases hf : full R
  · rw [if_pos hf, if_pos hf]
    simp only [c1, c2, (isTok_iff _).2 ⟨kn, hK⟩, (isTok_iff _).2 ⟨sn, hS⟩, Bool.and_self, if_true]
  · rw [if_neg hf, if_neg hf]
theorem med_some (l : List UInt8) (h : med l ≠ none) : ∃ K S R, l = K ++ 47 :: (S ++ R) ∧ (∀ c ∈ K, tokB c = true) ∧ (∀ c ∈ S, tokB c = true) ∧ K ≠ [] ∧ S ≠ [] ∧ (∀ c, R.head? = some c → endB c = true) := by
  unfold med cutP at h
  by_cases hf : full (l.drop (hdLen l))
  · rw [if_pos hf] at h
    dsimp only at h
    split at h
    · rename_i htk
      rw [Bool.and_eq_true] at htk
      obtain ⟨t1, t2⟩ := htk
      obtain ⟨n1, a1⟩ := (isTok_iff _).1 t1
      obtain ⟨n2, a2⟩ := (isTok_iff _).1 t2
      have hhas : has 47 (l.take (hdLen l)) = true := by
        cases hx : has 47 (l.take (hdLen l)) with
        | true => rfl
        | false => exact absurd (cutB_none 47 _ hx) n2
      have hap := cut_app 47 _ hhas
      refine ⟨_, _, l.drop (hdLen l), ?_, a1, a2, n1, n2, full_head hf⟩
      rw [← List.cons_append, ← List.append_assoc, hap, List.take_append_drop]
    · exact absurd rfl h
  · rw [if_neg hf] at h
    exact absurd rfl h
theorem cond_shape (l : List UInt8) (hc : condR l) : ∃ K S R, l = K ++ 47 :: (S ++ R) ∧ (∀ c ∈ K, tokB c = true) ∧ (∀ c ∈ S, tokB c = true) ∧ K ≠ [] ∧ S ≠ [] ∧ (∀ c, R.head? = some c → tokB c = false) := by
  obtain ⟨h0, h1, h2, h3⟩ := hc
  obtain ⟨e, hK, hR⟩ := tok_parts l
  obtain ⟨e2, hS, hR2⟩ := tok_parts (l.drop (tokLen l + 1))
  have hd : l.drop (tokLen l) = 47 :: l.drop (tokLen l + 1) := by
    rw [List.drop_eq_getElem_cons h1]
    rw [List.getD_eq_getElem?_getD, List.getElem?_eq_getElem h1] at h2
    simp at h2
    rw [h2]
  have hKl : (l.take (tokLen l)).length = tokLen l := by rw [List.length_take]; omega
  have hSl : ((l.drop (tokLen l + 1)).take (tokLen (l.drop (tokLen l + 1)))).length = tokLen (l.drop (tokLen l + 1)) := by
    rw [List.length_take]; have := tokLen_le (l.drop (tokLen l + 1)); omega
  refine ⟨_, _, _, ?_, hK, hS, fun h => ?_, fun h => ?_, hR2⟩
  · rw [← e2, ← hd]; exact e
  · rw [h] at hKl; simp at hKl; omega
  · rw [h] at hSl; simp at hSl; omega
theorem med_eq (l : List UInt8) : med l = partsR l := by
  by_cases hm : med l = none
  · rw [hm]
    unfold partsR
    split
    · rename_i h
      obtain ⟨K, S, R, rfl, hK, hS, kn, sn, hR⟩ := cond_shape l h.1
      exfalso
      have hf : full R := by
        have := h.2
        obtain ⟨a, b, c, d⟩ := shape K S R hK hS hR
        unfold jAt at this
        rw [a, b, c, ← List.drop_drop, b, List.drop_left] at this
        exact this
      rw [med_shape K S R hK hS (full_head hf) kn sn, if_pos hf] at hm
      cases hm
    · rfl
  · obtain ⟨K, S, R, rfl, hK, hS, kn, sn, hR⟩ := med_some l hm
    rw [med_shape K S R hK hS hR kn sn, parts_shape K S R hK hS (fun c hc => end_tok (hR c hc)) kn sn]

end Ac
end Go.Proofs.YtepidekmnkempaaDoor
