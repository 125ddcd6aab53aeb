/-
  sheet: what the document's loops find, in the words of the program's reader (plain).
-/
import Derived.Test.YtlnlhhobmgiceaaGreatDoorSrQ
set_option linter.unusedVariables false
set_option linter.unusedSimpArgs false
namespace Go.Proofs.YtlnlhhobmgiceaaGreatDoor
open Go.RowKit Go.Shelf
namespace Sr
open Oc Tg Mf

theorem noOcc_zero (r p : List UInt8) : Lib.NoOcc r p 0 := fun j h => absurd h (Nat.not_lt_zero _)
theorem noOcc_succ {r p : List UInt8} {j : Nat} (h : Lib.NoOcc r p j) (ho : Lib.occAt r p j = false) : Lib.NoOcc r p (j + 1) := fun k hk => by
  rcases Nat.lt_or_ge k j with h1 | h1
  · exact h k h1
  · rw [show k = j by omega]; exact ho
theorem cut_hit {r p : List UInt8} {j : Nat} (h : Lib.NoOcc r p j) (hj : j ≤ r.length) (ho : Lib.occAt r p j = true) : Lib.cut r p = (r.take j, r.drop (j + p.length), true) := by
  have hi := Lib.index_hit h hj ho
  unfold Lib.cut
  rw [hi, if_pos (by omega), Int.toNat_natCast]
theorem cut_past {r p : List UInt8} {j : Nat} (hp : p ≠ []) (h : Lib.NoOcc r p j) (hj : r.length < j + p.length) : Lib.cut r p = (r, [], false) := by
  have hi := Lib.index_past hp h hj
  unfold Lib.cut
  rw [hi, if_neg (by decide)]
theorem occ_drop (l p : List UInt8) (a j : Nat) : Lib.occAt (l.drop a) p j = Lib.hasPrefix (l.drop (a + j)) p := by
  unfold Lib.occAt Lib.hasPrefix
  rw [List.drop_drop]
theorem pre_app (r p q : List UInt8) : Lib.hasPrefix r (p ++ q) = (Lib.hasPrefix r p && Lib.hasPrefix (r.drop p.length) q) := by
  unfold Lib.hasPrefix
  induction p generalizing r with
  | nil => simp
  | cons c p ih =>
    cases r with
    | nil => simp [List.isPrefixOf]
    | cons d r =>
      simp only [List.cons_append, List.isPrefixOf, List.length_cons, List.drop_succ_cons]
      rw [ih, Bool.and_assoc]

/-- The search for the first mark, so far. -/
def P1 (l mk : List UInt8) (a : Nat) : Prop := a = 0 ∨ (Lib.hasPrefix l mk = false ∧ Lib.NoOcc l ([13, 10] ++ mk) (a - 2))
/-- The mark stands at a place, at the front or behind a line's end. -/
def C1 (l mk : List UInt8) (a : Nat) : Bool := Lib.hasPrefix (l.drop a) mk && (decide (a = 0) || (decide (2 ≤ a) && Lib.hasPrefix (l.drop (a - 2)) [13, 10]))
theorem C1_two {l mk : List UInt8} {a : Nat} (h : 2 ≤ a) : C1 l mk a = Lib.occAt l ([13, 10] ++ mk) (a - 2) := by
  have e := occ_drop l ([13, 10] ++ mk) 0 (a - 2)
  rw [List.drop_zero, Nat.zero_add] at e
  rw [e, pre_app, List.drop_drop, show a - 2 + ([13, 10] : List UInt8).length = a by simp; omega]
  unfold C1
  rw [decide_eq_false (show ¬ a = 0 by omega), decide_eq_true h, Bool.false_or, Bool.true_and, Bool.and_comm]
theorem P1_step {l mk : List UInt8} {a : Nat} (h : P1 l mk a) (hc : C1 l mk a = false) : P1 l mk (a + 1) := by
  right
  by_cases h0 : a = 0
  · subst h0
    unfold C1 at hc
    simp at hc
    exact ⟨hc, noOcc_zero _ _⟩
  · obtain ⟨hp, hn⟩ := h.resolve_left h0
    refine ⟨hp, ?_⟩
    by_cases h2 : 2 ≤ a
    · rw [C1_two h2] at hc
      rw [show a + 1 - 2 = (a - 2) + 1 by omega]
      exact noOcc_succ hn hc
    · rw [show a + 1 - 2 = 0 by omega]
      exact noOcc_zero _ _
theorem P1_hit {l mk : List UInt8} {a : Nat} (h : P1 l mk a) (ha : a ≤ l.length) (hc : C1 l mk a = true) : preP l mk = (none, a) := by
  unfold preP
  by_cases h0 : a = 0
  · subst h0
    unfold C1 at hc
    simp at hc
    rw [if_pos hc]
  · obtain ⟨hp, hn⟩ := h.resolve_left h0
    rw [if_neg (by rw [hp]; decide)]
    have h2 : 2 ≤ a := by
      unfold C1 at hc
      simp [h0] at hc
      exact hc.2.1
    rw [C1_two h2] at hc
    unfold bytP
    rw [cut_hit hn (by omega) hc]
    simp
    omega
theorem P1_past {l mk : List UInt8} {a : Nat} (h : P1 l mk a) (hm : 2 ≤ mk.length) (ha : a = l.length + 1) : preP l mk = (some ((l.length : Int), 154), 0) := by
  obtain ⟨hp, hn⟩ := h.resolve_left (by omega)
  unfold preP
  rw [if_neg (by rw [hp]; decide)]
  unfold bytP
  rw [cut_past (by simp) hn (by simp; omega)]
  simp
theorem C1_len {l mk : List UInt8} {a : Nat} (hm : 1 ≤ mk.length) (h : C1 l mk a = true) : a + mk.length ≤ l.length := by
  unfold C1 at h
  simp at h
  have := (List.isPrefixOf_iff_prefix.1 h.1).length_le
  rw [List.length_drop] at this
  omega

/-- What the document's tail says. -/
def tailR (r : List UInt8) : Int × Bool :=
  if trimL r = [] ∨ trimL r = [13] then (0, true)
  else if Lib.hasPrefix (trimL r) [13, 10] = true then (((r.length - (trimL r).length : Nat) : Int) + 2, false)
  else (-1, false)

section
variable (l : List UInt8) (a k : Nat) (last : Bool) (r : List UInt8) (hr : l.drop (a + k) = r)
theorem trim45 (x : List UInt8) : trimL (45 :: x) = 45 :: x := by rw [trimL_cons]; rfl
include hr
theorem tk_done (hl : last = true) (h1 : Lib.hasPrefix r [45, 45] = true) (h2 : r.length = 2 ∨ Lib.hasPrefix (r.drop 2) [13, 10] = true) : tkP l a k last = (true, none, a) := by
  unfold tkP
  rw [hr]
  obtain ⟨r2, e2⟩ : ∃ r2, r = 45 :: 45 :: r2 := by obtain ⟨t, ht⟩ := List.isPrefixOf_iff_prefix.1 h1; exact ⟨t, by rw [← ht]; rfl⟩
  subst e2
  rw [trim45, if_neg (by simp [Lib.hasPrefix, List.isPrefixOf]), if_pos]
  refine ⟨hl, ?_⟩
  rcases h2 with h2 | h2
  · left
    have : r2 = [] := by simpa using h2
    rw [this]
  · right
    simpa [Lib.hasPrefix, List.isPrefixOf] using h2
theorem tk_shut1 (hl : last = true) (h : r = [45, 45, 13]) : tkP l a k last = (false, some ((l.length : Int), 154), a) := by
  unfold tkP
  rw [hr, h, hl]
  rfl
theorem tk_bnd1 (hl : last = true) (h1 : Lib.hasPrefix r [45, 45] = true) (h2 : ¬ (r.length = 2 ∨ Lib.hasPrefix (r.drop 2) [13, 10] = true)) (h3 : ¬ r = [45, 45, 13]) : tkP l a k last = (false, some (((a + k : Nat) : Int), 151), a) := by
  unfold tkP
  rw [hr]
  obtain ⟨r2, e2⟩ : ∃ r2, r = 45 :: 45 :: r2 := by obtain ⟨t, ht⟩ := List.isPrefixOf_iff_prefix.1 h1; exact ⟨t, by rw [← ht]; rfl⟩
  subst e2
  rw [trim45, if_neg (by simp [Lib.hasPrefix, List.isPrefixOf]), if_neg, if_neg]
  · rintro (h | ⟨_, h⟩)
    · simp [Lib.hasPrefix, List.isPrefixOf] at h
    · match r2 with
      | [] => exact h2 (.inl rfl)
      | [c] =>
        simp [Lib.hasPrefix, List.isPrefixOf] at h
        exact h3 (by rw [h])
      | [c, d] =>
        simp [Lib.hasPrefix, List.isPrefixOf] at h
        exact h2 (.inr (by rw [h.1, h.2]; rfl))
      | c :: d :: e :: f => simp [Lib.hasPrefix, List.isPrefixOf] at h
  · rintro ⟨_, h | h⟩
    · have : r2 = [] := by simpa using h
      exact h2 (.inl (by rw [this]; rfl))
    · exact h2 (.inr (by simpa [Lib.hasPrefix, List.isPrefixOf] using h))
theorem tk_ok (h : (tailR r).2 = false) (h0 : 0 ≤ (tailR r).1) : tkP l a k last = (false, none, l.length - (trimL r).length + 2) ∧ (tailR r).1 = ((r.length - (trimL r).length : Nat) : Int) + 2 := by
  unfold tailR at h h0 ⊢
  split at h
  · cases h
  · rename_i n1
    rw [if_neg n1] at h0 ⊢
    split at h
    · rename_i n2
      rw [if_pos n2]
      unfold tkP
      rw [hr, if_pos n2]
      exact ⟨rfl, rfl⟩
    · rename_i n2
      rw [if_neg n2] at h0
      simp at h0
theorem tk_shut2 (h1 : ¬ (last = true ∧ Lib.hasPrefix r [45, 45] = true)) (h : (tailR r).2 = true ∨ (last = true ∧ r = [45])) : tkP l a k last = (false, some ((l.length : Int), 154), a) := by
  have ht : (trimL r = [] ∨ trimL r = [13]) ∨ (last = true ∧ r = [45]) := by
    rcases h with h | h
    · left
      unfold tailR at h
      split at h
      · assumption
      · split at h <;> cases h
    · exact .inr h
  unfold tkP
  rw [hr]
  have n1 : ¬ Lib.hasPrefix (trimL r) [13, 10] = true := by
    rcases ht with (h | h) | ⟨_, h⟩
    · rw [h]; decide
    · rw [h]; decide
    · rw [h]; decide
  have n2 : ¬ (last = true ∧ (r = [45, 45] ∨ Lib.hasPrefix r [45, 45, 13, 10] = true)) := by
    rintro ⟨hl, h | h⟩
    · exact h1 ⟨hl, by rw [h]; rfl⟩
    · exact h1 ⟨hl, by
        have : Lib.hasPrefix r ([45, 45] ++ [13, 10]) = true := h
        rw [pre_app] at this
        simp at this
        exact this.1⟩
  rw [if_neg n1, if_neg n2, if_pos]
  rcases ht with (h | h) | ⟨hl, h⟩
  · left; rw [h]; rfl
  · left; rw [h]; rfl
  · right; exact ⟨hl, by rw [h]; rfl⟩
theorem tk_bnd2 (h1 : ¬ (last = true ∧ Lib.hasPrefix r [45, 45] = true)) (h2 : (tailR r).2 = false) (h3 : (tailR r).1 < 0) (h4 : ¬ (last = true ∧ r = [45])) : tkP l a k last = (false, some (((a + k : Nat) : Int), 151), a) := by
  have ht : ¬ (trimL r = [] ∨ trimL r = [13]) ∧ ¬ Lib.hasPrefix (trimL r) [13, 10] = true := by
    unfold tailR at h2 h3
    split at h2
    · cases h2
    · rename_i n1
      rw [if_neg n1] at h3
      split at h2
      · rename_i n2
        rw [if_pos n2] at h3
        dsimp only at h3
        omega
      · rename_i n2
        exact ⟨n1, n2⟩
  unfold tkP
  rw [hr, if_neg ht.2, if_neg, if_neg]
  · rintro (h | ⟨hl, h⟩)
    · apply ht.1
      generalize trimL r = t at *
      match t with
      | [] => exact .inl rfl
      | [c] => right; simp [Lib.hasPrefix, List.isPrefixOf] at h; rw [h]
      | [c, d] => exact absurd (by simp [Lib.hasPrefix, List.isPrefixOf] at h; rw [h.1, h.2]; rfl) ht.2
      | c :: d :: e :: f => simp [Lib.hasPrefix, List.isPrefixOf] at h
    · match r with
      | [] => exact ht.1 (.inl rfl)
      | [c] => exact h4 ⟨hl, by simp [Lib.hasPrefix, List.isPrefixOf] at h; rw [h]⟩
      | c :: d :: e => exact h1 ⟨hl, by simp [Lib.hasPrefix, List.isPrefixOf] at h ⊢; exact ⟨h.1.symm, h.2.1.symm⟩⟩
  · rintro ⟨hl, h | h⟩
    · exact h1 ⟨hl, by rw [h]; rfl⟩
    · exact h1 ⟨hl, by
        have : Lib.hasPrefix r ([45, 45] ++ [13, 10]) = true := h
        rw [pre_app] at this
        simp at this
        exact this.1⟩
end

/-- The lines' loop: the answer of the fields is told from here on. -/
theorem fld_end {l : List UInt8} {a : Nat} (h : Lib.NoOcc (l.drop a) [13, 10] (l.length - a)) (x : Pt.P5) (d t : Bool) : fldP l.length (lnsR (l.drop a) a) x d t = (Pt.p0, some ((l.length : Int), 154), 0) := by
  rw [lnsR_end a (by unfold ct; rw [cut_past (by simp) h (by rw [List.length_drop]; simp)])]
  rfl
theorem fld_step {l : List UInt8} {a j : Nat} (h : Lib.NoOcc (l.drop a) [13, 10] j) (hj : a + j ≤ l.length) (ha : a ≤ l.length) (ho : Lib.hasPrefix (l.drop (a + j)) [13, 10] = true) (x : Pt.P5) (d t : Bool) :
    fldP l.length (lnsR (l.drop a) a) x d t = fldP l.length ((a, (l.drop a).take j) :: lnsR (l.drop (a + j + 2)) (a + j + 2)) x d t := by
  have hc : ct (l.drop a) = ((l.drop a).take j, (l.drop a).drop (j + 2), true) := by unfold ct; exact cut_hit h (by rw [List.length_drop]; omega) (by rw [occ_drop]; exact ho)
  rw [lnsR_step a (by rw [hc])]
  rw [hc]
  have e1 : (List.take j (l.drop a)).length = j := by rw [List.length_take, List.length_drop]; omega
  dsimp only
  rw [e1, List.drop_drop, Nat.add_assoc a j 2]
theorem byt_past {l mk : List UInt8} {f : Nat} (h : Lib.NoOcc (l.drop f) ([13, 10] ++ mk) (l.length - f)) (z : Nat) : bytP (l.drop f) mk z = ([], some ((z : Int), 154), 0) := by
  unfold bytP
  rw [cut_past (by simp) h (by rw [List.length_drop]; simp)]
  rfl
theorem byt_hit {l mk : List UInt8} {f j : Nat} (h : Lib.NoOcc (l.drop f) ([13, 10] ++ mk) j) (hj : f + j ≤ l.length) (hf : f ≤ l.length) (ho : Lib.hasPrefix (l.drop (f + j)) ([13, 10] ++ mk) = true) (z : Nat) : bytP (l.drop f) mk z = ((l.drop f).take j, none, j + 2) := by
  unfold bytP
  rw [cut_hit h (by rw [List.length_drop]; omega) (by rw [occ_drop]; exact ho)]
  have e1 : (List.take j (l.drop f)).length = j := by rw [List.length_take, List.length_drop]; omega
  rw [if_pos rfl, e1]

end Sr
end Go.Proofs.YtlnlhhobmgiceaaGreatDoor
