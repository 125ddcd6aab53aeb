/-
  span, plainly: where a sign stands first; the unit.
-/
import Derived.Test.YtbgbidjngjdceaaDoorSnP
set_option linter.unusedVariables false
set_option linter.unusedSimpArgs false
namespace Go.Proofs.YtbgbidjngjdceaaDoor
open Go.RowKit Go.Shelf
namespace Sn
open Oc Tg Ac

theorem byte_eq {c : UInt8} {n : Nat} (hn : n < 256) (h : (c.toNat : Int) = n) : c = UInt8.ofNat n := by
  apply UInt8.toNat.inj
  rw [UInt8.toNat_ofNat']
  omega
theorem byte_ne {c : UInt8} {n : Nat} (hn : n < 256) (h : (c.toNat : Int) ≠ n) : c ≠ UInt8.ofNat n := by
  intro e
  apply h
  rw [e, UInt8.toNat_ofNat']
  omega
theorem first_at (b : UInt8) : ∀ (l : List UInt8) (j : Nat), j < l.length → l.getD j 0 = b → (∀ i, i < j → l.getD i 0 ≠ b) → has b l = true ∧ cutA b l = l.take j ∧ cutB b l = l.drop (j + 1)
  | [], j, h, _, _ => by simp at h
  | c :: t, 0, _, h, _ => by
    have h' : c = b := h
    subst h'
    simp [has, cutA, cutB]
  | c :: t, j + 1, hj, h, hn => by
    have hc : c ≠ b := hn 0 (by omega)
    have ih := first_at b t j (by simpa using hj) (by simpa using h) (fun i hi => by have := hn (i + 1) (by omega); simpa using this)
    obtain ⟨i1, i2, i3⟩ := ih
    have e1 : cutA b (c :: t) = c :: cutA b t := by simp [cutA, hc]
    have e2 : cutB b (c :: t) = cutB b t := by simp [cutB, hc]
    refine ⟨?_, by rw [e1, i2]; simp, by rw [e2, i3]; simp⟩
    unfold has at *
    simp at i1 ⊢
    exact .inr i1
theorem none_at (b : UInt8) (l : List UInt8) (h : ∀ i, i < l.length → l.getD i 0 ≠ b) : has b l = false := by
  unfold has
  rw [Bool.eq_false_iff]
  intro hc
  rw [List.contains_iff_mem] at hc
  obtain ⟨k, hk, rfl⟩ := List.mem_iff_getElem.1 hc
  have := h k hk
  rw [List.getD_eq_getElem?_getD, List.getElem?_eq_getElem hk] at this
  exact this rfl

theorem low61n : ∀ n : Nat, n < 256 → lowB (UInt8.ofNat n) = 61 → n = 61 := by decide +kernel
theorem low61 (c : UInt8) (h : lowB c = 61) : c = 61 := by
  have h1 := c.toNat_lt
  have h2 : UInt8.ofNat c.toNat = c := by simp
  have := low61n c.toNat h1 (by rw [h2]; exact h)
  rw [← h2, this]
  rfl
theorem listR_nil : listR [] = ([], 0) := by decide +kernel
theorem lower_len (l : List UInt8) : (lower l).length = l.length := by simp [lower]
theorem elR_of_no {l : List UInt8} (h : has 61 l = false) : (elR l).2 = false := by
  unfold elR
  split
  · rw [cutB_none 61 l h, listR_nil]; rfl
  · rfl
theorem elR_short {l : List UInt8} (h : l.length < 6) : (elR l).2 = false := by
  cases hh : has 61 l with
  | false => exact elR_of_no hh
  | true =>
    unfold elR
    rw [if_neg]
    intro e
    have h1 := congrArg List.length e
    rw [lower_len] at h1
    have h2 := congrArg List.length (cut_app 61 l hh)
    simp at h1 h2
    omega
theorem elR_not {l : List UInt8} (h : lower (l.take 6) ≠ [98, 121, 116, 101, 115, 61]) : (elR l).2 = false := by
  cases hh : has 61 l with
  | false => exact elR_of_no hh
  | true =>
    unfold elR
    rw [if_neg]
    intro e
    apply h
    have h2 := cut_app 61 l hh
    have h1 := congrArg List.length e
    rw [lower_len] at h1
    have h3 : l.take 6 = cutA 61 l ++ [61] := by
      conv => lhs; rw [← h2]
      rw [List.take_append]
      rw [List.take_of_length_le (by rw [h1]; decide), h1]
      rfl
    rw [h3]
    unfold lower at e ⊢
    rw [List.map_append, e]
    decide +kernel
theorem elR_yes {l : List UInt8} (hl : 6 ≤ l.length) (h : lower (l.take 6) = [98, 121, 116, 101, 115, 61]) : elR l = ((listR (l.drop 6)).1, decide ((listR (l.drop 6)).2 = 0) && decide (0 < (listR (l.drop 6)).1.length)) := by
  obtain ⟨c0, l, rfl⟩ : ∃ c t, l = c :: t := by cases l with | nil => simp at hl | cons c t => exact ⟨c, t, rfl⟩
  obtain ⟨c1, l, rfl⟩ : ∃ c t, l = c :: t := by cases l with | nil => simp at hl | cons c t => exact ⟨c, t, rfl⟩
  obtain ⟨c2, l, rfl⟩ : ∃ c t, l = c :: t := by cases l with | nil => simp at hl | cons c t => exact ⟨c, t, rfl⟩
  obtain ⟨c3, l, rfl⟩ : ∃ c t, l = c :: t := by cases l with | nil => simp at hl | cons c t => exact ⟨c, t, rfl⟩
  obtain ⟨c4, l, rfl⟩ : ∃ c t, l = c :: t := by cases l with | nil => simp at hl | cons c t => exact ⟨c, t, rfl⟩
  obtain ⟨c5, l, rfl⟩ : ∃ c t, l = c :: t := by cases l with | nil => simp at hl | cons c t => exact ⟨c, t, rfl⟩
  simp [lower] at h
  obtain ⟨h0, h1, h2, h3, h4, h5⟩ := h
  have n : ∀ (c d : UInt8), lowB c = d → d ≠ 61 → c ≠ 61 := fun c d e1 e2 e3 => by subst e3; exact e2 (e1.symm.trans (by decide +kernel))
  have m0 := n c0 _ h0 (by decide)
  have m1 := n c1 _ h1 (by decide)
  have m2 := n c2 _ h2 (by decide)
  have m3 := n c3 _ h3 (by decide)
  have m4 := n c4 _ h4 (by decide)
  have m5 := low61 c5 h5
  subst m5
  have eA : cutA 61 (c0 :: c1 :: c2 :: c3 :: c4 :: 61 :: l) = [c0, c1, c2, c3, c4] := by simp [cutA, m0, m1, m2, m3, m4]
  have eB : cutB 61 (c0 :: c1 :: c2 :: c3 :: c4 :: 61 :: l) = l := by simp [cutB, m0, m1, m2, m3, m4]
  unfold elR
  rw [eA, eB, if_pos (by simp [lower, h0, h1, h2, h3, h4])]
  rfl
theorem parR_ref {l : List UInt8} {size : Int} (h : 0 ≤ size) : (elR l).2 = false → parR l size = ([], 90) := fun hh => by unfold parR; rw [if_neg (by omega), if_pos hh]

end Sn
end Go.Proofs.YtbgbidjngjdceaaDoor
