/-
  What is printed is read back, plain.
-/
import Derived.Test.YtojahhmdfbfnfabDoorFPw
set_option linter.unusedVariables false
set_option linter.unusedSimpArgs false
namespace Go.Proofs.YtojahhmdfbfnfabDoor
open Go.RowKit Go.Shelf
namespace Fd
open Oc Tg

def textOf (t : List Fl) : List UInt8 := t.flatMap fun p => lineP p ++ [13, 10]
theorem tok_plain {c : UInt8} (h : tokB c = true) : c ≠ 58 ∧ c ≠ 13 ∧ blankB c = false := by
  have hn : ∀ d : UInt8, tokB d = false → c ≠ d := fun d hd e => by rw [e, hd] at h; cases h
  refine ⟨hn 58 (by decide +kernel), hn 13 (by decide +kernel), ?_⟩
  cases hb : blankB c with
  | false => rfl
  | true =>
    exfalso
    unfold blankB blankI at hb
    have := of_decide_eq_true hb
    rcases this with h1 | h1
    · exact hn 32 (by decide +kernel) (UInt8.toNat_inj.1 (by show _ = 32; omega))
    · exact hn 9 (by decide +kernel) (UInt8.toNat_inj.1 (by show _ = 9; omega))
theorem field_13 {c : UInt8} (h : fieldB c = true) : c ≠ 13 := fun e => by rw [e] at h; revert h; decide +kernel
theorem cut_at {a r : List UInt8} (h : ∀ c ∈ a, c ≠ 58) : cutA 58 (a ++ 58 :: r) = a ∧ cutB 58 (a ++ 58 :: r) = r ∧ has 58 (a ++ 58 :: r) = true := by
  have hp : ∀ x ∈ a, (fun c : UInt8 => c != 58) x = true := fun x hx => by simpa using h x hx
  refine ⟨?_, ?_, ?_⟩
  · unfold cutA
    rw [List.takeWhile_append_of_pos hp]
    simp
  · unfold cutB
    rw [List.dropWhile_append_of_pos hp]
    simp
  · unfold has
    simp
theorem parse_line {p : Fl} (h1 : isName p.1 = true) (h2 : isValue p.2 = true) : parseL (lineP p) = (p, 0, 0) := by
  obtain ⟨n, v⟩ := p
  dsimp only at h1 h2
  have hn := h1
  unfold isName isTok at hn
  simp only [Bool.and_eq_true, List.all_eq_true] at hn
  obtain ⟨⟨hne, hall⟩, _⟩ := hn
  have hv := h2
  unfold isValue at hv
  simp only [Bool.and_eq_true, decide_eq_true_eq] at hv
  obtain ⟨⟨hf, h8⟩, htr⟩ := hv
  obtain ⟨r, hr, hfr, htrr⟩ : ∃ r, lineP (n, v) = n ++ 58 :: r ∧ isFld r = true ∧ trim r = v := by
    unfold lineP
    by_cases h0 : v = []
    · subst h0
      exact ⟨[], by simp, rfl, rfl⟩
    · refine ⟨32 :: v, by simp [h0], ?_, ?_⟩
      · have hf2 := hf
        unfold isFld at hf2 ⊢
        rw [List.all_cons, hf2, show fieldB 32 = true by decide +kernel]
        rfl
      · unfold trim at htr ⊢
        rw [trimL_cons, show blankB 32 = true by decide +kernel, if_pos rfl]
        exact htr
  obtain ⟨e1, e2, e3⟩ := cut_at (a := n) (r := r) (fun c hc => (tok_plain (hall c hc)).1)
  rw [hr]
  have hb : blank0 (n ++ 58 :: r) = false := by
    cases n with
    | nil => simp at hne
    | cons c n => exact (tok_plain (hall c (by simp))).2.2
  have h := pl_F hb e3 (by rw [e1]; exact h1) (by rw [e2]; exact hfr) (by rw [e2, htrr]; exact h8)
  rw [h, e1, e2, htrr]
theorem line_13 {p : Fl} (h1 : isName p.1 = true) (h2 : isValue p.2 = true) : ∀ c ∈ lineP p, c ≠ 13 := by
  obtain ⟨n, v⟩ := p
  dsimp only at h1 h2
  have hn := h1
  unfold isName isTok at hn
  simp only [Bool.and_eq_true, List.all_eq_true] at hn
  have hv := h2
  unfold isValue isFld at hv
  simp only [Bool.and_eq_true, List.all_eq_true] at hv
  intro c hc
  unfold lineP at hc
  dsimp only at hc
  have key : c ∈ n ∨ c = 58 ∨ c = 32 ∨ c ∈ v := by
    split at hc
    · simp at hc; rcases hc with h | h
      · exact .inl h
      · exact .inr (.inl h)
    · simp at hc; rcases hc with h | h | h | h
      · exact .inl h
      · exact .inr (.inl h)
      · exact .inr (.inr (.inl h))
      · exact .inr (.inr (.inr h))
  rcases key with h | rfl | rfl | h
  · exact (tok_plain (hn.1.2 c h)).2.1
  · decide
  · decide
  · exact field_13 (hv.1.1 c h)
theorem index_crlf (a r : List UInt8) (h : ∀ c ∈ a, c ≠ 13) : Lib.index (a ++ [13, 10] ++ r) [13, 10] = (a.length : Int) := by
  refine Lib.index_first (by simp) ?_ (fun j hj => ?_)
  · unfold Lib.occAt
    rw [List.append_assoc, List.drop_left]
    rfl
  · rw [occ2 _ _ (by simp; omega)]
    have : (a ++ [13, 10] ++ r).getD j 0 = a[j] := by
      rw [List.append_assoc, List.getD_eq_getElem?_getD, List.getElem?_append_left hj, List.getElem?_eq_getElem hj]
      rfl
    rw [this]
    have := h a[j] (List.getElem_mem hj)
    simp [this]
theorem text_back : ∀ (t : List Fl) (f at_ : Nat) (acc : List Fl), (∀ p ∈ t, isName p.1 = true ∧ isValue p.2 = true) → acc.length + t.length ≤ 100 → (textOf t).length < f → parseT f (textOf t) at_ acc = (acc ++ t, 0, 0)
  | [], f, at_, acc, _, _, hf => by
    cases f with
    | zero => simp [textOf] at hf
    | succ f => rw [parseT_succ, if_pos (show textOf [] = [] from rfl)]; simp
  | p :: t, f, at_, acc, hr, hl, hf => by
    have ht : textOf (p :: t) = lineP p ++ [13, 10] ++ textOf t := by simp [textOf]
    obtain ⟨r1, r2⟩ := hr p (by simp)
    have hi := index_crlf (lineP p) (textOf t) (line_13 r1 r2)
    cases f with
    | zero => omega
    | succ f =>
      rw [ht] at hf ⊢
      rw [parseT_succ, if_neg (by simp), hi, if_neg (by omega), if_neg (by simp at hl; omega)]
      have hx : (lineP p ++ [13, 10] ++ textOf t).take (lineP p).length = lineP p := by rw [List.append_assoc, List.take_left]
      have hd : (lineP p ++ [13, 10] ++ textOf t).drop ((lineP p).length + 2) = textOf t := by
        rw [show (lineP p).length + 2 = (lineP p ++ [13, 10]).length by simp, List.drop_left]
      rw [show (((lineP p).length : Int)).toNat = (lineP p).length by omega, hx, hd, parse_line r1 r2]
      dsimp only
      rw [if_pos rfl, text_back t f _ _ (fun q hq => hr q (by simp [hq])) (by simp at hl ⊢; omega) (by simp at hf; omega)]
      simp
theorem chk_right {p : Fl} (h1 : isName p.1 = true) (h2 : isValue p.2 = true) : chkZ p = 0 := by unfold chkZ; rw [h1, h2]; rfl
theorem print_right : ∀ (t : List Fl) (acc : List UInt8), (∀ p ∈ t, isName p.1 = true ∧ isValue p.2 = true) → printG t acc = (acc ++ textOf t, 0)
  | [], acc, _ => by simp [printG, textOf]
  | p :: t, acc, hr => by
    obtain ⟨r1, r2⟩ := hr p (by simp)
    unfold printG
    rw [if_pos (chk_right r1 r2), print_right t _ (fun q hq => hr q (by simp [hq]))]
    simp [textOf]
theorem back_all {t : List Fl} (hr : ∀ p ∈ t, isName p.1 = true ∧ isValue p.2 = true) (hl : t.length ≤ 100) : printT t = (textOf t, 0) ∧ parseText (textOf t) = (t, 0, 0) := by
  refine ⟨?_, ?_⟩
  · unfold printT
    rw [if_neg (by omega), print_right t [] hr]
    simp
  · unfold parseText
    rw [text_back t _ 0 [] hr (by simpa using hl) (by omega)]
    simp
theorem text_len : ∀ t : List Fl, (textOf t).length ≤ 2 * sumF t
  | [] => by simp [textOf]
  | p :: t => by
    have := text_len t
    have h2 := lineP_len p
    rw [show textOf (p :: t) = lineP p ++ [13, 10] ++ textOf t by simp [textOf]]
    simp only [sumF, List.map_cons, List.sum_cons] at this ⊢
    have h3 : 3 ≤ szF p := by unfold szF; omega
    simp
    omega

end Fd
end Go.Proofs.YtojahhmdfbfnfabDoor
