/-
  Texts of lines, plain; the document's 'ending'; the law's own 'same'.
-/
import Derived.Test.YtjmeijjmgmcncaaDoorFRl
set_option linter.unusedVariables false
set_option linter.unusedSimpArgs false
namespace Go.Proofs.YtjmeijjmgmcncaaDoor
open Go.RowKit Go.Shelf
namespace Fd
open Oc Tg

/-- What lines say: the fields, or the place and what is wrong there. -/
def parseT : Nat → List UInt8 → Nat → List Fl → List Fl × Nat × Int
  | 0, _, _, _ => ([], 0, 0)
  | f + 1, l, at_, acc =>
    if l = [] then (acc, 0, 0)
    else if Lib.index l [13, 10] < 0 then ([], at_ + l.length, 64)
    else if acc.length = 100 then ([], at_, 65)
    else if (parseL (l.take (Lib.index l [13, 10]).toNat)).2.2 = 0 then parseT f (l.drop ((Lib.index l [13, 10]).toNat + 2)) (at_ + ((Lib.index l [13, 10]).toNat + 2)) (acc ++ [(parseL (l.take (Lib.index l [13, 10]).toNat)).1])
    else ([], at_ + (parseL (l.take (Lib.index l [13, 10]).toNat)).2.1, (parseL (l.take (Lib.index l [13, 10]).toNat)).2.2)
theorem parseT_succ (f : Nat) (l : List UInt8) (at_ : Nat) (acc : List Fl) : parseT (f + 1) l at_ acc =
    if l = [] then (acc, 0, 0)
    else if Lib.index l [13, 10] < 0 then ([], at_ + l.length, 64)
    else if acc.length = 100 then ([], at_, 65)
    else if (parseL (l.take (Lib.index l [13, 10]).toNat)).2.2 = 0 then parseT f (l.drop ((Lib.index l [13, 10]).toNat + 2)) (at_ + ((Lib.index l [13, 10]).toNat + 2)) (acc ++ [(parseL (l.take (Lib.index l [13, 10]).toNat)).1])
    else ([], at_ + (parseL (l.take (Lib.index l [13, 10]).toNat)).2.1, (parseL (l.take (Lib.index l [13, 10]).toNat)).2.2) := rfl
def parseText (l : List UInt8) : List Fl × Nat × Int := parseT (l.length + 1) l 0 []
theorem parseL_le (l : List UInt8) : (parseL l).2.1 ≤ l.length + 8192 := by
  unfold parseL
  split
  · simp
  · split
    · next h =>
      have hl := len_AB h
      have h1 := lead_le (cutB 58 l)
      have h2 := fnot_le fieldB (cutB 58 l)
      have h3 := fnot_le tokB (cutA 58 l)
      split
      · split
        · split
          · simp
          · dsimp only; omega
        · dsimp only; omega
      · dsimp only; omega
    · dsimp only; omega
theorem index2_room (l : List UInt8) (h : 0 ≤ Lib.index l [13, 10]) : (Lib.index l [13, 10]).toNat + 2 ≤ l.length := by
  have := Lib.index_room l [13, 10] h
  simp at this
  omega
/-- What is still to be read says the rest. -/
structure Mid (l : List UInt8) (at_ : Nat) (acc : List Fl) : Prop where
  le : at_ ≤ l.length
  few : acc.length ≤ 100
  ex : ∃ f, l.length - at_ < f ∧ parseText l = parseT f (l.drop at_) at_ acc
theorem Mid.start (l : List UInt8) : Mid l 0 [] := ⟨Nat.zero_le _, by simp, l.length + 1, by omega, rfl⟩
theorem drop_ne {l : List UInt8} {k : Nat} (h : k < l.length) : l.drop k ≠ [] := by
  intro e
  have := congrArg List.length e
  simp at this
  omega
theorem Mid.last {l : List UInt8} {at_ : Nat} {acc : List Fl} (h : Mid l at_ acc) (he : ¬ at_ < l.length) : parseText l = (acc, 0, 0) := by
  obtain ⟨f, hf, e⟩ := h.ex
  have hd : l.drop at_ = [] := List.drop_eq_nil_of_le (by omega)
  rw [e, hd]
  cases f with
  | zero => omega
  | succ f => rfl
theorem Mid.brk {l : List UInt8} {at_ : Nat} {acc : List Fl} (h : Mid l at_ acc) (he : at_ < l.length) (hi : Lib.index (l.drop at_) [13, 10] < 0) : parseText l = ([], l.length, 64) := by
  obtain ⟨f, hf, e⟩ := h.ex
  cases f with
  | zero => omega
  | succ f =>
    rw [e, parseT_succ, if_neg (drop_ne he), if_pos hi, List.length_drop, show at_ + (l.length - at_) = l.length by omega]
theorem Mid.many {l : List UInt8} {at_ : Nat} {acc : List Fl} (h : Mid l at_ acc) (he : at_ < l.length) (hi : ¬ Lib.index (l.drop at_) [13, 10] < 0) (ha : acc.length = 100) : parseText l = ([], at_, 65) := by
  obtain ⟨f, hf, e⟩ := h.ex
  cases f with
  | zero => omega
  | succ f =>
    rw [e, parseT_succ, if_neg (drop_ne he), if_neg hi, if_pos ha]
theorem Mid.bad {l : List UInt8} {at_ : Nat} {acc : List Fl} (h : Mid l at_ acc) (he : at_ < l.length) (hi : ¬ Lib.index (l.drop at_) [13, 10] < 0) (ha : ¬ acc.length = 100) {x : (List UInt8 × List UInt8) × Nat × Int}
    (hx : parseL ((l.drop at_).take (Lib.index (l.drop at_) [13, 10]).toNat) = x) (hz : x.2.2 ≠ 0) : parseText l = ([], at_ + x.2.1, x.2.2) := by
  obtain ⟨f, hf, e⟩ := h.ex
  cases f with
  | zero => omega
  | succ f =>
    rw [e, parseT_succ, if_neg (drop_ne he), if_neg hi, if_neg ha, hx, if_neg hz]
theorem Mid.next {l : List UInt8} {at_ : Nat} {acc : List Fl} (h : Mid l at_ acc) (he : at_ < l.length) (hi : ¬ Lib.index (l.drop at_) [13, 10] < 0) (ha : ¬ acc.length = 100) {x : (List UInt8 × List UInt8) × Nat × Int}
    (hx : parseL ((l.drop at_).take (Lib.index (l.drop at_) [13, 10]).toNat) = x) (hz : x.2.2 = 0) : Mid l (at_ + ((Lib.index (l.drop at_) [13, 10]).toNat + 2)) (acc ++ [x.1]) := by
  obtain ⟨f, hf, e⟩ := h.ex
  have hr := index2_room (l.drop at_) (by omega)
  rw [List.length_drop] at hr
  refine ⟨by omega, by have := h.few; simp; omega, ?_⟩
  cases f with
  | zero => omega
  | succ f =>
    refine ⟨f, by omega, ?_⟩
    rw [e, parseT_succ, if_neg (drop_ne he), if_neg hi, if_neg ha, hx, if_pos hz, List.drop_drop]
theorem occ2 (l : List UInt8) (i : Nat) (h : i + 1 < l.length) : Lib.occAt l [13, 10] i = (l.getD i 0 == 13 && l.getD (i + 1) 0 == 10) := by
  unfold Lib.occAt
  rw [List.drop_eq_getElem_cons (show i < l.length by omega), List.drop_eq_getElem_cons h, List.getD_eq_getElem?_getD, List.getElem?_eq_getElem (show i < l.length by omega), List.getD_eq_getElem?_getD, List.getElem?_eq_getElem h]
  simp [List.isPrefixOf, Bool.beq_comm, Option.getD_some]
theorem occ2_no (l : List UInt8) (i : Nat) (h : ¬ i + 1 < l.length) : Lib.occAt l [13, 10] i = false := by
  cases e : Lib.occAt l [13, 10] i with
  | false => rfl
  | true =>
    rcases Lib.occAt_room e with h2 | h2
    · simp at h2; omega
    · cases h2

/-- The place of the first line end from a place on; -1: none. -/
def endZ (l : List UInt8) (at_ : Nat) : Int := if Lib.index (l.drop at_) [13, 10] < 0 then -1 else (at_ : Int) + Lib.index (l.drop at_) [13, 10]
theorem getD_drop (l : List UInt8) (a i : Nat) : (l.drop a).getD i 0 = l.getD (a + i) 0 := by
  rw [List.getD_eq_getElem?_getD, List.getD_eq_getElem?_getD, List.getElem?_drop]
theorem endZ_at {s : ByteArray} {a k : Nat} (ha : a ≤ k) (hk : k + 1 < s.size) (h1 : byt s k = 13) (h2 : byt s (k + 1) = 10) (hn : ∀ j, a ≤ j → j < k → ¬ (byt s j = 13 ∧ byt s (j + 1) = 10)) : endZ s.data.toList a = k := by
  have hl : (s.data.toList.drop a).length = s.size - a := by rw [List.length_drop, size_list]
  have hb : ∀ j, byt s (a + j) = (((s.data.toList.drop a).getD j 0).toNat : Int) := fun j => by unfold byt; rw [getD_drop]
  have hi : Lib.index (s.data.toList.drop a) [13, 10] = ((k - a : Nat) : Int) := by
    refine Lib.index_first (by omega) ?_ (fun j hj => ?_)
    · rw [occ2 _ _ (by omega)]
      have e1 := hb (k - a)
      have e2 := hb (k - a + 1)
      rw [show a + (k - a) = k by omega, h1] at e1
      rw [show a + (k - a + 1) = k + 1 by omega, h2] at e2
      have f1 : (s.data.toList.drop a).getD (k - a) 0 = 13 := UInt8.toNat_inj.1 (by show _ = 13; omega)
      have f2 : (s.data.toList.drop a).getD (k - a + 1) 0 = 10 := UInt8.toNat_inj.1 (by show _ = 10; omega)
      rw [f1, f2]
      rfl
    · rw [occ2 _ _ (by omega)]
      cases e : ((s.data.toList.drop a).getD j 0 == 13 && (s.data.toList.drop a).getD (j + 1) 0 == 10) with
      | false => rfl
      | true =>
        rw [Bool.and_eq_true, beq_iff_eq, beq_iff_eq] at e
        exact absurd ⟨(hb j).trans (by rw [e.1]; rfl), by rw [show a + j + 1 = a + (j + 1) by omega]; exact (hb (j + 1)).trans (by rw [e.2]; rfl)⟩ (hn (a + j) (by omega) (by omega))
  unfold endZ
  rw [hi, if_neg (by omega)]
  omega
theorem endZ_no {s : ByteArray} {a : Nat} (ha : a ≤ s.size) (hn : ∀ j, a ≤ j → j + 1 < s.size → ¬ (byt s j = 13 ∧ byt s (j + 1) = 10)) : endZ s.data.toList a = -1 := by
  have hl : (s.data.toList.drop a).length = s.size - a := by rw [List.length_drop, size_list]
  have hb : ∀ j, byt s (a + j) = (((s.data.toList.drop a).getD j 0).toNat : Int) := fun j => by unfold byt; rw [getD_drop]
  have hi : Lib.index (s.data.toList.drop a) [13, 10] = -1 := by
    refine Lib.index_none (fun j hj => ?_)
    by_cases h2 : j + 1 < (s.data.toList.drop a).length
    · rw [occ2 _ _ h2]
      cases e : ((s.data.toList.drop a).getD j 0 == 13 && (s.data.toList.drop a).getD (j + 1) 0 == 10) with
      | false => rfl
      | true =>
        rw [Bool.and_eq_true, beq_iff_eq, beq_iff_eq] at e
        exact absurd ⟨(hb j).trans (by rw [e.1]; rfl), by rw [show a + j + 1 = a + (j + 1) by omega]; exact (hb (j + 1)).trans (by rw [e.2]; rfl)⟩ (hn (a + j) (by omega) (by omega))
    · exact occ2_no _ _ h2
  unfold endZ
  rw [hi, if_pos (by omega)]

end Fd
end Go.Proofs.YtjmeijjmgmcncaaDoor
