/-
  target: hosts and ports; plain, and the program's smaller functions.
-/
import Derived.Test.YticncpjpkgdnlaaGreatDoorMgH
import Derived.Test.YticncpjpkgdnlaaGreatDoorGLs
import Derived.Test.YticncpjpkgdnlaaGreatDoorMgA
import Derived.Test.YticncpjpkgdnlaaGreatDoorMgD
import Derived.Lib.CountLaws
import Derived.Lib.SplitLaws
set_option linter.unusedVariables false
set_option linter.unusedSimpArgs false
set_option maxRecDepth 100000
namespace Go.Proofs.YticncpjpkgdnlaaGreatDoor
open Go.RowKit Go.Shelf
namespace Tg
open Oc

/-- A group of an address. -/
def grp1 (l : List UInt8) : Bool := decide ((numR 16 l 65535).2 = 0) && decide (l.length ≤ 4)
/-- A number from 0 to 255 without a 0 ahead. -/
def dec1 (l : List UInt8) : Bool := decide ((numR 10 l 255).2 = 0) && decide (l = Lib.itoa (numR 10 l 255).1)
def quadR (l : List UInt8) : Bool := (splitB 46 l).all dec1 && decide ((splitB 46 l).length = 4)
def grpG (last : Bool) : List (List UInt8) → Option Nat
  | [] => some 0
  | x :: r => if grp1 x then (grpG last r).map (1 + ·) else if last && r.isEmpty && quadR x then some 2 else none
def grpR (l : List UInt8) (last : Bool) : Option Nat := if l = [] then some 0 else grpG last (splitB 58 l)
def addrR (l : List UInt8) : Bool :=
  if (Lib.cut l [58, 58]).2.2 then match grpR (Lib.cut l [58, 58]).1 false, grpR (Lib.cut l [58, 58]).2.1 true with
    | some a, some b => decide (a + b < 8)
    | _, _ => false
  else grpR l true == some 8
theorem grpG_le (last : Bool) : ∀ (L : List (List UInt8)) (n : Nat), grpG last L = some n → n ≤ 2 * L.length
  | [], n, h => by cases h; simp
  | x :: r, n, h => by
    unfold grpG at h
    split at h
    · obtain ⟨m, hm, rfl⟩ := Option.map_eq_some_iff.1 h
      have := grpG_le last r m hm
      simp only [List.length_cons]
      omega
    · split at h
      · cases h; simp only [List.length_cons]; omega
      · cases h

theorem split_bridge (b : UInt8) : ∀ (n : Nat) (s : ByteArray), s.size ≤ n → (Lib.splitB ⟨#[b]⟩ 0 (Lib.countB s ⟨#[b]⟩) s).map (·.data.toList) = splitB b s.data.toList := by
  intro n
  induction n with
  | zero =>
    intro s hs
    have hl : s.data.toList = [] := List.length_eq_zero_iff.1 (by rw [size_list]; omega)
    have hi : Lib.indexB s ⟨#[b]⟩ = -1 := by
      show Lib.index s.data.toList [b] = -1
      rw [hl]
      rfl
    rw [Lib.splitB_miss _ _ _ _ hi, hl]
    simp only [List.map_cons, List.map_nil]
    rw [hl]
    rfl
  | succ n ih =>
    intro s hs
    have hi := index_one b s.data.toList
    cases hh : has b s.data.toList with
    | false =>
      rw [hh] at hi
      have hi2 : Lib.indexB s ⟨#[b]⟩ = -1 := hi
      rw [Lib.splitB_miss _ _ _ _ hi2, split_cut, hh]
      have hc := cut_one b s.data.toList
      unfold Lib.cut at hc
      rw [show Lib.index s.data.toList [b] = -1 from hi, if_neg (by omega)] at hc
      have := congrArg Prod.fst hc
      simp only [List.map_cons, List.map_nil]
      simp
      exact this
    | true =>
      rw [hh, if_pos rfl] at hi
      have hi2 : Lib.indexB s ⟨#[b]⟩ = (((cutA b s.data.toList).length : Nat) : Int) := hi
      have hc := cut_one b s.data.toList
      unfold Lib.cut at hc
      rw [show Lib.index s.data.toList [b] = (((cutA b s.data.toList).length : Nat) : Int) from hi, if_pos (by omega)] at hc
      have h1 : s.data.toList.take (cutA b s.data.toList).length = cutA b s.data.toList := by
        have := congrArg Prod.fst hc
        simpa using this
      have h2 : s.data.toList.drop ((cutA b s.data.toList).length + 1) = cutB b s.data.toList := by
        have := congrArg (fun x => x.2.1) hc
        simpa using this
      have hlt : (cutA b s.data.toList).length + 1 ≤ s.size := by
        have := cut_app b s.data.toList hh
        have := congrArg List.length this
        rw [List.length_append, size_list] at this
        simp at this
        omega
      rw [Lib.countB_hit s ⟨#[b]⟩ _ (Nat.le_refl 1) hi2, Nat.add_comm 1, Lib.splitB_hit _ _ _ _ _ hi2, split_cut, hh, if_pos rfl]
      have he : (⟨#[b]⟩ : ByteArray).size = 1 := rfl
      rw [he]
      have hx : (s.extract ((cutA b s.data.toList).length + 1) s.size).data.toList = cutB b s.data.toList := by
        rw [Lib.extract_to_end, h2]
      simp only [List.map_cons, Nat.add_zero]
      rw [ih _ (by rw [ByteArray.size_extract]; omega), hx, Lib.extract_from_zero, h1]

theorem Split_any (s : ByteArray) (b : UInt8) (hs : s.size ≤ 4000000000) (w : World) (h : ML w) :
    Calls Tryz.prog 163 #[.string s, .string ⟨#[b]⟩] w fun e w' => ∃ a c, e = .returned (.slice a (splitB b s.data.toList).length c) ∧ RdS (.slice a (splitB b s.data.toList).length c) (splitB b s.data.toList) w' ∧ Below w.heap.size w w' := by
  obtain ⟨m, hm⟩ := h
  refine (Tryz.strings_Split s ⟨#[b]⟩ m w (by omega) hm (Nat.le_refl 1)).mono ?_
  rintro e w' ⟨rfl, rfl⟩
  have hb := split_bridge b s.size s (Nat.le_refl _)
  have hl : (Lib.splitB ⟨#[b]⟩ 0 (Lib.countB s ⟨#[b]⟩) s).length = (splitB b s.data.toList).length := by rw [← hb, List.length_map]
  have hn : Lib.countB s ⟨#[b]⟩ + 1 = (splitB b s.data.toList).length := by
    rw [← hl]
    exact (Lib.splitB_all ⟨#[b]⟩ (Nat.le_refl 1) 0 _ s rfl).symm
  rw [hn]
  refine ⟨_, _, rfl, ⟨_, _, rfl, .inr ⟨w.heap.size, 0, rfl, Nat.le_refl _, fun j hj => ?_⟩⟩, (Below.refl _ w).alloc (Nat.le_refl _) _⟩
  have hr := heap_alloc_new w (.cells ((Lib.splitB ⟨#[b]⟩ 0 (Lib.countB s ⟨#[b]⟩) s).map Value.string).toArray 9)
  rw [Nat.zero_add, cell_of_row _ _ _ _ _ _ hr, List.getElem?_toArray, List.getElem?_map]
  have hj2 : j < (Lib.splitB ⟨#[b]⟩ 0 (Lib.countB s ⟨#[b]⟩) s).length := by rw [hl]; exact hj
  rw [List.getElem?_eq_getElem hj2]
  have e : (splitB b s.data.toList).getD j [] = ((Lib.splitB ⟨#[b]⟩ 0 (Lib.countB s ⟨#[b]⟩) s)[j]).data.toList := by
    rw [← hb, List.getD_eq_getElem?_getD, List.getElem?_map, List.getElem?_eq_getElem hj2]
    rfl
  rw [e, str_self]
  rfl

end Tg
end Go.Proofs.YticncpjpkgdnlaaGreatDoor
