/- Several texts as one. -/
import Derived.Test.YtfpodnaaappocaaGreatDoorMgI
import Derived.Test.YtfpodnaaappocaaGreatDoorMgH
/-
  octet.List.
-/
set_option linter.unusedVariables false
set_option linter.unusedSimpArgs false
namespace Go.Proofs.YtfpodnaaappocaaGreatDoor
open Go.RowKit Go.Shelf
namespace Oc

/-- What stands from a place up to another. -/
def piece (l : List UInt8) (fr at' : Nat) : List UInt8 := (l.drop fr).take (at' - fr)
theorem piece_app (l : List UInt8) (fr a n : Nat) (h : fr ≤ a) : piece l fr a ++ (l.drop a).take n = piece l fr (a + n) := by
  unfold piece
  have e : l.drop a = (l.drop fr).drop (a - fr) := by rw [List.drop_drop, show fr + (a - fr) = a by omega]
  rw [e, show a + n - fr = (a - fr) + n by omega, List.take_add]
theorem piece_snoc (l : List UInt8) (fr a : Nat) (h : fr ≤ a) (ha : a < l.length) : piece l fr a ++ [l.getD a 0] = piece l fr (a + 1) := by
  rw [← piece_app l fr a 1 h, drop_cons l a ha]
  rfl
theorem piece_nil (l : List UInt8) (a : Nat) : piece l a a = [] := by unfold piece; simp
theorem piece_ext (s : ByteArray) (fr a : Nat) : (s.extract fr a).data.toList = piece s.data.toList fr a := Lib.extract_data s fr a
theorem piece_end (s : ByteArray) (fr a : Nat) (h : s.size ≤ a) : piece s.data.toList fr a = s.data.toList.drop fr := by
  unfold piece
  rw [List.take_of_length_le]
  rw [List.length_drop, size_list]
  omega
theorem lst_step (l : List UInt8) (acc : List (List UInt8)) (fr a : Nat) (t : List (List UInt8)) (h : lst [] l = (lst (piece l fr a) (44 :: l.drop (a + 1))).map (acc ++ ·)) :
    lst [] l = (lst (piece l (a + 1) (a + 1)) (l.drop (a + 1))).map ((acc ++ addEl (trim (piece l fr a)) []) ++ ·) := by
  rw [h, lst_comma _ _ _ rfl, piece_nil, Option.map_map]
  congr 1
  funext x
  show acc ++ addEl _ x = _
  rw [addEl_app]
  simp
theorem addEl_len (x : List UInt8) : (addEl x []).length ≤ 1 := by unfold addEl; split <;> simp

end Oc
end Go.Proofs.YtfpodnaaappocaaGreatDoor

/-
  octet.partsSay, octet.Unquote.
-/
set_option linter.unusedVariables false
set_option linter.unusedSimpArgs false
namespace Go.Proofs.YtfpodnaaappocaaGreatDoor
open Go.RowKit Go.Shelf
namespace Oc

theorem say_back (c : UInt8) (l : List UInt8) (h : c = 92) : psay false (c :: l) = psay true l := by rw [psay, if_pos ⟨h, rfl⟩]
theorem say_esc (c : UInt8) (l : List UInt8) : psay true (c :: l) = c :: psay false l := by rw [psay, if_neg (by simp)]
theorem say_on (e : Bool) (c : UInt8) (l : List UInt8) (h : c ≠ 92) : psay e (c :: l) = c :: psay false l := by rw [psay, if_neg (fun x => h x.1)]

end Oc
end Go.Proofs.YtfpodnaaappocaaGreatDoor
