/- Several texts as one. -/
import Derived.Test.YtfpodnaaappocaaGreatDoorMgJ
/-
  The document's Unquote.
-/
set_option linter.unusedVariables false
set_option linter.unusedSimpArgs false
namespace Go.Proofs.YtfpodnaaappocaaGreatDoor
open Go.RowKit Go.Shelf
namespace Oc

theorem unqR_zero (s : ByteArray) (h : ¬ (0 < s.size ∧ byt s 0 = 34)) : unqR s.data.toList = ([], 0, 13) := by
  unfold unqR
  rw [if_pos (qlen_none s h)]
theorem head_quote (s : ByteArray) (h : 0 < s.size) (h2 : byt s 0 = 34) : s.data.toList = 34 :: s.data.toList.drop 1 := by
  have e : s.data.toList.getD 0 0 = 34 := UInt8.toNat_inj.1 (by unfold byt at h2; show _ = 34; omega)
  conv => lhs; rw [cons_of (show ¬ s.size = 0 by omega), e]
theorem own_empty (w : World) : Own w.heap.size (.slice (some ⟨w.heap.size, 0, none⟩) 0 0) [] (w.alloc (.cells #[] 5)) :=
  ⟨by simp [Lib.byteCells], .inr ⟨w.heap.size, 0, #[], rfl, Nat.le_refl _, heap_alloc_new w _, by simp, by decide, by simp, by simp [Lib.byteCells]⟩⟩
theorem map_none {α β : Type} {o : Option α} {f : α → β} (h : o = none) : o.map f = none := by rw [h]; rfl
theorem ru_end (c : UInt8) (l : List UInt8) (h : c = 34) : ru false (c :: l) = some ([], 1) := by subst h; rw [ru, if_pos rfl]
theorem ru_back (c : UInt8) (l : List UInt8) (h : c = 92) : ru false (c :: l) = (ru true l).map (fun x => (x.1, x.2 + 1)) := by subst h; rw [ru, if_neg (by decide), if_pos rfl]
theorem ru_bad (c : UInt8) (l : List UInt8) (h : fieldB c = false) : ru false (c :: l) = none := by
  rw [ru, if_neg (by intro e; subst e; simp [field34] at h), if_neg (by intro e; subst e; simp [field92] at h), h]
  rfl
theorem ru_on (c : UInt8) (l : List UInt8) (h : fieldB c = true) (h1 : c ≠ 34) (h2 : c ≠ 92) : ru false (c :: l) = (ru false l).map (fun x => (c :: x.1, x.2 + 1)) := by
  rw [ru, if_neg h1, if_neg h2, if_pos h]
theorem rut_bad (c : UInt8) (l : List UInt8) (h : fieldB c = false) : ru true (c :: l) = none := by rw [ru, h]; rfl
theorem rut_on (c : UInt8) (l : List UInt8) (h : fieldB c = true) : ru true (c :: l) = (ru false l).map (fun x => (c :: x.1, x.2 + 1)) := by rw [ru, if_pos h]
theorem shift1 (o : List UInt8) (k : Nat) (u : UInt8) (r : Option (List UInt8 × Nat)) (hk : 1 ≤ k) :
    ((r.map (fun x => (u :: x.1, x.2 + 1))).map (fun x => (o ++ x.1, x.2 + (k - 1)))) = r.map (fun x => ((o ++ [u]) ++ x.1, x.2 + (k + 1 - 1))) := by
  cases r with
  | none => rfl
  | some x => simp; omega
theorem shift2 (o : List UInt8) (k : Nat) (u : UInt8) (r : Option (List UInt8 × Nat)) (hk : 1 ≤ k) :
    (((r.map (fun x => (u :: x.1, x.2 + 1))).map (fun x => (x.1, x.2 + 1))).map (fun x => (o ++ x.1, x.2 + (k - 1)))) = r.map (fun x => ((o ++ [u]) ++ x.1, x.2 + (k + 2 - 1))) := by
  cases r with
  | none => rfl
  | some x => simp; omega

end Oc
end Go.Proofs.YtfpodnaaappocaaGreatDoor

/-
  The document's List.
-/
set_option linter.unusedVariables false
set_option linter.unusedSimpArgs false
namespace Go.Proofs.YtfpodnaaappocaaGreatDoor
open Go.RowKit Go.Shelf
namespace Oc

theorem unqR_q (l : List UInt8) (h : qlen l = 0) : unqR l = ([], 0, 13) := by unfold unqR; rw [if_pos h]
theorem unqR_p (l : List UInt8) (h : ¬ qlen l = 0) : ∃ x, unqR l = (x, (qlen l : Int), 0) := by unfold unqR; rw [if_neg h]; exact ⟨_, rfl⟩
theorem ownS_emptyB {B : Nat} (w : World) (hB : B ≤ w.heap.size) : OwnS B (.slice (some ⟨w.heap.size, 0, none⟩) 0 0) [] (w.alloc (.cells #[] 9)) := (ownS_empty w).lower hB

end Oc
end Go.Proofs.YtfpodnaaappocaaGreatDoor
