/-
  How narrow a range is: the program's three numbers.
-/
import Derived.Test.YthfckgdaencagaaGreatDoorMgU
import Derived.Deep.RegionHeld3
import Derived.BigQuiet
import Derived.Deep.QuietTactic
set_option maxRecDepth 100000
set_option linter.unusedVariables false
set_option linter.unusedSimpArgs false
namespace Go.Proofs.YthfckgdaencagaaGreatDoor
open Go.RowKit Go.Shelf
namespace Ac
open Oc Tg

theorem set3n {W : World} {p : Nat} {x y z a b c : Value} {T : TypeId} (h : W.heap[p]? = some (.cells #[x, y, z] T (0, 0))) :
    (((W.setCell ⟨p, 0, none⟩ a).setCell ⟨p, 1, none⟩ b).setCell ⟨p, 2, none⟩ c).heap[p]? = some (.cells #[a, b, c] T (0, 0)) := by
  have h1 := heap_setCell_same W p 0 #[x, y, z] T a h
  have h2 := heap_setCell_same _ p 1 _ T b h1
  have h3 := heap_setCell_same _ p 2 _ T c h2
  simpa using h3

set_option maxHeartbeats 4000000 in
theorem narrownessOf_any (A B : ByteArray) (a : Option Addr) (n c : Nat) (w : World) : Calls Tryz.prog 46 #[.agg #[.string A, .string B, .slice a n c]] w fun e w' => e = .returned (.agg #[.int .i64 (nmd B), .int .i64 (nmd A), .int .i64 (n : Int)]) ∧ Below w.heap.size w w' := by
  obtain ⟨w2, hw2⟩ : ∃ w2, w2 = (w.alloc (.cells #[.string A, .string B, .slice a n c] 35)).alloc (.cells #[.int .i64 0, .int .i64 0, .int .i64 0] 98) := ⟨_, rfl⟩
  have HW2 : Hid (w2 = (w.alloc (.cells #[.string A, .string B, .slice a n c] 35)).alloc (.cells #[.int .i64 0, .int .i64 0, .int .i64 0] 98)) := hw2
  have hN : w2.heap[w.heap.size + 1]? = some (.cells #[.int .i64 0, .int .i64 0, .int .i64 0] 98 (0, 0)) := by
    rw [hw2]
    have := heap_alloc_new (w.alloc (.cells #[.string A, .string B, .slice a n c] 35)) (.cells #[.int .i64 0, .int .i64 0, .int .i64 0] 98)
    rwa [World.size_alloc] at this
  have hM : w2.heap[w.heap.size]? = some (.cells #[.string A, .string B, .slice a n c] 35 (0, 0)) := by
    rw [hw2]
    exact (Below.heap_alloc _ _ _ (by simp)).trans (heap_alloc_new w _)
  have hb : Hid (Below w.heap.size w w2) := (by rw [hw2]; exact ((Below.refl _ w).alloc (Nat.le_refl _) _).alloc (by simp) _ : Below _ _ _)
  have m0 : w2.cell? ⟨w.heap.size, 0, none⟩ = some (.string A) := by simp [World.cell?, hM]
  have m1 : w2.cell? ⟨w.heap.size, 1, none⟩ = some (.string B) := by simp [World.cell?, hM]
  have m2 : w2.cell? ⟨w.heap.size, 2, none⟩ = some (.slice a n c) := by simp [World.cell?, hM]
  have n0 : w2.cell? ⟨w.heap.size + 1, 0, none⟩ = some (.int .i64 0) := by simp [World.cell?, hN]
  have n1 : w2.cell? ⟨w.heap.size + 1, 1, none⟩ = some (.int .i64 0) := by simp [World.cell?, hN]
  have n2 : w2.cell? ⟨w.heap.size + 1, 2, none⟩ = some (.int .i64 0) := by simp [World.cell?, hN]
  have f0 : w2.frozen? ⟨w.heap.size + 1, 0, none⟩ = false := by simp [World.frozen?, hN]
  have f1 : w2.frozen? ⟨w.heap.size + 1, 1, none⟩ = false := by simp [World.frozen?, hN]
  have f2 : w2.frozen? ⟨w.heap.size + 1, 2, none⟩ = false := by simp [World.frozen?, hN]
  have h3 := set3n (a := .int .i64 (nmd B)) (b := .int .i64 (nmd A)) (c := .int .i64 (n : Int)) hN
  have e0 : (((w2.setCell ⟨w.heap.size + 1, 0, none⟩ (.int .i64 (nmd B))).setCell ⟨w.heap.size + 1, 1, none⟩ (.int .i64 (nmd A))).setCell ⟨w.heap.size + 1, 2, none⟩ (.int .i64 (n : Int))).cell? ⟨w.heap.size + 1, 0, none⟩ = some (.int .i64 (nmd B)) := by simp only [World.cell?, h3]; rfl
  have e1 : (((w2.setCell ⟨w.heap.size + 1, 0, none⟩ (.int .i64 (nmd B))).setCell ⟨w.heap.size + 1, 1, none⟩ (.int .i64 (nmd A))).setCell ⟨w.heap.size + 1, 2, none⟩ (.int .i64 (n : Int))).cell? ⟨w.heap.size + 1, 1, none⟩ = some (.int .i64 (nmd A)) := by simp only [World.cell?, h3]; rfl
  have e2 : (((w2.setCell ⟨w.heap.size + 1, 0, none⟩ (.int .i64 (nmd B))).setCell ⟨w.heap.size + 1, 1, none⟩ (.int .i64 (nmd A))).setCell ⟨w.heap.size + 1, 2, none⟩ (.int .i64 (n : Int))).cell? ⟨w.heap.size + 1, 2, none⟩ = some (.int .i64 (n : Int)) := by simp only [World.cell?, h3]; rfl
  have HE : Hid ((((w2.setCell ⟨w.heap.size + 1, 0, none⟩ (.int .i64 (nmd B))).setCell ⟨w.heap.size + 1, 1, none⟩ (.int .i64 (nmd A))).setCell ⟨w.heap.size + 1, 2, none⟩ (.int .i64 (n : Int))).drew.cell? ⟨w.heap.size + 1, 0, none⟩ = some (.int .i64 (nmd B)) ∧ (((w2.setCell ⟨w.heap.size + 1, 0, none⟩ (.int .i64 (nmd B))).setCell ⟨w.heap.size + 1, 1, none⟩ (.int .i64 (nmd A))).setCell ⟨w.heap.size + 1, 2, none⟩ (.int .i64 (n : Int))).drew.cell? ⟨w.heap.size + 1, 1, none⟩ = some (.int .i64 (nmd A)) ∧ (((w2.setCell ⟨w.heap.size + 1, 0, none⟩ (.int .i64 (nmd B))).setCell ⟨w.heap.size + 1, 1, none⟩ (.int .i64 (nmd A))).setCell ⟨w.heap.size + 1, 2, none⟩ (.int .i64 (n : Int))).drew.cell? ⟨w.heap.size + 1, 2, none⟩ = some (.int .i64 (n : Int)) ∧ Below w.heap.size w (((w2.setCell ⟨w.heap.size + 1, 0, none⟩ (.int .i64 (nmd B))).setCell ⟨w.heap.size + 1, 1, none⟩ (.int .i64 (nmd A))).setCell ⟨w.heap.size + 1, 2, none⟩ (.int .i64 (n : Int))).drew) :=
    (⟨e0, e1, e2, (((hb.out.setCell (p := ⟨w.heap.size + 1, 0, none⟩) (by simp) _).setCell (p := ⟨w.heap.size + 1, 1, none⟩) (by simp) _).setCell (p := ⟨w.heap.size + 1, 2, none⟩) (by simp) _).drew⟩ : _ ∧ _ ∧ _ ∧ _)
  clear hw2 hM hN h3 e0 e1 e2
  have HNm : Hid (∀ (X : ByteArray) (W : World), Calls Tryz.prog 74 #[.string X] W fun e w' => e = .returned (.int .i64 (nmd X)) ∧ w' = W) := fun X W => named_any X W
  go_enter Tryz.func46, Tryz.ntmps46
  go_wp2_with fail
  rw [← HW2.out]
  clear HW2
  go_region_with (refine (HNm.out _ _).mono ?_; rintro e wk ⟨rfl, hwk⟩; subst hwk)
  all_goals
    go_wp2
    refine bodyPost_ret (v := .agg #[.int .i64 (nmd B), .int .i64 (nmd A), .int .i64 (n : Int)]) (by simp [results, Tryz.results46, go_sem, HE.out.1, HE.out.2.1, HE.out.2.2.1]) rfl ?_
    exact ⟨rfl, HE.out.2.2.2⟩

end Ac
end Go.Proofs.YthfckgdaencagaaGreatDoor
