/-
  target: Parse of a path; the law's awake.
-/
import Derived.Test.YtfpodnaaappocaaGreatDoorMgS
set_option linter.unusedVariables false
set_option linter.unusedSimpArgs false
namespace Go.Proofs.YtfpodnaaappocaaGreatDoor
open Go.RowKit Go.Shelf
namespace Tg
open Oc

theorem awake_place : placeR [47, 97, 63, 98] = (0, 0) ∧ cutA 63 [47, 97, 63, 98] = [47, 97] ∧ cutB 63 [47, 97, 63, 98] = [98] ∧ has 63 [47, 97, 63, 98] = true := by
  have h1 : cutA 63 [47, 97, 63, 98] = [47, 97] := by decide +kernel
  have h2 : cutB 63 [47, 97, 63, 98] = [98] := by decide +kernel
  have t1 : trip [47, 97] = false := by decide +kernel
  have t2 : trip [97] = false := by decide +kernel
  have t3 : trip [98] = false := by decide +kernel
  have a1 : allOk pathOk [47, 97] = true := by
    unfold allOk; rw [zs_one _ _ t1, zs_one _ _ t2, zs_nil]; decide +kernel
  have a2 : allOk queryOk [98] = true := by
    unfold allOk; rw [zs_one _ _ t3, zs_nil]; decide +kernel
  refine ⟨?_, h1, h2, by decide +kernel⟩
  unfold placeR
  rw [h1, h2, chk_ok _ _ _ a1, chk_ok _ _ _ a2]
  rfl
theorem awake_enc : enc [97, 32, 98] = [97, 37, 50, 48, 98] := by decide +kernel

set_option maxRecDepth 100000 in
set_option maxHeartbeats 1000000 in
theorem Parse_awake (w : World) (hm : ML w) :
    Calls Tryz.prog 23 #[.string ⟨#[71, 69, 84]⟩, .string ⟨#[47, 97, 63, 98]⟩] w fun e w' => e = .returned (.tuple #[tgt 1 [] (-1) [47, 97] [98] true, .int .i64 0, .int .i64 0]) ∧ Below w.heap.size w w' := by
  obtain ⟨w2, hw2⟩ : ∃ w2, w2 = w.alloc (.cells #[.int .i64 0, .string ⟨#[]⟩, .int .i64 0, .string ⟨#[]⟩, .string ⟨#[]⟩, .bool false] 63) := ⟨_, rfl⟩
  have R1 : w2.heap[w.heap.size]? = some (.cells #[.int .i64 0, .string ⟨#[]⟩, .int .i64 0, .string ⟨#[]⟩, .string ⟨#[]⟩, .bool false] 63 (0, 0)) := by
    rw [hw2]; exact World.alloc_heap_new w _
  have hb2 : Below w.heap.size w w2 := by rw [hw2]; exact (Below.refl _ w).alloc (Nat.le_refl _) _
  have hz2 : w2.heap.size = w.heap.size + 1 := by rw [hw2]; simp
  have HC : Hid (Calls Tryz.prog 45 #[.agg #[.int .i64 1, .string ⟨#[]⟩, .int .i64 (-1), .string ⟨#[]⟩, .string ⟨#[]⟩, .bool false], .string ⟨#[47, 97, 63, 98]⟩, .int .i64 0] w2 fun e w' => e = .returned (.tuple #[.agg #[.int .i64 1, .string ⟨#[]⟩, .int .i64 (-1), .string ⟨#[47, 97]⟩, .string ⟨#[98]⟩, .bool true], .int .i64 0, .int .i64 0]) ∧ Below w2.heap.size w2 w') := by
    have h := parsePlace_any 1 (-1) [] [] [] false ⟨#[47, 97, 63, 98]⟩ (by decide) 0 (by decide) w2 (hm.below hb2)
    rw [show (⟨#[47, 97, 63, 98]⟩ : ByteArray).data.toList.drop 0 = [47, 97, 63, 98] from rfl, awake_place.1, awake_place.2.1, awake_place.2.2.1, awake_place.2.2.2] at h
    exact h
  have HR1 : Hid (_) := R1
  have HB2 : Hid (Below w.heap.size w w2) := hb2
  clear R1 hb2 hm
  have h47 : (((⟨#[47, 97, 63, 98]⟩ : ByteArray)[0].toNat : Nat) : Int) = 47 := rfl
  go_enter Tryz.func23, Tryz.ntmps23
  go_wp2_with fail
  rw [← hw2]
  refine HC.out.mono ?_
  rintro e w3 ⟨rfl, hb3⟩
  have HB3 : Hid (Below w2.heap.size w2 w3) := hb3
  have R1 := (HB3.out.block _ (show w.heap.size < _ by omega)).trans HR1.out
  have c0 := Lib.cell_of_heap R1 0
  have c1 := Lib.cell_of_heap R1 1
  have c2 := Lib.cell_of_heap R1 2
  have c3 := Lib.cell_of_heap R1 3
  have c4 := Lib.cell_of_heap R1 4
  have c5 := Lib.cell_of_heap R1 5
  have f0 := Lib.frozen_of_heap R1 0
  have f1 := Lib.frozen_of_heap R1 1
  have f2 := Lib.frozen_of_heap R1 2
  have f3 := Lib.frozen_of_heap R1 3
  have f4 := Lib.frozen_of_heap R1 4
  have f5 := Lib.frozen_of_heap R1 5
  simp at c0 c1 c2 c3 c4 c5
  clear R1 hb3
  go_wp2
  refine bodyPost_ret (v := .tuple #[.agg #[.int .i64 1, .string ⟨#[]⟩, .int .i64 (-1), .string ⟨#[47, 97]⟩, .string ⟨#[98]⟩, .bool true], .int .i64 0, .int .i64 0]) (by simp [results, Tryz.results23, go_sem, c0, c1, c2, c3, c4, c5]) rfl ?_
  exact ⟨rfl, (Below.setCell (p := ⟨w.heap.size, 5, none⟩) (Below.setCell (p := ⟨w.heap.size, 4, none⟩) (Below.setCell (p := ⟨w.heap.size, 3, none⟩) (Below.setCell (p := ⟨w.heap.size, 2, none⟩) (Below.setCell (p := ⟨w.heap.size, 1, none⟩) (Below.setCell (p := ⟨w.heap.size, 0, none⟩) (HB2.out.trans (HB3.out.mono (by omega))) (by simp) _) (by simp) _) (by simp) _) (by simp) _) (by simp) _) (by simp) _)⟩

set_option maxRecDepth 100000 in
set_option maxHeartbeats 1000000 in
theorem awake_any (w : World) (hm : ML w) :
    Calls Tryz.prog 11 #[] w fun e w' => e = .returned (.bool true) ∧ Below w.heap.size w w' := by
  have HE : Hid (∀ w, Calls Tryz.prog 24 #[.string ⟨#[97, 32, 98]⟩] w fun e w' => e = .returned (.string ⟨#[97, 37, 50, 48, 98]⟩) ∧ Below w.heap.size w w') := fun w => by
    have h := Encode_any ⟨#[97, 32, 98]⟩ (by decide) w
    rw [show (⟨#[97, 32, 98]⟩ : ByteArray).data.toList = [97, 32, 98] from rfl, awake_enc] at h
    exact h
  have HP : Hid (Calls Tryz.prog 23 #[.string ⟨#[71, 69, 84]⟩, .string ⟨#[47, 97, 63, 98]⟩] w fun e w' => e = .returned (.tuple #[.agg #[.int .i64 1, .string ⟨#[]⟩, .int .i64 (-1), .string ⟨#[47, 97]⟩, .string ⟨#[98]⟩, .bool true], .int .i64 0, .int .i64 0]) ∧ Below w.heap.size w w') := Parse_awake w hm
  clear hm
  go_enter Tryz.func11, Tryz.ntmps11
  go_wp2_with fail
  refine HP.out.mono ?_
  rintro e w1 ⟨rfl, hb1⟩
  have HB1 : Hid (Below w.heap.size w w1) := hb1
  clear hb1
  go_wp2_with fail
  refine (HE.out _).mono ?_
  rintro e w2 ⟨rfl, hb2⟩
  have HB2 : Hid (_) := hb2
  clear hb2
  go_wp2
  go_ret
  exact ⟨rfl, (HB1.out.alloc HB1.out.size _).trans (HB2.out.mono (by have := HB1.out.size; simp; omega))⟩

end Tg
end Go.Proofs.YtfpodnaaappocaaGreatDoor
