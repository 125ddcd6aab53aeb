/-
  alike; the law TargetParses.
-/
import Derived.Test.YtjiebnieceffoaaGreatDoorGPx
set_option linter.unusedVariables false
set_option linter.unusedSimpArgs false
set_option maxRecDepth 100000
namespace Go.Proofs.YtjiebnieceffoaaGreatDoor
open Go.RowKit Go.Shelf
namespace Tg
open Oc

set_option maxHeartbeats 4000000 in
theorem alike_any (a c : Int) (B D E : ByteArray) (f : Bool) (w : World) :
    Calls Tryz.prog 12 #[.agg #[.int .i64 a, .string B, .int .i64 c, .string D, .string E, .bool f], .agg #[.int .i64 a, .string B, .int .i64 c, .string D, .string E, .bool f]] w fun e w' => e = .returned (.bool true) ∧ Below w.heap.size w w' := by
  go_enter Tryz.func12, Tryz.ntmps12
  go_wp2
  go_ret
  exact ⟨rfl, ((Below.refl _ w).alloc (Nat.le_refl _) _).alloc (by simp) _⟩

set_option maxHeartbeats 4000000 in
theorem walk_TargetParses (m : ByteArray) (hm : m.size ≤ 1048576) (s : ByteArray) (hs : s.size ≤ 1048576) (w : World) (he : HE w) :
    Calls Tryz.prog 3 #[.string m, .string s] w fun e w' => e = .returned (.bool true) ∧ Below w.heap.size w w' := by
  have HA : Hid (∀ w, HE w → _) := fun w h => awake_any w h.1
  have HD : Hid (∀ w, HE w → _) := fun w h => Parse_any m s (by omega) (by omega) w h
  have HR : Hid (∀ w, _) := fun w => rParse_any m s (by omega) (by omega) w
  generalize parP m.data.toList s.data.toList = Q at *
  obtain ⟨q1, q2, q3, q4, q5, q6, q7, q8⟩ := Q
  unfold prV tgt at HD HR
  dsimp only at HD HR
  generalize str q2 = Q2 at *
  generalize str q4 = Q4 at *
  generalize str q5 = Q5 at *
  have HL : Hid (∀ w, _) := fun w => alike_any q1 q3 Q2 Q4 Q5 q6 w
  have HM : Hid (HE w) := he
  clear he
  go_enter Tryz.func3, Tryz.ntmps3
  go_wp2_with fail
  refine (HD.out _ HM.out).mono ?_
  rintro e w1 ⟨rfl, h1⟩
  have H1 : Hid (Below w.heap.size w w1) := h1
  clear h1
  go_wp2_with fail
  refine (HR.out _).mono ?_
  rintro e w2 ⟨rfl, h2⟩
  have H2 : Hid (Below w.heap.size w w2) := (H1.out.alloc H1.out.size _).trans (h2.mono (by have := H1.out.size; simp; omega))
  have c1 : Hid (w2.heap[w1.heap.size]? = some (.cells #[.int .i64 q1, .string Q2, .int .i64 q3, .string Q4, .string Q5, .bool q6] 23 (0, 0))) := by
    show _ = _
    rw [h2.block _ (by simp)]
    exact World.alloc_heap_new w1 _
  clear h2
  go_wp2_with fail
  obtain ⟨w3, hw3⟩ : ∃ w3, w3 = w2.alloc (.cells #[.int .i64 q1, .string Q2, .int .i64 q3, .string Q4, .string Q5, .bool q6] 27) := ⟨_, rfl⟩
  have H3 : Hid (Below w.heap.size w w3) := by rw [hw3]; exact H2.out.alloc H2.out.size _
  have c2 : Hid (w3.heap[w2.heap.size]? = some (.cells #[.int .i64 q1, .string Q2, .int .i64 q3, .string Q4, .string Q5, .bool q6] 27 (0, 0))) := by rw [hw3]; exact World.alloc_heap_new w2 _
  have c1' : Hid (w3.heap[w1.heap.size]? = some (.cells #[.int .i64 q1, .string Q2, .int .i64 q3, .string Q4, .string Q5, .bool q6] 23 (0, 0))) := by
    show _ = _
    rw [hw3, Lib.alloc_old _ _ _ (Array.getElem?_eq_some_iff.1 c1.out).1]
    exact c1.out
  rw [← hw3]
  clear c1 hw3
  refine (HA.out _ (HM.out.below H3.out)).mono ?_
  rintro e w4 ⟨rfl, h4⟩
  have H4 : Hid (Below w.heap.size w w4) := H3.out.trans (h4.mono H3.out.size)
  have R1 := (h4.block _ (Array.getElem?_eq_some_iff.1 c1'.out).1).trans c1'.out
  have R0 := (h4.block _ (Array.getElem?_eq_some_iff.1 c2.out).1).trans c2.out
  clear h4 c1' c2
  have a0 := Lib.cell_of_heap R1 0
  have a1 := Lib.cell_of_heap R1 1
  have a2 := Lib.cell_of_heap R1 2
  have a3 := Lib.cell_of_heap R1 3
  have a4 := Lib.cell_of_heap R1 4
  have a5 := Lib.cell_of_heap R1 5
  have b0 := Lib.cell_of_heap R0 0
  have b1 := Lib.cell_of_heap R0 1
  have b2 := Lib.cell_of_heap R0 2
  have b3 := Lib.cell_of_heap R0 3
  have b4 := Lib.cell_of_heap R0 4
  have b5 := Lib.cell_of_heap R0 5
  simp at a0 a1 a2 a3 a4 a5 b0 b1 b2 b3 b4 b5
  clear R1 R0
  go_wp2_with fail
  refine (HL.out _).mono ?_
  rintro e w5 ⟨rfl, h5⟩
  have H5 : Hid (Below w.heap.size w w5) := H4.out.trans (h5.mono H4.out.size)
  clear h5
  go_wp2
  go_ret
  exact ⟨rfl, H5.out⟩

end Tg
end Go.Proofs.YtjiebnieceffoaaGreatDoor
