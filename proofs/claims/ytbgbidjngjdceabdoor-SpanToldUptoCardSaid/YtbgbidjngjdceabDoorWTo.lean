/-
  SpanTold.
-/
import Derived.Test.YtbgbidjngjdceabDoorSnY
import Derived.Test.YtbgbidjngjdceabDoorSnL
import Derived.Test.YtbgbidjngjdceabDoorSnM
set_option linter.unusedVariables false
set_option linter.unusedSimpArgs false
namespace Go.Proofs.YtbgbidjngjdceabDoor
open Go.RowKit Go.Shelf
namespace Sn
open Oc Tg Ac

set_option maxRecDepth 100000 in
set_option maxHeartbeats 1000000 in
theorem walk_SpanTold (s : ByteArray) (hs : s.size ≤ 1048576) (w : World) (hw : ML w ∧ Pow w) :
    Calls Tryd.prog 3 #[.string s] w fun e w' => e = .returned (.bool true) ∧ Below w.heap.size w w' := by
  have HA : Hid (∀ W, Below w.heap.size w W → Calls _ _ _ W _) := fun W hb => awake_any W (hw.1.below hb)
  have HP : Hid (Calls _ _ _ w _) := Told_any s (by omega) w hw.1 hw.2
  have HQ : Hid (∀ W, Calls _ _ _ W _) := fun W => rTold_gr s (by omega) W
  clear hw
  generalize tolR s.data.toList = TR at *
  obtain ⟨⟨x1, x2⟩, n, er⟩ := TR
  dsimp only at *
  go_enter Tryd.func3, Tryd.ntmps3
  go_wp2_with fail
  refine HP.out.mono ?_
  rintro e w1 ⟨rfl, hb1⟩
  have HB1 : Hid (Below w.heap.size w w1) := hb1
  clear hb1
  obtain ⟨w2, hw2⟩ : ∃ w2, w2 = w1.alloc (.cells #[.int .i64 x1, .int .i64 x2] 23) := ⟨_, rfl⟩
  have HP2 : Hid (PB 23 w2 w1.heap.size (x1, x2)) := (by rw [hw2]; exact PB.new _ w1 (x1, x2) : PB _ _ _ _)
  have HB2 : Hid (Below w.heap.size w w2) := (by rw [hw2]; exact HB1.out.alloc HB1.out.size _ : Below _ _ _)
  generalize hg1 : w1.heap.size = g1 at *
  go_wp2_with fail
  rw [← hw2]
  clear hw2
  refine (HQ.out _).mono ?_
  rintro e w3 ⟨rfl, hb3⟩
  have HP3 : Hid (PB _ _ _ _) := HP2.out.below hb3
  have HB3 : Hid (Below w.heap.size w w3) := bel_trans HB2.out hb3
  clear hb3
  obtain ⟨w4, hw4⟩ : ∃ w4, w4 = w3.alloc (.cells #[.int .i64 x1, .int .i64 x2] 27) := ⟨_, rfl⟩
  have HQ4 : Hid (PB 27 w4 w3.heap.size (x1, x2)) := (by rw [hw4]; exact PB.new _ w3 (x1, x2) : PB _ _ _ _)
  have HP4 : Hid (PB 23 w4 g1 (x1, x2)) := (by rw [hw4]; exact HP3.out.alloc _ : PB _ _ _ _)
  have HB4 : Hid (Below w.heap.size w w4) := (by rw [hw4]; exact HB3.out.alloc HB3.out.size _ : Below _ _ _)
  generalize hg3 : w3.heap.size = g3 at *
  go_wp2_with fail
  rw [← hw4]
  clear hw4
  refine (HA.out _ HB4.out).mono ?_
  rintro e w5 ⟨rfl, hb5⟩
  have HB5 : Hid (Below w.heap.size w w5) := bel_trans HB4.out hb5
  have p0 := (HP4.out.below hb5).c0
  have p1 := (HP4.out.below hb5).c1
  have r0 := (HQ4.out.below hb5).c0
  have r1 := (HQ4.out.below hb5).c1
  clear hb5
  go_wp2
  go_ret
  exact ⟨ret_bool (by simp), HB5.out⟩

end Sn
end Go.Proofs.YtbgbidjngjdceabDoor
