/-
  The law SheetPairs.
-/
import Derived.Test.YtpoefoepmigbeaaDoorShB
set_option linter.unusedVariables false
set_option linter.unusedSimpArgs false
namespace Go.Proofs.YtpoefoepmigbeaaDoor
open Go.RowKit Go.Shelf
namespace Tg
open Oc

set_option maxRecDepth 100000 in
set_option maxHeartbeats 2000000 in
theorem walk_SheetPairs (s : ByteArray) (hs : s.size ≤ 1048576) (w : World) (hm : ML w) :
    Calls Tryd.prog 3 #[.string s] w fun e w' => e = .returned (.bool true) ∧ Below w.heap.size w w' := by
  have HA : Hid (∀ w, ML w → _) := fun w h => awake15_any w h
  have HQ : Hid (∀ w, ML w → _) := fun w h => Pairs_any s (by omega) w h
  have HR : Hid (∀ w, _) := fun w => rPairs15_any s (by omega) w
  have hl := shpR_len s.data.toList
  rw [size_list] at hl
  generalize shpR s.data.toList = q at *
  obtain ⟨q1, q2, q3⟩ := q
  dsimp only at HQ HR hl
  go_enter Tryd.func3, Tryd.ntmps3
  go_wp2_with fail
  refine (HQ.out _ hm).mono ?_
  rintro e w1 ⟨v1, rfl, o1, k1⟩
  have hm1 := hm.below k1
  have r1 : RdQ v1 q1 w1 := OwnQ.rd o1
  clear o1
  go_wp2_with fail
  refine (HR.out _).mono ?_
  rintro e w2 ⟨v2, rfl, o2, k2⟩
  have hm2 := hm1.below k2
  have r12 : RdQ v1 q1 w2 := RdQ.below r1 k2
  have r2 : RdQ v2 q1 w2 := OwnQ.rd o2
  have K2 : Hid (Below w.heap.size w w2) := k1.trans (k2.mono k1.size)
  clear o2 r1
  go_wp2_with fail
  refine (HA.out _ hm2).mono ?_
  rintro e w3 ⟨rfl, k3⟩
  have K3 : Hid (Below w.heap.size w w3) := K2.out.trans (k3.mono K2.out.size)
  have HP : Hid (_) := pairs15_any v1 v2 q1 w3 (RdQ.below r12 k3) (RdQ.below r2 k3) (by omega)
  clear r12 r2 k1 k2 k3
  go_wp2_with fail
  refine Calls.mono HP.out ?_
  rintro e w4 ⟨rfl, n, rfl⟩
  go_wp2
  go_ret
  exact ⟨rfl, K3.out.trans ⟨rfl, rfl, rfl, Nat.le_refl _, fun _ _ => rfl⟩⟩

end Tg
end Go.Proofs.YtpoefoepmigbeaaDoor
