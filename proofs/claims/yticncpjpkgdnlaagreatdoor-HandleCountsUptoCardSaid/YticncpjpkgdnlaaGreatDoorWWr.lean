/-
  A moment in a form, whole; Print.
-/
import Derived.Test.YticncpjpkgdnlaaGreatDoorWWr0
import Derived.Test.YticncpjpkgdnlaaGreatDoorWWr1
import Derived.Test.YticncpjpkgdnlaaGreatDoorWWr2
set_option linter.unusedVariables false
set_option linter.unusedSimpArgs false
namespace Go.Proofs.YticncpjpkgdnlaaGreatDoor
open Go.RowKit
namespace Bs

set_option maxRecDepth 100000 in
set_option maxHeartbeats 2000000 in
theorem Write_any (t form : Int) (ht : I64 t) (hf : I64 form) (w : World) (tb : Tb w) :
    Calls Tryz.prog 146 #[.int .i64 t, .int .i64 form] w fun e w' => e = .returned (.tuple #[.string (str (writeR t form).1), .int .i64 (writeR t form).2]) ∧ Below w.heap.size w w' := by
  by_cases hM : isM t
  · by_cases hF : 0 ≤ form ∧ form < 3
    · rcases (by omega : form = 0 ∨ form = 1 ∨ form = 2) with rfl | rfl | rfl
      · exact Write_0 t ht hM w tb
      · exact Write_1 t ht hM w tb
      · exact Write_2 t ht hM w tb
    · have hsp := Split_any t ht w tb
      rw [show splitR t = (splitV t, 0) from if_pos hM] at hsp
      have HSP : Hid (Calls Tryz.prog 209 #[.int .i64 t] w fun e w' => e = .returned (.tuple #[splitV t, .int .i64 0]) ∧ Below w.heap.size w w') := hsp
      clear hsp
      unfold splitV dv7 at HSP
      have HBF : Hid (∀ w, Calls Tryz.prog 210 #[.int .i64 form, .int .i64 3] w fun e w' => e = .returned (.bool (decide (0 ≤ form ∧ form < 3))) ∧ w' = w) := fun w => below_any form 3 hf ⟨by omega, by omega⟩ w
      rw [decide_eq_false hF] at HBF
      have HWR2 : Hid (writeR t form = ([], 44)) := (by unfold writeR; rw [if_neg (fun c => c hM), if_pos hF] : writeR t form = ([], 44))
      generalize (ymd (t / 86400)).1 = Y at *
      generalize (ymd (t / 86400)).2.1 = M at *
      generalize (ymd (t / 86400)).2.2 = Dd at *
      generalize t % 86400 / 3600 = H at *
      generalize t % 86400 % 3600 / 60 = I at *
      generalize t % 86400 % 60 = S at *
      generalize wday (t / 86400) = K at *
      go_enter Tryz.func146, Tryz.ntmps146
      go_wp2_with fail
      refine Calls.mono HSP.out ?_
      rintro e w1 ⟨rfl, b1⟩
      have HB1 : Hid (Below w.heap.size w w1) := b1
      clear b1
      go_wp2_with fail
      refine (HBF.out _).mono ?_
      rintro e w' ⟨rfl, rfl⟩
      go_wp2
      go_ret2
      exact ⟨ret_si (by rw [HWR2.out]; rfl) (by rw [HWR2.out]), bel_trans HB1.out ((But.refl [] w1).alloc _).to_below⟩
  · have hsp := Split_any t ht w tb
    rw [show splitR t = (dv7 0 0 0 0 0 0 0, 40) from if_neg hM] at hsp
    have HSP : Hid (Calls Tryz.prog 209 #[.int .i64 t] w fun e w' => e = .returned (.tuple #[dv7 0 0 0 0 0 0 0, .int .i64 40]) ∧ Below w.heap.size w w') := hsp
    clear hsp
    unfold dv7 at HSP
    have HWR : Hid (writeR t form = ([], 40)) := if_pos hM
    go_enter Tryz.func146, Tryz.ntmps146
    go_wp2_with fail
    refine Calls.mono HSP.out ?_
    rintro e w1 ⟨rfl, b1⟩
    have HB1 : Hid (Below w.heap.size w w1) := b1
    clear b1
    go_wp2
    go_ret2
    exact ⟨ret_si (by rw [HWR.out]; rfl) (by rw [HWR.out]), bel_trans HB1.out ((But.refl [] w1).alloc _).to_below⟩

set_option maxHeartbeats 400000 in
theorem Print_any (t : Int) (ht : I64 t) (w : World) (tb : Tb w) :
    Calls Tryz.prog 100 #[.int .i64 t] w fun e w' => e = .returned (.tuple #[.string (str (writeR t 0).1), .int .i64 (writeR t 0).2]) ∧ Below w.heap.size w w' := by
  have HW : Hid (Calls Tryz.prog 146 #[.int .i64 t, .int .i64 0] w fun e w' => e = .returned (.tuple #[.string (str (writeR t 0).1), .int .i64 (writeR t 0).2]) ∧ Below w.heap.size w w') := Write_any t 0 ht ⟨by omega, by omega⟩ w tb
  clear tb
  generalize (writeR t 0).2 = E at *
  generalize str (writeR t 0).1 = S at *
  go_enter Tryz.func100, Tryz.ntmps100
  go_wp2_with fail
  refine Calls.mono HW.out ?_
  rintro e w1 ⟨rfl, b1⟩
  have HB1 : Hid (Below w.heap.size w w1) := b1
  clear b1
  go_wp2
  go_ret2
  exact ⟨rfl, HB1.out⟩

end Bs
end Go.Proofs.YticncpjpkgdnlaaGreatDoor
