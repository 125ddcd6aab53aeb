/-
  The law's own 'awake'.
-/
import Derived.Test.YtpfkajalkakbgaaDoorWWr
import Derived.Test.YtpfkajalkakbgaaDoorPPs
set_option linter.unusedVariables false
set_option linter.unusedSimpArgs false
namespace Go.Proofs.YtpfkajalkakbgaaDoor
open Go.RowKit
namespace Bs

def aw1 : List UInt8 := [83, 117, 110, 44, 32, 48, 54, 32, 78, 111, 118, 32, 49, 57, 57, 52, 32, 48, 56, 58, 52, 57, 58, 51, 55, 32, 71, 77, 84]
def aw2 : List UInt8 := [83, 117, 110, 32, 78, 111, 118, 32, 32, 54, 32, 48, 56, 58, 52, 57, 58, 51, 55, 32, 49, 57, 57, 52]
theorem aw_w : writeR 784111777 0 = (aw1, 0) := by kernel_rfl
theorem aw_p : parseS aw2 0 = (784111777, 2, 0, 0) := by kernel_rfl

set_option maxRecDepth 100000 in
set_option maxHeartbeats 2000000 in
theorem awake_any (w : World) (tb : Tb w) : Calls Tryd.prog 9 #[] w fun e w' => e = .returned (.bool true) ∧ Below w.heap.size w w' := by
  have HM1 : Hid (Calls Tryd.prog 14 #[.int .i64 2024, .int .i64 2] w fun e w' => e = .returned (.int .i64 29) ∧ w' = w) := MonthDays_any 2024 2 ⟨by omega, by omega⟩ ⟨by omega, by omega⟩ w tb
  have HM2 : Hid (Calls Tryd.prog 14 #[.int .i64 2023, .int .i64 2] w fun e w' => e = .returned (.int .i64 28) ∧ w' = w) := MonthDays_any 2023 2 ⟨by omega, by omega⟩ ⟨by omega, by omega⟩ w tb
  have hp := Print_any 784111777 ⟨by omega, by omega⟩ w tb
  rw [aw_w] at hp
  have HP : Hid (Calls Tryd.prog 23 #[.int .i64 784111777] w fun e w' => e = .returned (.tuple #[.string (str aw1), .int .i64 0]) ∧ Below w.heap.size w w') := hp
  have HQ : Hid (∀ w, Tb w → Calls Tryd.prog 24 #[.string (str aw2), .int .i64 0] w fun e w' => e = .returned (.tuple #[.int .i64 784111777, .int .i64 2, .int .i64 0, .int .i64 0]) ∧ Below w.heap.size w w') := fun w tb => by
    have h := Parse_any aw2 0 (by decide) ⟨by omega, by omega⟩ w tb
    rw [aw_p] at h
    exact h
  clear hp
  have HT : Hid (Tb w) := tb
  clear tb
  unfold str aw1 at HP
  unfold str aw2 at HQ
  go_enter Tryd.func9, Tryd.ntmps9
  go_wp2_with fail
  refine Calls.mono HM1.out ?_
  rintro e w' ⟨rfl, rfl⟩
  go_wp2_with fail
  refine Calls.mono HM2.out ?_
  rintro e w' ⟨rfl, rfl⟩
  go_wp2_with fail
  refine Calls.mono HP.out ?_
  rintro e w1 ⟨rfl, b1⟩
  have HT1 : Hid (Tb w1) := HT.out.bel b1
  have HB1 : Hid (Below _ _ w1) := b1
  clear b1
  go_wp2_with fail
  refine (HQ.out w1 HT1.out).mono ?_
  rintro e w2 ⟨rfl, b2⟩
  have HB2 : Hid (Below _ _ w2) := bel_trans HB1.out b2
  clear b2
  go_wp2
  go_ret
  exact ⟨rfl, HB2.out⟩

end Bs
end Go.Proofs.YtpfkajalkakbgaaDoor
