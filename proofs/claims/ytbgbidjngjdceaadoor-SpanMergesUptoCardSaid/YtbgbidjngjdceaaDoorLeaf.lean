/-
  Contracts of octet's small functions on bytes, and of the document's.
-/
import Derived.Test.YtbgbidjngjdceaaDoorPlain
import Derived.Test.YtbgbidjngjdceaaDoorRows
import Derived.WalkKit
import Derived.WalkSpells
import Derived.WalkLawsBesides
set_option linter.unusedVariables false
set_option linter.unusedSimpArgs false
namespace Go.Proofs.YtbgbidjngjdceaaDoor
open Go.RowKit
namespace Oc

theorem ret_int {k : IntKind} {a b : Int} (h : a = b) : Ending.returned (.int k a) = .returned (.int k b) := by rw [h]
theorem ret_bool {a b : Bool} (h : a = b) : Ending.returned (.bool a) = .returned (.bool b) := by rw [h]

set_option maxHeartbeats 400000 in
theorem lowerByte_any (c : Int) (h0 : 0 ≤ c) (h1 : c ≤ 255) (w : World) :
    Calls Tryd.prog 69 #[.int .u8 c] w fun e w' => e = .returned (.int .u8 (lowI c)) ∧ w' = w := by
  by_cases a : 65 ≤ c
  · by_cases b : c ≤ 90
    · go_enter Tryd.func69, Tryd.ntmps69
      go_wp2
      go_ret
      exact ⟨ret_int (by rw [lowI_up a b]; omega), rfl⟩
    · go_enter Tryd.func69, Tryd.ntmps69
      go_wp2
      go_ret
      exact ⟨ret_int (by rw [lowI_not (by omega)]), rfl⟩
  · go_enter Tryd.func69, Tryd.ntmps69
    go_wp2
    go_ret
    exact ⟨ret_int (by rw [lowI_not (by omega)]), rfl⟩

set_option maxHeartbeats 400000 in
theorem isFieldByte_any (c : Int) (h0 : 0 ≤ c) (h1 : c ≤ 255) (w : World) :
    Calls Tryd.prog 92 #[.int .u8 c] w fun e w' => e = .returned (.bool (fieldI c)) ∧ w' = w := by
  by_cases a : c = 9
  · subst a
    go_enter Tryd.func92, Tryd.ntmps92
    go_wp2
    go_ret
    exact ⟨ret_bool (by decide), rfl⟩
  · have a' : (c == 9) = false := by simp [a]
    by_cases b : 32 ≤ c
    · by_cases d : c = 127
      · subst d
        go_enter Tryd.func92, Tryd.ntmps92
        go_wp2
        go_ret
        exact ⟨ret_bool (by decide), rfl⟩
      · have d' : (c != 127) = true := by simp [d]
        go_enter Tryd.func92, Tryd.ntmps92
        go_wp2
        go_ret
        exact ⟨ret_bool (by unfold fieldI; simp; omega), rfl⟩
    · go_enter Tryd.func92, Tryd.ntmps92
      go_wp2
      go_ret
      exact ⟨ret_bool (by unfold fieldI; simp; omega), rfl⟩

set_option maxHeartbeats 400000 in
theorem IsDigit_any (c : Int) (h0 : 0 ≤ c) (h1 : c ≤ 255) (w : World) :
    Calls Tryd.prog 109 #[.int .u8 c] w fun e w' => e = .returned (.bool (digI c)) ∧ w' = w := by
  rcases (show c < 48 ∨ (48 ≤ c ∧ c ≤ 57) ∨ 57 < c by omega) with h | ⟨h, h'⟩ | h
  · go_enter Tryd.func109, Tryd.ntmps109
    go_wp2
    go_ret
    exact ⟨ret_bool (digI_f (by omega)).symm, rfl⟩
  · go_enter Tryd.func109, Tryd.ntmps109
    go_wp2
    go_ret
    exact ⟨ret_bool (digI_t (by omega)).symm, rfl⟩
  · have g57 : decide (c ≤ 57) = false := by simp; omega
    go_enter Tryd.func109, Tryd.ntmps109
    go_wp2
    go_ret
    exact ⟨ret_bool (digI_f (by omega)).symm, rfl⟩

set_option maxHeartbeats 400000 in
theorem IsHex_any (c : Int) (h0 : 0 ≤ c) (h1 : c ≤ 255) (w : World) :
    Calls Tryd.prog 110 #[.int .u8 c] w fun e w' => e = .returned (.bool (hexI c)) ∧ w' = w := by
  rcases (show c < 48 ∨ (48 ≤ c ∧ c ≤ 57) ∨ (57 < c ∧ c < 65) ∨ (65 ≤ c ∧ c ≤ 70) ∨ (70 < c ∧ c < 97) ∨ (97 ≤ c ∧ c ≤ 102) ∨ 102 < c by omega) with h | ⟨h, h'⟩ | ⟨h, h'⟩ | ⟨h, h'⟩ | ⟨h, h'⟩ | ⟨h, h'⟩ | h
  · go_enter Tryd.func110, Tryd.ntmps110
    go_wp2
    go_ret
    exact ⟨ret_bool (hexI_f (by omega)).symm, rfl⟩
  · go_enter Tryd.func110, Tryd.ntmps110
    go_wp2
    go_ret
    exact ⟨ret_bool (hexI_t (by omega)).symm, rfl⟩
  · have g57 : decide (c ≤ 57) = false := by simp; omega
    go_enter Tryd.func110, Tryd.ntmps110
    go_wp2
    go_ret
    exact ⟨ret_bool (hexI_f (by omega)).symm, rfl⟩
  · have g57 : decide (c ≤ 57) = false := by simp; omega
    go_enter Tryd.func110, Tryd.ntmps110
    go_wp2
    go_ret
    exact ⟨ret_bool (hexI_t (by omega)).symm, rfl⟩
  · have g57 : decide (c ≤ 57) = false := by simp; omega
    have g70 : decide (c ≤ 70) = false := by simp; omega
    go_enter Tryd.func110, Tryd.ntmps110
    go_wp2
    go_ret
    exact ⟨ret_bool (hexI_f (by omega)).symm, rfl⟩
  · have g57 : decide (c ≤ 57) = false := by simp; omega
    have g70 : decide (c ≤ 70) = false := by simp; omega
    go_enter Tryd.func110, Tryd.ntmps110
    go_wp2
    go_ret
    exact ⟨ret_bool (hexI_t (by omega)).symm, rfl⟩
  · have g57 : decide (c ≤ 57) = false := by simp; omega
    have g70 : decide (c ≤ 70) = false := by simp; omega
    have g102 : decide (c ≤ 102) = false := by simp; omega
    go_enter Tryd.func110, Tryd.ntmps110
    go_wp2
    go_ret
    exact ⟨ret_bool (hexI_f (by omega)).symm, rfl⟩

set_option maxHeartbeats 400000 in
theorem digitValue_any (c : Int) (h0 : 0 ≤ c) (h1 : c ≤ 255) (w : World) :
    Calls Tryd.prog 106 #[.int .u8 c] w fun e w' => e = .returned (.int .i64 (valI c)) ∧ w' = w := by
  rcases (show c < 48 ∨ (48 ≤ c ∧ c ≤ 57) ∨ (57 < c ∧ c < 65) ∨ (65 ≤ c ∧ c ≤ 70) ∨ (70 < c ∧ c < 97) ∨ (97 ≤ c ∧ c ≤ 102) ∨ 102 < c by omega) with h | ⟨h, h'⟩ | ⟨h, h'⟩ | ⟨h, h'⟩ | ⟨h, h'⟩ | ⟨h, h'⟩ | h
  · go_enter Tryd.func106, Tryd.ntmps106
    go_wp2
    go_ret
    exact ⟨ret_int (valI_n (hexI_f (by omega))).symm, rfl⟩
  · go_enter Tryd.func106, Tryd.ntmps106
    go_wp2
    go_ret
    exact ⟨ret_int (by rw [valI_d (by omega)]), rfl⟩
  · have g57 : decide (c ≤ 57) = false := by simp; omega
    go_enter Tryd.func106, Tryd.ntmps106
    go_wp2
    go_ret
    exact ⟨ret_int (valI_n (hexI_f (by omega))).symm, rfl⟩
  · have g57 : decide (c ≤ 57) = false := by simp; omega
    go_enter Tryd.func106, Tryd.ntmps106
    go_wp2
    go_ret
    exact ⟨ret_int (by rw [valI_b (by omega)]; omega), rfl⟩
  · have g57 : decide (c ≤ 57) = false := by simp; omega
    have g70 : decide (c ≤ 70) = false := by simp; omega
    go_enter Tryd.func106, Tryd.ntmps106
    go_wp2
    go_ret
    exact ⟨ret_int (valI_n (hexI_f (by omega))).symm, rfl⟩
  · have g57 : decide (c ≤ 57) = false := by simp; omega
    go_enter Tryd.func106, Tryd.ntmps106
    go_wp2
    go_ret
    exact ⟨ret_int (by rw [valI_s (by omega)]; omega), rfl⟩
  · have g57 : decide (c ≤ 57) = false := by simp; omega
    have g70 : decide (c ≤ 70) = false := by simp; omega
    have g102 : decide (c ≤ 102) = false := by simp; omega
    go_enter Tryd.func106, Tryd.ntmps106
    go_wp2
    go_ret
    exact ⟨ret_int (valI_n (hexI_f (by omega))).symm, rfl⟩

set_option maxHeartbeats 400000 in
theorem value_any (c : Int) (h0 : 0 ≤ c) (h1 : c ≤ 255) (hh : hexI c = true) (w : World) :
    Calls Tryd.prog 111 #[.int .u8 c] w fun e w' => e = .returned (.int .i64 (valI c)) ∧ w' = w := by
  have hx := of_decide_eq_true hh
  clear hh
  rcases hx with ⟨h, h'⟩ | ⟨h, h'⟩ | ⟨h, h'⟩
  · go_enter Tryd.func111, Tryd.ntmps111
    go_wp2
    go_ret
    exact ⟨ret_int (by rw [valI_d (by omega)]), rfl⟩
  · go_enter Tryd.func111, Tryd.ntmps111
    go_wp2
    go_ret
    exact ⟨ret_int (by rw [valI_b (by omega)]; omega), rfl⟩
  · go_enter Tryd.func111, Tryd.ntmps111
    go_wp2
    go_ret
    exact ⟨ret_int (by rw [valI_s (by omega)]; omega), rfl⟩

set_option maxHeartbeats 400000 in
theorem IsBlank_any (c : Int) (h0 : 0 ≤ c) (h1 : c ≤ 255) (w : World) :
    Calls Tryd.prog 72 #[.int .u8 c] w fun e w' => e = .returned (.bool (blankI c)) ∧ w' = w := by
  rcases (show c = 32 ∨ c = 9 ∨ (c ≠ 32 ∧ c ≠ 9) by omega) with rfl | rfl | ⟨h, h'⟩
  · go_enter Tryd.func72, Tryd.ntmps72
    go_wp2
    go_ret
    exact ⟨ret_bool (by decide), rfl⟩
  · go_enter Tryd.func72, Tryd.ntmps72
    go_wp2
    go_ret
    exact ⟨ret_bool (by decide), rfl⟩
  · have g1 : (c == 32) = false := by simp; omega
    have g2 : (c == 9) = false := by simp; omega
    go_enter Tryd.func72, Tryd.ntmps72
    go_wp2
    go_ret
    exact ⟨ret_bool (blankI_f (by omega)).symm, rfl⟩

set_option maxHeartbeats 400000 in
theorem IsByte_any (c : Int) (h0 : 0 ≤ c) (h1 : c ≤ 255) (w : World) :
    Calls Tryd.prog 73 #[.int .u8 c] w fun e w' => e = .returned (.bool (fieldI c)) ∧ w' = w := by
  rcases (show c = 9 ∨ c = 127 ∨ (c ≠ 9 ∧ c < 32) ∨ (32 ≤ c ∧ c ≠ 127) by omega) with rfl | rfl | ⟨h, h'⟩ | ⟨h, h'⟩
  · go_enter Tryd.func73, Tryd.ntmps73
    go_wp2
    go_ret
    exact ⟨ret_bool (by decide), rfl⟩
  · go_enter Tryd.func73, Tryd.ntmps73
    go_wp2
    go_ret
    exact ⟨ret_bool (by decide), rfl⟩
  · have g1 : (c == 9) = false := by simp; omega
    go_enter Tryd.func73, Tryd.ntmps73
    go_wp2
    go_ret
    exact ⟨ret_bool (fieldI_f (by omega)).symm, rfl⟩
  · have g1 : (c == 9) = false := by simp; omega
    have g2 : (c != 127) = true := by simp; omega
    go_enter Tryd.func73, Tryd.ntmps73
    go_wp2
    go_ret
    exact ⟨ret_bool (fieldI_t (by omega)).symm, rfl⟩

end Oc
end Go.Proofs.YtbgbidjngjdceaaDoor
