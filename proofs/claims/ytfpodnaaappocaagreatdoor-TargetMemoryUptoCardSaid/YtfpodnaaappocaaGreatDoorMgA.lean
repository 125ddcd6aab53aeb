/- Several texts as one. -/
import Derived.WalkKit
import Derived.Test.YtfpodnaaappocaaGreatDoorRows
import Derived.WalkSpells
import Derived.WalkLawsBesides
/-
  Plain mathematics for package octet: bytes as integers and as UInt8, lists of bytes. Nothing of the program.
-/
set_option linter.unusedVariables false
set_option linter.unusedSimpArgs false
namespace Go.Proofs.YtfpodnaaappocaaGreatDoor
namespace Oc

theorem at_lt (s : ByteArray) (k : Nat) (h : k < s.size) : s.data.toList.getD k 0 = s[k] := by
  rw [List.getD_eq_getElem?_getD, List.getElem?_eq_getElem (by simpa using h)]
  rfl

/-- Small letters, of a byte. -/
def lowI (c : Int) : Int := if 65 ≤ c ∧ c ≤ 90 then c + 32 else c
def digI (c : Int) : Bool := decide (48 ≤ c ∧ c ≤ 57)
def lettI (c : Int) : Bool := decide (65 ≤ c ∧ c ≤ 90 ∨ 97 ≤ c ∧ c ≤ 122)
def hexI (c : Int) : Bool := decide (48 ≤ c ∧ c ≤ 57 ∨ 65 ≤ c ∧ c ≤ 70 ∨ 97 ≤ c ∧ c ≤ 102)
def blankI (c : Int) : Bool := decide (c = 32 ∨ c = 9)
def fieldI (c : Int) : Bool := decide (c = 9 ∨ 32 ≤ c ∧ c ≠ 127)
/-- What a hexadecimal digit says; 16 of another byte. -/
def valI (c : Int) : Int := if 48 ≤ c ∧ c ≤ 57 then c - 48 else if 97 ≤ c ∧ c ≤ 102 then c - 87 else if 65 ≤ c ∧ c ≤ 70 then c - 55 else 16
def signs : List UInt8 := [33, 35, 36, 37, 38, 39, 42, 43, 45, 46, 94, 95, 96, 124, 126]
def tokI (c : Int) : Bool := digI c || lettI c || signs.any fun x => (x.toNat : Int) == c

theorem signs_at (k : Nat) (h : k < (⟨#[33, 35, 36, 37, 38, 39, 42, 43, 45, 46, 94, 95, 96, 124, 126]⟩ : ByteArray).size) : signs.getD k 0 = (⟨#[33, 35, 36, 37, 38, 39, 42, 43, 45, 46, 94, 95, 96, 124, 126]⟩ : ByteArray)[k] := at_lt _ k h

theorem lowI_up {c : Int} (a : 65 ≤ c) (b : c ≤ 90) : lowI c = c + 32 := by unfold lowI; rw [if_pos ⟨a, b⟩]
theorem lowI_not {c : Int} (a : ¬ (65 ≤ c ∧ c ≤ 90)) : lowI c = c := by unfold lowI; rw [if_neg a]
theorem lowI_bd {c : Int} (h0 : 0 ≤ c) (h1 : c ≤ 255) : 0 ≤ lowI c ∧ lowI c ≤ 255 := by unfold lowI; split <;> omega
theorem valI_bd {c : Int} (h0 : 0 ≤ c) : 0 ≤ valI c ∧ valI c ≤ 16 := by unfold valI; (repeat' split) <;> omega

/-- The table's bits, by its words. -/
theorem tok_word0 : ∀ c : Nat, c < 64 → tokI (c : Int) = (bits BinOp.and IntKind.u64 (288068722172624896 / 2 ^ (c : Int).toNat) 1 == 1) := by decide +kernel
theorem tok_word1 : ∀ c : Nat, c < 64 → tokI ((c + 64 : Nat) : Int) = (bits BinOp.and IntKind.u64 (6341068274398134270 / 2 ^ (c : Int).toNat) 1 == 1) := by decide +kernel
theorem tok_beyond {c : Int} (h : 128 ≤ c) : tokI c = false := by
  unfold tokI digI lettI
  simp only [Bool.or_eq_false_iff, decide_eq_false_iff_not]
  refine ⟨⟨by omega, by omega⟩, ?_⟩
  rw [List.any_eq_false]
  intro x hx
  have hall : ∀ y ∈ signs, y.toNat < 128 := by decide
  have := hall x hx
  simp
  omega

theorem digI_t {c : Int} (h : 48 ≤ c ∧ c ≤ 57) : digI c = true := decide_eq_true h
theorem digI_f {c : Int} (h : ¬ (48 ≤ c ∧ c ≤ 57)) : digI c = false := decide_eq_false h
theorem lettI_t {c : Int} (h : 65 ≤ c ∧ c ≤ 90 ∨ 97 ≤ c ∧ c ≤ 122) : lettI c = true := decide_eq_true h
theorem lettI_f {c : Int} (h : ¬ (65 ≤ c ∧ c ≤ 90 ∨ 97 ≤ c ∧ c ≤ 122)) : lettI c = false := decide_eq_false h
theorem hexI_t {c : Int} (h : 48 ≤ c ∧ c ≤ 57 ∨ 65 ≤ c ∧ c ≤ 70 ∨ 97 ≤ c ∧ c ≤ 102) : hexI c = true := decide_eq_true h
theorem hexI_f {c : Int} (h : ¬ (48 ≤ c ∧ c ≤ 57 ∨ 65 ≤ c ∧ c ≤ 70 ∨ 97 ≤ c ∧ c ≤ 102)) : hexI c = false := decide_eq_false h
theorem blankI_t {c : Int} (h : c = 32 ∨ c = 9) : blankI c = true := decide_eq_true h
theorem blankI_f {c : Int} (h : ¬ (c = 32 ∨ c = 9)) : blankI c = false := decide_eq_false h
theorem fieldI_t {c : Int} (h : c = 9 ∨ 32 ≤ c ∧ c ≠ 127) : fieldI c = true := decide_eq_true h
theorem fieldI_f {c : Int} (h : ¬ (c = 9 ∨ 32 ≤ c ∧ c ≠ 127)) : fieldI c = false := decide_eq_false h
theorem valI_d {c : Int} (h : 48 ≤ c ∧ c ≤ 57) : valI c = c - 48 := by unfold valI; rw [if_pos h]
theorem valI_s {c : Int} (h : 97 ≤ c ∧ c ≤ 102) : valI c = c - 87 := by unfold valI; rw [if_neg (by omega), if_pos h]
theorem valI_b {c : Int} (h : 65 ≤ c ∧ c ≤ 70) : valI c = c - 55 := by unfold valI; rw [if_neg (by omega), if_neg (by omega), if_pos h]
theorem valI_n {c : Int} (h : hexI c = false) : valI c = 16 := by
  have := of_decide_eq_false h
  unfold valI; rw [if_neg (by omega), if_neg (by omega), if_neg (by omega)]
theorem bits_zero : (bits BinOp.and IntKind.u64 0 1 == 1) = false := by decide
theorem tokI_of_dig {c : Int} (h : digI c = true) : tokI c = true := by simp [tokI, h]
theorem tokI_of_lett {c : Int} (h : lettI c = true) : tokI c = true := by simp [tokI, h]
theorem tokI_of_sign {c : Int} (k : Nat) (hk : k < 15) (h : ((signs.getD k 0).toNat : Int) = c) : tokI c = true := by
  unfold tokI
  simp only [Bool.or_eq_true, List.any_eq_true]
  refine .inr ⟨signs.getD k 0, ?_, beq_iff_eq.2 h⟩
  have e : signs.length = 15 := rfl
  rw [List.getD_eq_getElem?_getD, List.getElem?_eq_getElem (by omega)]
  exact List.getElem_mem _
theorem tokI_none {c : Int} (h1 : digI c = false) (h2 : lettI c = false) (h3 : ∀ k, k < 15 → ((signs.getD k 0).toNat : Int) ≠ c) : tokI c = false := by
  unfold tokI
  rw [h1, h2]
  simp only [Bool.or_self, Bool.false_or]
  rw [List.any_eq_false]
  intro x hx
  obtain ⟨k, hk, rfl⟩ := List.mem_iff_getElem.1 hx
  have e : signs.length = 15 := rfl
  have := h3 k (by omega)
  rw [List.getD_eq_getElem?_getD, List.getElem?_eq_getElem hk] at this
  simpa using this

end Oc
end Go.Proofs.YtfpodnaaappocaaGreatDoor

/-
  Contracts of octet's small functions on bytes, and of the document's.
-/
set_option linter.unusedVariables false
set_option linter.unusedSimpArgs false
namespace Go.Proofs.YtfpodnaaappocaaGreatDoor
open Go.RowKit
namespace Oc

theorem ret_int {k : IntKind} {a b : Int} (h : a = b) : Ending.returned (.int k a) = .returned (.int k b) := by rw [h]
theorem ret_bool {a b : Bool} (h : a = b) : Ending.returned (.bool a) = .returned (.bool b) := by rw [h]

set_option maxHeartbeats 400000 in
theorem lowerByte_any (c : Int) (h0 : 0 ≤ c) (h1 : c ≤ 255) (w : World) :
    Calls Tryz.prog 59 #[.int .u8 c] w fun e w' => e = .returned (.int .u8 (lowI c)) ∧ w' = w := by
  by_cases a : 65 ≤ c
  · by_cases b : c ≤ 90
    · go_enter Tryz.func59, Tryz.ntmps59
      go_wp2
      go_ret
      exact ⟨ret_int (by rw [lowI_up a b]; omega), rfl⟩
    · go_enter Tryz.func59, Tryz.ntmps59
      go_wp2
      go_ret
      exact ⟨ret_int (by rw [lowI_not (by omega)]), rfl⟩
  · go_enter Tryz.func59, Tryz.ntmps59
    go_wp2
    go_ret
    exact ⟨ret_int (by rw [lowI_not (by omega)]), rfl⟩

set_option maxHeartbeats 400000 in
theorem IsDigit_any (c : Int) (h0 : 0 ≤ c) (h1 : c ≤ 255) (w : World) :
    Calls Tryz.prog 51 #[.int .u8 c] w fun e w' => e = .returned (.bool (digI c)) ∧ w' = w := by
  rcases (show c < 48 ∨ (48 ≤ c ∧ c ≤ 57) ∨ 57 < c by omega) with h | ⟨h, h'⟩ | h
  · go_enter Tryz.func51, Tryz.ntmps51
    go_wp2
    go_ret
    exact ⟨ret_bool (digI_f (by omega)).symm, rfl⟩
  · go_enter Tryz.func51, Tryz.ntmps51
    go_wp2
    go_ret
    exact ⟨ret_bool (digI_t (by omega)).symm, rfl⟩
  · have g57 : decide (c ≤ 57) = false := by simp; omega
    go_enter Tryz.func51, Tryz.ntmps51
    go_wp2
    go_ret
    exact ⟨ret_bool (digI_f (by omega)).symm, rfl⟩

set_option maxHeartbeats 400000 in
theorem IsLetter_any (c : Int) (h0 : 0 ≤ c) (h1 : c ≤ 255) (w : World) :
    Calls Tryz.prog 50 #[.int .u8 c] w fun e w' => e = .returned (.bool (lettI c)) ∧ w' = w := by
  rcases (show c < 65 ∨ (65 ≤ c ∧ c ≤ 90) ∨ (90 < c ∧ c < 97) ∨ (97 ≤ c ∧ c ≤ 122) ∨ 122 < c by omega) with h | ⟨h, h'⟩ | ⟨h, h'⟩ | ⟨h, h'⟩ | h
  · go_enter Tryz.func50, Tryz.ntmps50
    go_wp2
    go_ret
    exact ⟨ret_bool (lettI_f (by omega)).symm, rfl⟩
  · go_enter Tryz.func50, Tryz.ntmps50
    go_wp2
    go_ret
    exact ⟨ret_bool (lettI_t (by omega)).symm, rfl⟩
  · have g90 : decide (c ≤ 90) = false := by simp; omega
    go_enter Tryz.func50, Tryz.ntmps50
    go_wp2
    go_ret
    exact ⟨ret_bool (lettI_f (by omega)).symm, rfl⟩
  · have g90 : decide (c ≤ 90) = false := by simp; omega
    go_enter Tryz.func50, Tryz.ntmps50
    go_wp2
    go_ret
    exact ⟨ret_bool (lettI_t (by omega)).symm, rfl⟩
  · have g90 : decide (c ≤ 90) = false := by simp; omega
    have g122 : decide (c ≤ 122) = false := by simp; omega
    go_enter Tryz.func50, Tryz.ntmps50
    go_wp2
    go_ret
    exact ⟨ret_bool (lettI_f (by omega)).symm, rfl⟩

set_option maxHeartbeats 400000 in
theorem IsHex_any (c : Int) (h0 : 0 ≤ c) (h1 : c ≤ 255) (w : World) :
    Calls Tryz.prog 48 #[.int .u8 c] w fun e w' => e = .returned (.bool (hexI c)) ∧ w' = w := by
  rcases (show c < 48 ∨ (48 ≤ c ∧ c ≤ 57) ∨ (57 < c ∧ c < 65) ∨ (65 ≤ c ∧ c ≤ 70) ∨ (70 < c ∧ c < 97) ∨ (97 ≤ c ∧ c ≤ 102) ∨ 102 < c by omega) with h | ⟨h, h'⟩ | ⟨h, h'⟩ | ⟨h, h'⟩ | ⟨h, h'⟩ | ⟨h, h'⟩ | h
  · go_enter Tryz.func48, Tryz.ntmps48
    go_wp2
    go_ret
    exact ⟨ret_bool (hexI_f (by omega)).symm, rfl⟩
  · go_enter Tryz.func48, Tryz.ntmps48
    go_wp2
    go_ret
    exact ⟨ret_bool (hexI_t (by omega)).symm, rfl⟩
  · have g57 : decide (c ≤ 57) = false := by simp; omega
    go_enter Tryz.func48, Tryz.ntmps48
    go_wp2
    go_ret
    exact ⟨ret_bool (hexI_f (by omega)).symm, rfl⟩
  · have g57 : decide (c ≤ 57) = false := by simp; omega
    go_enter Tryz.func48, Tryz.ntmps48
    go_wp2
    go_ret
    exact ⟨ret_bool (hexI_t (by omega)).symm, rfl⟩
  · have g57 : decide (c ≤ 57) = false := by simp; omega
    have g70 : decide (c ≤ 70) = false := by simp; omega
    go_enter Tryz.func48, Tryz.ntmps48
    go_wp2
    go_ret
    exact ⟨ret_bool (hexI_f (by omega)).symm, rfl⟩
  · have g57 : decide (c ≤ 57) = false := by simp; omega
    have g70 : decide (c ≤ 70) = false := by simp; omega
    go_enter Tryz.func48, Tryz.ntmps48
    go_wp2
    go_ret
    exact ⟨ret_bool (hexI_t (by omega)).symm, rfl⟩
  · have g57 : decide (c ≤ 57) = false := by simp; omega
    have g70 : decide (c ≤ 70) = false := by simp; omega
    have g102 : decide (c ≤ 102) = false := by simp; omega
    go_enter Tryz.func48, Tryz.ntmps48
    go_wp2
    go_ret
    exact ⟨ret_bool (hexI_f (by omega)).symm, rfl⟩

set_option maxHeartbeats 400000 in
theorem digitValue_any (c : Int) (h0 : 0 ≤ c) (h1 : c ≤ 255) (w : World) :
    Calls Tryz.prog 75 #[.int .u8 c] w fun e w' => e = .returned (.int .i64 (valI c)) ∧ w' = w := by
  rcases (show c < 48 ∨ (48 ≤ c ∧ c ≤ 57) ∨ (57 < c ∧ c < 65) ∨ (65 ≤ c ∧ c ≤ 70) ∨ (70 < c ∧ c < 97) ∨ (97 ≤ c ∧ c ≤ 102) ∨ 102 < c by omega) with h | ⟨h, h'⟩ | ⟨h, h'⟩ | ⟨h, h'⟩ | ⟨h, h'⟩ | ⟨h, h'⟩ | h
  · go_enter Tryz.func75, Tryz.ntmps75
    go_wp2
    go_ret
    exact ⟨ret_int (valI_n (hexI_f (by omega))).symm, rfl⟩
  · go_enter Tryz.func75, Tryz.ntmps75
    go_wp2
    go_ret
    exact ⟨ret_int (by rw [valI_d (by omega)]), rfl⟩
  · have g57 : decide (c ≤ 57) = false := by simp; omega
    go_enter Tryz.func75, Tryz.ntmps75
    go_wp2
    go_ret
    exact ⟨ret_int (valI_n (hexI_f (by omega))).symm, rfl⟩
  · have g57 : decide (c ≤ 57) = false := by simp; omega
    go_enter Tryz.func75, Tryz.ntmps75
    go_wp2
    go_ret
    exact ⟨ret_int (by rw [valI_b (by omega)]; omega), rfl⟩
  · have g57 : decide (c ≤ 57) = false := by simp; omega
    have g70 : decide (c ≤ 70) = false := by simp; omega
    go_enter Tryz.func75, Tryz.ntmps75
    go_wp2
    go_ret
    exact ⟨ret_int (valI_n (hexI_f (by omega))).symm, rfl⟩
  · have g57 : decide (c ≤ 57) = false := by simp; omega
    go_enter Tryz.func75, Tryz.ntmps75
    go_wp2
    go_ret
    exact ⟨ret_int (by rw [valI_s (by omega)]; omega), rfl⟩
  · have g57 : decide (c ≤ 57) = false := by simp; omega
    have g70 : decide (c ≤ 70) = false := by simp; omega
    have g102 : decide (c ≤ 102) = false := by simp; omega
    go_enter Tryz.func75, Tryz.ntmps75
    go_wp2
    go_ret
    exact ⟨ret_int (valI_n (hexI_f (by omega))).symm, rfl⟩

set_option maxHeartbeats 400000 in
theorem value_any (c : Int) (h0 : 0 ≤ c) (h1 : c ≤ 255) (hh : hexI c = true) (w : World) :
    Calls Tryz.prog 74 #[.int .u8 c] w fun e w' => e = .returned (.int .i64 (valI c)) ∧ w' = w := by
  have hx := of_decide_eq_true hh
  clear hh
  rcases hx with ⟨h, h'⟩ | ⟨h, h'⟩ | ⟨h, h'⟩
  · go_enter Tryz.func74, Tryz.ntmps74
    go_wp2
    go_ret
    exact ⟨ret_int (by rw [valI_d (by omega)]), rfl⟩
  · go_enter Tryz.func74, Tryz.ntmps74
    go_wp2
    go_ret
    exact ⟨ret_int (by rw [valI_b (by omega)]; omega), rfl⟩
  · go_enter Tryz.func74, Tryz.ntmps74
    go_wp2
    go_ret
    exact ⟨ret_int (by rw [valI_s (by omega)]; omega), rfl⟩

end Oc
end Go.Proofs.YtfpodnaaappocaaGreatDoor
