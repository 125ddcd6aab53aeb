/- Several texts as one. -/
import Derived.WalkKit
import Derived.Test.YthfckgdaencagaaGreatDoorRows
import Derived.WalkSpells
import Derived.WalkLawsBesides
/-
  Plain mathematics for package octet: bytes as integers and as UInt8, lists of bytes. Nothing of the program.
-/
set_option linter.unusedVariables false
set_option linter.unusedSimpArgs false
namespace Go.Proofs.YthfckgdaencagaaGreatDoor
namespace Oc

theorem at_lt (s : ByteArray) (k : Nat) (h : k < s.size) : s.data.toList.getD k 0 = s[k] := by
  rw [List.getD_eq_getElem?_getD, List.getElem?_eq_getElem (by simpa using h)]
  rfl

/-- Small letters, of a byte. -/
def lowI (c : Int) : Int := if 65 ≤ c ∧ c ≤ 90 then c + 32 else c
def digI (c : Int) : Bool := decide (48 ≤ c ∧ c ≤ 57)
def lettI (c : Int) : Bool := decide (65 ≤ c ∧ c ≤ 90 ∨ 97 ≤ c ∧ c ≤ 122)
def hexI (c : Int) : Bool := decide (48 ≤ c ∧ c ≤ 57 ∨ 65 ≤ c ∧ c ≤ 70 ∨ 97 ≤ c ∧ c ≤ 102)
def blankI (c : Int) : Bool := decide (c = 32 ∨ c = 9)
def fieldI (c : Int) : Bool := decide (c = 9 ∨ 32 ≤ c ∧ c ≠ 127)
/-- What a hexadecimal digit says; 16 of another byte. -/
def valI (c : Int) : Int := if 48 ≤ c ∧ c ≤ 57 then c - 48 else if 97 ≤ c ∧ c ≤ 102 then c - 87 else if 65 ≤ c ∧ c ≤ 70 then c - 55 else 16
def signs : List UInt8 := [33, 35, 36, 37, 38, 39, 42, 43, 45, 46, 94, 95, 96, 124, 126]
def tokI (c : Int) : Bool := digI c || lettI c || signs.any fun x => (x.toNat : Int) == c

theorem signs_at (k : Nat) (h : k < (⟨#[33, 35, 36, 37, 38, 39, 42, 43, 45, 46, 94, 95, 96, 124, 126]⟩ : ByteArray).size) : signs.getD k 0 = (⟨#[33, 35, 36, 37, 38, 39, 42, 43, 45, 46, 94, 95, 96, 124, 126]⟩ : ByteArray)[k] := at_lt _ k h

theorem lowI_up {c : Int} (a : 65 ≤ c) (b : c ≤ 90) : lowI c = c + 32 := by unfold lowI; rw [if_pos ⟨a, b⟩]
theorem lowI_not {c : Int} (a : ¬ (65 ≤ c ∧ c ≤ 90)) : lowI c = c := by unfold lowI; rw [if_neg a]
theorem lowI_bd {c : Int} (h0 : 0 ≤ c) (h1 : c ≤ 255) : 0 ≤ lowI c ∧ lowI c ≤ 255 := by unfold lowI; split <;> omega
theorem valI_bd {c : Int} (h0 : 0 ≤ c) : 0 ≤ valI c ∧ valI c ≤ 16 := by unfold valI; (repeat' split) <;> omega

/-- The table's bits, by its words. -/
theorem tok_word0 : ∀ c : Nat, c < 64 → tokI (c : Int) = (bits BinOp.and IntKind.u64 (288068722172624896 / 2 ^ (c : Int).toNat) 1 == 1) := by decide +kernel
theorem tok_word1 : ∀ c : Nat, c < 64 → tokI ((c + 64 : Nat) : Int) = (bits BinOp.and IntKind.u64 (6341068274398134270 / 2 ^ (c : Int).toNat) 1 == 1) := by decide +kernel
theorem tok_beyond {c : Int} (h : 128 ≤ c) : tokI c = false := by
  unfold tokI digI lettI
  simp only [Bool.or_eq_false_iff, decide_eq_false_iff_not]
  refine ⟨⟨by omega, by omega⟩, ?_⟩
  rw [List.any_eq_false]
  intro x hx
  have hall : ∀ y ∈ signs, y.toNat < 128 := by decide
  have := hall x hx
  simp
  omega

theorem digI_t {c : Int} (h : 48 ≤ c ∧ c ≤ 57) : digI c = true := decide_eq_true h
theorem digI_f {c : Int} (h : ¬ (48 ≤ c ∧ c ≤ 57)) : digI c = false := decide_eq_false h
theorem lettI_t {c : Int} (h : 65 ≤ c ∧ c ≤ 90 ∨ 97 ≤ c ∧ c ≤ 122) : lettI c = true := decide_eq_true h
theorem lettI_f {c : Int} (h : ¬ (65 ≤ c ∧ c ≤ 90 ∨ 97 ≤ c ∧ c ≤ 122)) : lettI c = false := decide_eq_false h
theorem hexI_t {c : Int} (h : 48 ≤ c ∧ c ≤ 57 ∨ 65 ≤ c ∧ c ≤ 70 ∨ 97 ≤ c ∧ c ≤ 102) : hexI c = true := decide_eq_true h
theorem hexI_f {c : Int} (h : ¬ (48 ≤ c ∧ c ≤ 57 ∨ 65 ≤ c ∧ c ≤ 70 ∨ 97 ≤ c ∧ c ≤ 102)) : hexI c = false := decide_eq_false h
theorem blankI_t {c : Int} (h : c = 32 ∨ c = 9) : blankI c = true := decide_eq_true h
theorem blankI_f {c : Int} (h : ¬ (c = 32 ∨ c = 9)) : blankI c = false := decide_eq_false h
theorem fieldI_t {c : Int} (h : c = 9 ∨ 32 ≤ c ∧ c ≠ 127) : fieldI c = true := decide_eq_true h
theorem fieldI_f {c : Int} (h : ¬ (c = 9 ∨ 32 ≤ c ∧ c ≠ 127)) : fieldI c = false := decide_eq_false h
theorem valI_d {c : Int} (h : 48 ≤ c ∧ c ≤ 57) : valI c = c - 48 := by unfold valI; rw [if_pos h]
theorem valI_s {c : Int} (h : 97 ≤ c ∧ c ≤ 102) : valI c = c - 87 := by unfold valI; rw [if_neg (by omega), if_pos h]
theorem valI_b {c : Int} (h : 65 ≤ c ∧ c ≤ 70) : valI c = c - 55 := by unfold valI; rw [if_neg (by omega), if_neg (by omega), if_pos h]
theorem valI_n {c : Int} (h : hexI c = false) : valI c = 16 := by
  have := of_decide_eq_false h
  unfold valI; rw [if_neg (by omega), if_neg (by omega), if_neg (by omega)]
theorem bits_zero : (bits BinOp.and IntKind.u64 0 1 == 1) = false := by decide
theorem tokI_of_dig {c : Int} (h : digI c = true) : tokI c = true := by simp [tokI, h]
theorem tokI_of_lett {c : Int} (h : lettI c = true) : tokI c = true := by simp [tokI, h]
theorem tokI_of_sign {c : Int} (k : Nat) (hk : k < 15) (h : ((signs.getD k 0).toNat : Int) = c) : tokI c = true := by
  unfold tokI
  simp only [Bool.or_eq_true, List.any_eq_true]
  refine .inr ⟨signs.getD k 0, ?_, beq_iff_eq.2 h⟩
  have e : signs.length = 15 := rfl
  rw [List.getD_eq_getElem?_getD, List.getElem?_eq_getElem (by omega)]
  exact List.getElem_mem _
theorem tokI_none {c : Int} (h1 : digI c = false) (h2 : lettI c = false) (h3 : ∀ k, k < 15 → ((signs.getD k 0).toNat : Int) ≠ c) : tokI c = false := by
  unfold tokI
  rw [h1, h2]
  simp only [Bool.or_self, Bool.false_or]
  rw [List.any_eq_false]
  intro x hx
  obtain ⟨k, hk, rfl⟩ := List.mem_iff_getElem.1 hx
  have e : signs.length = 15 := rfl
  have := h3 k (by omega)
  rw [List.getD_eq_getElem?_getD, List.getElem?_eq_getElem hk] at this
  simpa using this

end Oc
end Go.Proofs.YthfckgdaencagaaGreatDoor

/-
  Contracts of octet's small functions on bytes, and of the document's.
-/
set_option linter.unusedVariables false
set_option linter.unusedSimpArgs false
namespace Go.Proofs.YthfckgdaencagaaGreatDoor
open Go.RowKit
namespace Oc

theorem ret_int {k : IntKind} {a b : Int} (h : a = b) : Ending.returned (.int k a) = .returned (.int k b) := by rw [h]
theorem ret_bool {a b : Bool} (h : a = b) : Ending.returned (.bool a) = .returned (.bool b) := by rw [h]

/-- The table of the signs of tokens lies where it was laid. -/
structure Tab (w : World) : Prop where
  lt : 1 < w.heap.size
  c0 : w.cell? ⟨1, 0, none⟩ = some (.int .u64 288068722172624896)
  c1 : w.cell? ⟨1, 1, none⟩ = some (.int .u64 6341068274398134270)
  c2 : w.cell? ⟨1, 2, none⟩ = some (.int .u64 0)
  c3 : w.cell? ⟨1, 3, none⟩ = some (.int .u64 0)

theorem tab_mk {w : World} (c0 : w.cell? ⟨1, 0, none⟩ = some (.int .u64 288068722172624896)) (c1 : w.cell? ⟨1, 1, none⟩ = some (.int .u64 6341068274398134270))
    (c2 : w.cell? ⟨1, 2, none⟩ = some (.int .u64 0)) (c3 : w.cell? ⟨1, 3, none⟩ = some (.int .u64 0)) : Tab w := by
  refine ⟨?_, c0, c1, c2, c3⟩
  rcases Nat.lt_or_ge 1 w.heap.size with h | h
  · exact h
  · simp [World.cell?, Array.getElem?_eq_none h] at c0

theorem Tab.below {B : Nat} {w w' : World} (h : Tab w) (b : Below B w w') (hB : w.heap.size ≤ B) : Tab w' := by
  have hl := h.lt
  have hs := b.size
  exact ⟨by omega, by rw [b.cell (show 1 < B by omega)]; exact h.c0, by rw [b.cell (show 1 < B by omega)]; exact h.c1, by rw [b.cell (show 1 < B by omega)]; exact h.c2, by rw [b.cell (show 1 < B by omega)]; exact h.c3⟩

set_option maxHeartbeats 400000 in
theorem lowerByte_any (c : Int) (h0 : 0 ≤ c) (h1 : c ≤ 255) (w : World) :
    Calls Tryz.prog 63 #[.int .u8 c] w fun e w' => e = .returned (.int .u8 (lowI c)) ∧ w' = w := by
  by_cases a : 65 ≤ c
  · by_cases b : c ≤ 90
    · go_enter Tryz.func63, Tryz.ntmps63
      go_wp2
      go_ret
      exact ⟨ret_int (by rw [lowI_up a b]; omega), rfl⟩
    · go_enter Tryz.func63, Tryz.ntmps63
      go_wp2
      go_ret
      exact ⟨ret_int (by rw [lowI_not (by omega)]), rfl⟩
  · go_enter Tryz.func63, Tryz.ntmps63
    go_wp2
    go_ret
    exact ⟨ret_int (by rw [lowI_not (by omega)]), rfl⟩

set_option maxHeartbeats 400000 in
theorem isFieldByte_any (c : Int) (h0 : 0 ≤ c) (h1 : c ≤ 255) (w : World) :
    Calls Tryz.prog 77 #[.int .u8 c] w fun e w' => e = .returned (.bool (fieldI c)) ∧ w' = w := by
  by_cases a : c = 9
  · subst a
    go_enter Tryz.func77, Tryz.ntmps77
    go_wp2
    go_ret
    exact ⟨ret_bool (by decide), rfl⟩
  · have a' : (c == 9) = false := by simp [a]
    by_cases b : 32 ≤ c
    · by_cases d : c = 127
      · subst d
        go_enter Tryz.func77, Tryz.ntmps77
        go_wp2
        go_ret
        exact ⟨ret_bool (by decide), rfl⟩
      · have d' : (c != 127) = true := by simp [d]
        go_enter Tryz.func77, Tryz.ntmps77
        go_wp2
        go_ret
        exact ⟨ret_bool (by unfold fieldI; simp; omega), rfl⟩
    · go_enter Tryz.func77, Tryz.ntmps77
      go_wp2
      go_ret
      exact ⟨ret_bool (by unfold fieldI; simp; omega), rfl⟩

set_option maxHeartbeats 400000 in
theorem isTokenSign_any (c : Int) (h0 : 0 ≤ c) (h1 : c ≤ 255) (w : World) (t : Tab w) :
    Calls Tryz.prog 85 #[.int .u8 c] w fun e w' => e = .returned (.bool (tokI c)) ∧ w' = w := by
  obtain ⟨tl, t0, t1, t2, t3⟩ := t
  by_cases a : c < 64
  · have q : c / 64 = 0 := by omega
    have r : c % 64 = c := by omega
    go_enter Tryz.func85, Tryz.ntmps85
    go_wp2
    go_ret
    obtain ⟨n, rfl⟩ := Int.eq_ofNat_of_zero_le h0
    exact ⟨ret_bool (tok_word0 n (by omega)).symm, rfl⟩
  · by_cases b : c < 128
    · have q : c / 64 = 1 := by omega
      have r : c % 64 = c - 64 := by omega
      go_enter Tryz.func85, Tryz.ntmps85
      go_wp2
      go_ret
      obtain ⟨n, e⟩ := Int.eq_ofNat_of_zero_le (show 0 ≤ c - 64 by omega)
      obtain rfl : c = ((n + 64 : Nat) : Int) := by omega
      rw [e]
      exact ⟨ret_bool (tok_word1 n (by omega)).symm, rfl⟩
    · rw [tok_beyond (by omega)]
      by_cases d : c < 192
      · have q : c / 64 = 2 := by omega
        go_enter Tryz.func85, Tryz.ntmps85
        go_wp2
        go_ret
        exact ⟨ret_bool bits_zero, rfl⟩
      · have q : c / 64 = 3 := by omega
        go_enter Tryz.func85, Tryz.ntmps85
        go_wp2
        go_ret
        exact ⟨ret_bool bits_zero, rfl⟩

set_option maxHeartbeats 400000 in
theorem IsDigit_any (c : Int) (h0 : 0 ≤ c) (h1 : c ≤ 255) (w : World) :
    Calls Tryz.prog 54 #[.int .u8 c] w fun e w' => e = .returned (.bool (digI c)) ∧ w' = w := by
  rcases (show c < 48 ∨ (48 ≤ c ∧ c ≤ 57) ∨ 57 < c by omega) with h | ⟨h, h'⟩ | h
  · go_enter Tryz.func54, Tryz.ntmps54
    go_wp2
    go_ret
    exact ⟨ret_bool (digI_f (by omega)).symm, rfl⟩
  · go_enter Tryz.func54, Tryz.ntmps54
    go_wp2
    go_ret
    exact ⟨ret_bool (digI_t (by omega)).symm, rfl⟩
  · have g57 : decide (c ≤ 57) = false := by simp; omega
    go_enter Tryz.func54, Tryz.ntmps54
    go_wp2
    go_ret
    exact ⟨ret_bool (digI_f (by omega)).symm, rfl⟩

set_option maxHeartbeats 400000 in
theorem IsLetter_any (c : Int) (h0 : 0 ≤ c) (h1 : c ≤ 255) (w : World) :
    Calls Tryz.prog 55 #[.int .u8 c] w fun e w' => e = .returned (.bool (lettI c)) ∧ w' = w := by
  rcases (show c < 65 ∨ (65 ≤ c ∧ c ≤ 90) ∨ (90 < c ∧ c < 97) ∨ (97 ≤ c ∧ c ≤ 122) ∨ 122 < c by omega) with h | ⟨h, h'⟩ | ⟨h, h'⟩ | ⟨h, h'⟩ | h
  · go_enter Tryz.func55, Tryz.ntmps55
    go_wp2
    go_ret
    exact ⟨ret_bool (lettI_f (by omega)).symm, rfl⟩
  · go_enter Tryz.func55, Tryz.ntmps55
    go_wp2
    go_ret
    exact ⟨ret_bool (lettI_t (by omega)).symm, rfl⟩
  · have g90 : decide (c ≤ 90) = false := by simp; omega
    go_enter Tryz.func55, Tryz.ntmps55
    go_wp2
    go_ret
    exact ⟨ret_bool (lettI_f (by omega)).symm, rfl⟩
  · have g90 : decide (c ≤ 90) = false := by simp; omega
    go_enter Tryz.func55, Tryz.ntmps55
    go_wp2
    go_ret
    exact ⟨ret_bool (lettI_t (by omega)).symm, rfl⟩
  · have g90 : decide (c ≤ 90) = false := by simp; omega
    have g122 : decide (c ≤ 122) = false := by simp; omega
    go_enter Tryz.func55, Tryz.ntmps55
    go_wp2
    go_ret
    exact ⟨ret_bool (lettI_f (by omega)).symm, rfl⟩

set_option maxHeartbeats 400000 in
theorem digitValue_any (c : Int) (h0 : 0 ≤ c) (h1 : c ≤ 255) (w : World) :
    Calls Tryz.prog 79 #[.int .u8 c] w fun e w' => e = .returned (.int .i64 (valI c)) ∧ w' = w := by
  rcases (show c < 48 ∨ (48 ≤ c ∧ c ≤ 57) ∨ (57 < c ∧ c < 65) ∨ (65 ≤ c ∧ c ≤ 70) ∨ (70 < c ∧ c < 97) ∨ (97 ≤ c ∧ c ≤ 102) ∨ 102 < c by omega) with h | ⟨h, h'⟩ | ⟨h, h'⟩ | ⟨h, h'⟩ | ⟨h, h'⟩ | ⟨h, h'⟩ | h
  · go_enter Tryz.func79, Tryz.ntmps79
    go_wp2
    go_ret
    exact ⟨ret_int (valI_n (hexI_f (by omega))).symm, rfl⟩
  · go_enter Tryz.func79, Tryz.ntmps79
    go_wp2
    go_ret
    exact ⟨ret_int (by rw [valI_d (by omega)]), rfl⟩
  · have g57 : decide (c ≤ 57) = false := by simp; omega
    go_enter Tryz.func79, Tryz.ntmps79
    go_wp2
    go_ret
    exact ⟨ret_int (valI_n (hexI_f (by omega))).symm, rfl⟩
  · have g57 : decide (c ≤ 57) = false := by simp; omega
    go_enter Tryz.func79, Tryz.ntmps79
    go_wp2
    go_ret
    exact ⟨ret_int (by rw [valI_b (by omega)]; omega), rfl⟩
  · have g57 : decide (c ≤ 57) = false := by simp; omega
    have g70 : decide (c ≤ 70) = false := by simp; omega
    go_enter Tryz.func79, Tryz.ntmps79
    go_wp2
    go_ret
    exact ⟨ret_int (valI_n (hexI_f (by omega))).symm, rfl⟩
  · have g57 : decide (c ≤ 57) = false := by simp; omega
    go_enter Tryz.func79, Tryz.ntmps79
    go_wp2
    go_ret
    exact ⟨ret_int (by rw [valI_s (by omega)]; omega), rfl⟩
  · have g57 : decide (c ≤ 57) = false := by simp; omega
    have g70 : decide (c ≤ 70) = false := by simp; omega
    have g102 : decide (c ≤ 102) = false := by simp; omega
    go_enter Tryz.func79, Tryz.ntmps79
    go_wp2
    go_ret
    exact ⟨ret_int (valI_n (hexI_f (by omega))).symm, rfl⟩

set_option maxHeartbeats 400000 in
theorem IsBlank_any (c : Int) (h0 : 0 ≤ c) (h1 : c ≤ 255) (w : World) :
    Calls Tryz.prog 43 #[.int .u8 c] w fun e w' => e = .returned (.bool (blankI c)) ∧ w' = w := by
  rcases (show c = 32 ∨ c = 9 ∨ (c ≠ 32 ∧ c ≠ 9) by omega) with rfl | rfl | ⟨h, h'⟩
  · go_enter Tryz.func43, Tryz.ntmps43
    go_wp2
    go_ret
    exact ⟨ret_bool (by decide), rfl⟩
  · go_enter Tryz.func43, Tryz.ntmps43
    go_wp2
    go_ret
    exact ⟨ret_bool (by decide), rfl⟩
  · have g1 : (c == 32) = false := by simp; omega
    have g2 : (c == 9) = false := by simp; omega
    go_enter Tryz.func43, Tryz.ntmps43
    go_wp2
    go_ret
    exact ⟨ret_bool (blankI_f (by omega)).symm, rfl⟩

set_option maxHeartbeats 400000 in
theorem IsByte_any (c : Int) (h0 : 0 ≤ c) (h1 : c ≤ 255) (w : World) :
    Calls Tryz.prog 53 #[.int .u8 c] w fun e w' => e = .returned (.bool (fieldI c)) ∧ w' = w := by
  rcases (show c = 9 ∨ c = 127 ∨ (c ≠ 9 ∧ c < 32) ∨ (32 ≤ c ∧ c ≠ 127) by omega) with rfl | rfl | ⟨h, h'⟩ | ⟨h, h'⟩
  · go_enter Tryz.func53, Tryz.ntmps53
    go_wp2
    go_ret
    exact ⟨ret_bool (by decide), rfl⟩
  · go_enter Tryz.func53, Tryz.ntmps53
    go_wp2
    go_ret
    exact ⟨ret_bool (by decide), rfl⟩
  · have g1 : (c == 9) = false := by simp; omega
    go_enter Tryz.func53, Tryz.ntmps53
    go_wp2
    go_ret
    exact ⟨ret_bool (fieldI_f (by omega)).symm, rfl⟩
  · have g1 : (c == 9) = false := by simp; omega
    have g2 : (c != 127) = true := by simp; omega
    go_enter Tryz.func53, Tryz.ntmps53
    go_wp2
    go_ret
    exact ⟨ret_bool (fieldI_t (by omega)).symm, rfl⟩

set_option maxHeartbeats 400000 in
theorem IsSign_any (c : Int) (h0 : 0 ≤ c) (h1 : c ≤ 255) (w : World) :
    Calls Tryz.prog 31 #[.int .u8 c] w fun e w' => e = .returned (.bool (tokI c)) ∧ w' = w := by
  cases hd : digI c with
  | true =>
    go_enter Tryz.func31, Tryz.ntmps31
    go_wp2_with (go_at_call 54; refine (IsDigit_any _ h0 h1 _).mono ?_; rintro e w' ⟨rfl, rfl⟩)
    go_ret
    exact ⟨ret_bool (tokI_of_dig hd).symm, rfl⟩
  | false =>
    cases hl : lettI c with
    | true =>
      go_enter Tryz.func31, Tryz.ntmps31
      go_wp2_with (first | (go_at_call 54; refine (IsDigit_any _ h0 h1 _).mono ?_; rintro e w' ⟨rfl, rfl⟩) | (go_at_call 55; refine (IsLetter_any _ h0 h1 _).mono ?_; rintro e w' ⟨rfl, rfl⟩))
      go_ret
      exact ⟨ret_bool (tokI_of_lett hl).symm, rfl⟩
    | false =>
      go_enter Tryz.func31, Tryz.ntmps31
      go_wp2_with (first | (go_at_call 54; refine (IsDigit_any _ h0 h1 _).mono ?_; rintro e w' ⟨rfl, rfl⟩) | (go_at_call 55; refine (IsLetter_any _ h0 h1 _).mono ?_; rintro e w' ⟨rfl, rfl⟩))
      go_loop [4] (fun i => ∃ k : Nat, k ≤ 15 ∧ i = .int .i64 k ∧ ∀ j, j < k → ((signs.getD j 0).toNat : Int) ≠ c) (fun i => 15 - (intOf i).toNat)
      case atStart => exact ⟨0, by omega, rfl, fun j hj => by omega⟩
      case round =>
        obtain ⟨k, hk, rfl, hno⟩ := hrel
        by_cases hlt : k < 15
        · go_wp2
          · have hit : ((⟨#[33, 35, 36, 37, 38, 39, 42, 43, 45, 46, 94, 95, 96, 124, 126]⟩ : ByteArray)[k].toNat == c) = true := by assumption
            go_ret
            exact ⟨ret_bool (tokI_of_sign k hlt (by rw [signs_at k hlt]; exact eq_of_beq hit)).symm, rfl⟩
          · have miss : ((⟨#[33, 35, 36, 37, 38, 39, 42, 43, 45, 46, 94, 95, 96, 124, 126]⟩ : ByteArray)[k].toNat == c) = false := by assumption
            go_round
            case rel =>
              refine ⟨k + 1, by omega, by go_num, fun j hj => ?_⟩
              by_cases hjk : j = k
              · subst hjk
                rw [signs_at j hlt]
                exact beq_eq_false_iff_ne.1 miss
              · exact hno j (by omega)
            case measure => simp [intOf]; omega
        · go_wp2
          go_ret
          exact ⟨ret_bool (tokI_none hd hl (fun j hj => hno j (by omega))).symm, rfl⟩

end Oc
end Go.Proofs.YthfckgdaencagaaGreatDoor
