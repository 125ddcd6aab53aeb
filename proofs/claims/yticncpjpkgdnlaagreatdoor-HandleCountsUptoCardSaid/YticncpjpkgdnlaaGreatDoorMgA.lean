/- Several texts as one. -/
import Derived.WalkKit
import Derived.Test.YticncpjpkgdnlaaGreatDoorRows
import Derived.WalkSpells
import Derived.WalkLawsBesides
import Derived.Lib.ConvBytes
import Derived.Laws.IdiomStrings
import Derived.Deep.QuietTactic
import Derived.BigQuiet
/-
  Plain mathematics for package octet: bytes as integers and as UInt8, lists of bytes. Nothing of the program.
-/
set_option linter.unusedVariables false
set_option linter.unusedSimpArgs false
namespace Go.Proofs.YticncpjpkgdnlaaGreatDoor
namespace Oc

theorem at_lt (s : ByteArray) (k : Nat) (h : k < s.size) : s.data.toList.getD k 0 = s[k] := by
  rw [List.getD_eq_getElem?_getD, List.getElem?_eq_getElem (by simpa using h)]
  rfl

/-- Small letters, of a byte. -/
def lowI (c : Int) : Int := if 65 ≤ c ∧ c ≤ 90 then c + 32 else c
def digI (c : Int) : Bool := decide (48 ≤ c ∧ c ≤ 57)
def lettI (c : Int) : Bool := decide (65 ≤ c ∧ c ≤ 90 ∨ 97 ≤ c ∧ c ≤ 122)
def hexI (c : Int) : Bool := decide (48 ≤ c ∧ c ≤ 57 ∨ 65 ≤ c ∧ c ≤ 70 ∨ 97 ≤ c ∧ c ≤ 102)
def blankI (c : Int) : Bool := decide (c = 32 ∨ c = 9)
def fieldI (c : Int) : Bool := decide (c = 9 ∨ 32 ≤ c ∧ c ≠ 127)
/-- What a hexadecimal digit says; 16 of another byte. -/
def valI (c : Int) : Int := if 48 ≤ c ∧ c ≤ 57 then c - 48 else if 97 ≤ c ∧ c ≤ 102 then c - 87 else if 65 ≤ c ∧ c ≤ 70 then c - 55 else 16
def signs : List UInt8 := [33, 35, 36, 37, 38, 39, 42, 43, 45, 46, 94, 95, 96, 124, 126]
def tokI (c : Int) : Bool := digI c || lettI c || signs.any fun x => (x.toNat : Int) == c

theorem signs_at (k : Nat) (h : k < (⟨#[33, 35, 36, 37, 38, 39, 42, 43, 45, 46, 94, 95, 96, 124, 126]⟩ : ByteArray).size) : signs.getD k 0 = (⟨#[33, 35, 36, 37, 38, 39, 42, 43, 45, 46, 94, 95, 96, 124, 126]⟩ : ByteArray)[k] := at_lt _ k h

theorem lowI_up {c : Int} (a : 65 ≤ c) (b : c ≤ 90) : lowI c = c + 32 := by unfold lowI; rw [if_pos ⟨a, b⟩]
theorem lowI_not {c : Int} (a : ¬ (65 ≤ c ∧ c ≤ 90)) : lowI c = c := by unfold lowI; rw [if_neg a]
theorem lowI_bd {c : Int} (h0 : 0 ≤ c) (h1 : c ≤ 255) : 0 ≤ lowI c ∧ lowI c ≤ 255 := by unfold lowI; split <;> omega
theorem valI_bd {c : Int} (h0 : 0 ≤ c) : 0 ≤ valI c ∧ valI c ≤ 16 := by unfold valI; (repeat' split) <;> omega

/-- The table's bits, by its words. -/
theorem tok_word0 : ∀ c : Nat, c < 64 → tokI (c : Int) = (bits BinOp.and IntKind.u64 (288068722172624896 / 2 ^ (c : Int).toNat) 1 == 1) := by decide +kernel
theorem tok_word1 : ∀ c : Nat, c < 64 → tokI ((c + 64 : Nat) : Int) = (bits BinOp.and IntKind.u64 (6341068274398134270 / 2 ^ (c : Int).toNat) 1 == 1) := by decide +kernel
theorem tok_beyond {c : Int} (h : 128 ≤ c) : tokI c = false := by
  unfold tokI digI lettI
  simp only [Bool.or_eq_false_iff, decide_eq_false_iff_not]
  refine ⟨⟨by omega, by omega⟩, ?_⟩
  rw [List.any_eq_false]
  intro x hx
  have hall : ∀ y ∈ signs, y.toNat < 128 := by decide
  have := hall x hx
  simp
  omega

theorem digI_t {c : Int} (h : 48 ≤ c ∧ c ≤ 57) : digI c = true := decide_eq_true h
theorem digI_f {c : Int} (h : ¬ (48 ≤ c ∧ c ≤ 57)) : digI c = false := decide_eq_false h
theorem lettI_t {c : Int} (h : 65 ≤ c ∧ c ≤ 90 ∨ 97 ≤ c ∧ c ≤ 122) : lettI c = true := decide_eq_true h
theorem lettI_f {c : Int} (h : ¬ (65 ≤ c ∧ c ≤ 90 ∨ 97 ≤ c ∧ c ≤ 122)) : lettI c = false := decide_eq_false h
theorem hexI_t {c : Int} (h : 48 ≤ c ∧ c ≤ 57 ∨ 65 ≤ c ∧ c ≤ 70 ∨ 97 ≤ c ∧ c ≤ 102) : hexI c = true := decide_eq_true h
theorem hexI_f {c : Int} (h : ¬ (48 ≤ c ∧ c ≤ 57 ∨ 65 ≤ c ∧ c ≤ 70 ∨ 97 ≤ c ∧ c ≤ 102)) : hexI c = false := decide_eq_false h
theorem blankI_t {c : Int} (h : c = 32 ∨ c = 9) : blankI c = true := decide_eq_true h
theorem blankI_f {c : Int} (h : ¬ (c = 32 ∨ c = 9)) : blankI c = false := decide_eq_false h
theorem fieldI_t {c : Int} (h : c = 9 ∨ 32 ≤ c ∧ c ≠ 127) : fieldI c = true := decide_eq_true h
theorem fieldI_f {c : Int} (h : ¬ (c = 9 ∨ 32 ≤ c ∧ c ≠ 127)) : fieldI c = false := decide_eq_false h
theorem valI_d {c : Int} (h : 48 ≤ c ∧ c ≤ 57) : valI c = c - 48 := by unfold valI; rw [if_pos h]
theorem valI_s {c : Int} (h : 97 ≤ c ∧ c ≤ 102) : valI c = c - 87 := by unfold valI; rw [if_neg (by omega), if_pos h]
theorem valI_b {c : Int} (h : 65 ≤ c ∧ c ≤ 70) : valI c = c - 55 := by unfold valI; rw [if_neg (by omega), if_neg (by omega), if_pos h]
theorem valI_n {c : Int} (h : hexI c = false) : valI c = 16 := by
  have := of_decide_eq_false h
  unfold valI; rw [if_neg (by omega), if_neg (by omega), if_neg (by omega)]
theorem bits_zero : (bits BinOp.and IntKind.u64 0 1 == 1) = false := by decide
theorem tokI_of_dig {c : Int} (h : digI c = true) : tokI c = true := by simp [tokI, h]
theorem tokI_of_lett {c : Int} (h : lettI c = true) : tokI c = true := by simp [tokI, h]
theorem tokI_of_sign {c : Int} (k : Nat) (hk : k < 15) (h : ((signs.getD k 0).toNat : Int) = c) : tokI c = true := by
  unfold tokI
  simp only [Bool.or_eq_true, List.any_eq_true]
  refine .inr ⟨signs.getD k 0, ?_, beq_iff_eq.2 h⟩
  have e : signs.length = 15 := rfl
  rw [List.getD_eq_getElem?_getD, List.getElem?_eq_getElem (by omega)]
  exact List.getElem_mem _
theorem tokI_none {c : Int} (h1 : digI c = false) (h2 : lettI c = false) (h3 : ∀ k, k < 15 → ((signs.getD k 0).toNat : Int) ≠ c) : tokI c = false := by
  unfold tokI
  rw [h1, h2]
  simp only [Bool.or_self, Bool.false_or]
  rw [List.any_eq_false]
  intro x hx
  obtain ⟨k, hk, rfl⟩ := List.mem_iff_getElem.1 hx
  have e : signs.length = 15 := rfl
  have := h3 k (by omega)
  rw [List.getD_eq_getElem?_getD, List.getElem?_eq_getElem hk] at this
  simpa using this

end Oc
end Go.Proofs.YticncpjpkgdnlaaGreatDoor

/-
  Contracts of octet's small functions on bytes, and of the document's.
-/
set_option linter.unusedVariables false
set_option linter.unusedSimpArgs false
namespace Go.Proofs.YticncpjpkgdnlaaGreatDoor
open Go.RowKit
namespace Oc

theorem ret_int {k : IntKind} {a b : Int} (h : a = b) : Ending.returned (.int k a) = .returned (.int k b) := by rw [h]
theorem ret_bool {a b : Bool} (h : a = b) : Ending.returned (.bool a) = .returned (.bool b) := by rw [h]

/-- The table of the signs of tokens lies where it was laid. -/
structure Tab (w : World) : Prop where
  lt : 4 < w.heap.size
  c0 : w.cell? ⟨4, 0, none⟩ = some (.int .u64 288068722172624896)
  c1 : w.cell? ⟨4, 1, none⟩ = some (.int .u64 6341068274398134270)
  c2 : w.cell? ⟨4, 2, none⟩ = some (.int .u64 0)
  c3 : w.cell? ⟨4, 3, none⟩ = some (.int .u64 0)

theorem tab_mk {w : World} (c0 : w.cell? ⟨4, 0, none⟩ = some (.int .u64 288068722172624896)) (c1 : w.cell? ⟨4, 1, none⟩ = some (.int .u64 6341068274398134270))
    (c2 : w.cell? ⟨4, 2, none⟩ = some (.int .u64 0)) (c3 : w.cell? ⟨4, 3, none⟩ = some (.int .u64 0)) : Tab w := by
  refine ⟨?_, c0, c1, c2, c3⟩
  rcases Nat.lt_or_ge 4 w.heap.size with h | h
  · exact h
  · simp [World.cell?, Array.getElem?_eq_none h] at c0

theorem Tab.below {B : Nat} {w w' : World} (h : Tab w) (b : Below B w w') (hB : w.heap.size ≤ B) : Tab w' := by
  have hl := h.lt
  have hs := b.size
  exact ⟨by omega, by rw [b.cell (show 4 < B by omega)]; exact h.c0, by rw [b.cell (show 4 < B by omega)]; exact h.c1, by rw [b.cell (show 4 < B by omega)]; exact h.c2, by rw [b.cell (show 4 < B by omega)]; exact h.c3⟩

set_option maxHeartbeats 400000 in
theorem lowerByte_any (c : Int) (h0 : 0 ≤ c) (h1 : c ≤ 255) (w : World) :
    Calls Tryz.prog 174 #[.int .u8 c] w fun e w' => e = .returned (.int .u8 (lowI c)) ∧ w' = w := by
  by_cases a : 65 ≤ c
  · by_cases b : c ≤ 90
    · go_enter Tryz.func174, Tryz.ntmps174
      go_wp2
      go_ret
      exact ⟨ret_int (by rw [lowI_up a b]; omega), rfl⟩
    · go_enter Tryz.func174, Tryz.ntmps174
      go_wp2
      go_ret
      exact ⟨ret_int (by rw [lowI_not (by omega)]), rfl⟩
  · go_enter Tryz.func174, Tryz.ntmps174
    go_wp2
    go_ret
    exact ⟨ret_int (by rw [lowI_not (by omega)]), rfl⟩

set_option maxHeartbeats 400000 in
theorem isFieldByte_any (c : Int) (h0 : 0 ≤ c) (h1 : c ≤ 255) (w : World) :
    Calls Tryz.prog 124 #[.int .u8 c] w fun e w' => e = .returned (.bool (fieldI c)) ∧ w' = w := by
  by_cases a : c = 9
  · subst a
    go_enter Tryz.func124, Tryz.ntmps124
    go_wp2
    go_ret
    exact ⟨ret_bool (by decide), rfl⟩
  · have a' : (c == 9) = false := by simp [a]
    by_cases b : 32 ≤ c
    · by_cases d : c = 127
      · subst d
        go_enter Tryz.func124, Tryz.ntmps124
        go_wp2
        go_ret
        exact ⟨ret_bool (by decide), rfl⟩
      · have d' : (c != 127) = true := by simp [d]
        go_enter Tryz.func124, Tryz.ntmps124
        go_wp2
        go_ret
        exact ⟨ret_bool (by unfold fieldI; simp; omega), rfl⟩
    · go_enter Tryz.func124, Tryz.ntmps124
      go_wp2
      go_ret
      exact ⟨ret_bool (by unfold fieldI; simp; omega), rfl⟩

set_option maxHeartbeats 400000 in
theorem isTokenSign_any (c : Int) (h0 : 0 ≤ c) (h1 : c ≤ 255) (w : World) (t : Tab w) :
    Calls Tryz.prog 162 #[.int .u8 c] w fun e w' => e = .returned (.bool (tokI c)) ∧ w' = w := by
  obtain ⟨tl, t0, t1, t2, t3⟩ := t
  by_cases a : c < 64
  · have q : c / 64 = 0 := by omega
    have r : c % 64 = c := by omega
    go_enter Tryz.func162, Tryz.ntmps162
    go_wp2
    go_ret
    obtain ⟨n, rfl⟩ := Int.eq_ofNat_of_zero_le h0
    exact ⟨ret_bool (tok_word0 n (by omega)).symm, rfl⟩
  · by_cases b : c < 128
    · have q : c / 64 = 1 := by omega
      have r : c % 64 = c - 64 := by omega
      go_enter Tryz.func162, Tryz.ntmps162
      go_wp2
      go_ret
      obtain ⟨n, e⟩ := Int.eq_ofNat_of_zero_le (show 0 ≤ c - 64 by omega)
      obtain rfl : c = ((n + 64 : Nat) : Int) := by omega
      rw [e]
      exact ⟨ret_bool (tok_word1 n (by omega)).symm, rfl⟩
    · rw [tok_beyond (by omega)]
      by_cases d : c < 192
      · have q : c / 64 = 2 := by omega
        go_enter Tryz.func162, Tryz.ntmps162
        go_wp2
        go_ret
        exact ⟨ret_bool bits_zero, rfl⟩
      · have q : c / 64 = 3 := by omega
        go_enter Tryz.func162, Tryz.ntmps162
        go_wp2
        go_ret
        exact ⟨ret_bool bits_zero, rfl⟩

set_option maxHeartbeats 400000 in
theorem IsDigit_any (c : Int) (h0 : 0 ≤ c) (h1 : c ≤ 255) (w : World) :
    Calls Tryz.prog 12 #[.int .u8 c] w fun e w' => e = .returned (.bool (digI c)) ∧ w' = w := by
  rcases (show c < 48 ∨ (48 ≤ c ∧ c ≤ 57) ∨ 57 < c by omega) with h | ⟨h, h'⟩ | h
  · go_enter Tryz.func12, Tryz.ntmps12
    go_wp2
    go_ret
    exact ⟨ret_bool (digI_f (by omega)).symm, rfl⟩
  · go_enter Tryz.func12, Tryz.ntmps12
    go_wp2
    go_ret
    exact ⟨ret_bool (digI_t (by omega)).symm, rfl⟩
  · have g57 : decide (c ≤ 57) = false := by simp; omega
    go_enter Tryz.func12, Tryz.ntmps12
    go_wp2
    go_ret
    exact ⟨ret_bool (digI_f (by omega)).symm, rfl⟩

set_option maxHeartbeats 400000 in
theorem IsLetter_any (c : Int) (h0 : 0 ≤ c) (h1 : c ≤ 255) (w : World) :
    Calls Tryz.prog 13 #[.int .u8 c] w fun e w' => e = .returned (.bool (lettI c)) ∧ w' = w := by
  rcases (show c < 65 ∨ (65 ≤ c ∧ c ≤ 90) ∨ (90 < c ∧ c < 97) ∨ (97 ≤ c ∧ c ≤ 122) ∨ 122 < c by omega) with h | ⟨h, h'⟩ | ⟨h, h'⟩ | ⟨h, h'⟩ | h
  · go_enter Tryz.func13, Tryz.ntmps13
    go_wp2
    go_ret
    exact ⟨ret_bool (lettI_f (by omega)).symm, rfl⟩
  · go_enter Tryz.func13, Tryz.ntmps13
    go_wp2
    go_ret
    exact ⟨ret_bool (lettI_t (by omega)).symm, rfl⟩
  · have g90 : decide (c ≤ 90) = false := by simp; omega
    go_enter Tryz.func13, Tryz.ntmps13
    go_wp2
    go_ret
    exact ⟨ret_bool (lettI_f (by omega)).symm, rfl⟩
  · have g90 : decide (c ≤ 90) = false := by simp; omega
    go_enter Tryz.func13, Tryz.ntmps13
    go_wp2
    go_ret
    exact ⟨ret_bool (lettI_t (by omega)).symm, rfl⟩
  · have g90 : decide (c ≤ 90) = false := by simp; omega
    have g122 : decide (c ≤ 122) = false := by simp; omega
    go_enter Tryz.func13, Tryz.ntmps13
    go_wp2
    go_ret
    exact ⟨ret_bool (lettI_f (by omega)).symm, rfl⟩

set_option maxHeartbeats 400000 in
theorem digitValue_any (c : Int) (h0 : 0 ≤ c) (h1 : c ≤ 255) (w : World) :
    Calls Tryz.prog 228 #[.int .u8 c] w fun e w' => e = .returned (.int .i64 (valI c)) ∧ w' = w := by
  rcases (show c < 48 ∨ (48 ≤ c ∧ c ≤ 57) ∨ (57 < c ∧ c < 65) ∨ (65 ≤ c ∧ c ≤ 70) ∨ (70 < c ∧ c < 97) ∨ (97 ≤ c ∧ c ≤ 102) ∨ 102 < c by omega) with h | ⟨h, h'⟩ | ⟨h, h'⟩ | ⟨h, h'⟩ | ⟨h, h'⟩ | ⟨h, h'⟩ | h
  · go_enter Tryz.func228, Tryz.ntmps228
    go_wp2
    go_ret
    exact ⟨ret_int (valI_n (hexI_f (by omega))).symm, rfl⟩
  · go_enter Tryz.func228, Tryz.ntmps228
    go_wp2
    go_ret
    exact ⟨ret_int (by rw [valI_d (by omega)]), rfl⟩
  · have g57 : decide (c ≤ 57) = false := by simp; omega
    go_enter Tryz.func228, Tryz.ntmps228
    go_wp2
    go_ret
    exact ⟨ret_int (valI_n (hexI_f (by omega))).symm, rfl⟩
  · have g57 : decide (c ≤ 57) = false := by simp; omega
    go_enter Tryz.func228, Tryz.ntmps228
    go_wp2
    go_ret
    exact ⟨ret_int (by rw [valI_b (by omega)]; omega), rfl⟩
  · have g57 : decide (c ≤ 57) = false := by simp; omega
    have g70 : decide (c ≤ 70) = false := by simp; omega
    go_enter Tryz.func228, Tryz.ntmps228
    go_wp2
    go_ret
    exact ⟨ret_int (valI_n (hexI_f (by omega))).symm, rfl⟩
  · have g57 : decide (c ≤ 57) = false := by simp; omega
    go_enter Tryz.func228, Tryz.ntmps228
    go_wp2
    go_ret
    exact ⟨ret_int (by rw [valI_s (by omega)]; omega), rfl⟩
  · have g57 : decide (c ≤ 57) = false := by simp; omega
    have g70 : decide (c ≤ 70) = false := by simp; omega
    have g102 : decide (c ≤ 102) = false := by simp; omega
    go_enter Tryz.func228, Tryz.ntmps228
    go_wp2
    go_ret
    exact ⟨ret_int (valI_n (hexI_f (by omega))).symm, rfl⟩

set_option maxHeartbeats 400000 in
theorem IsSign_any (c : Int) (h0 : 0 ≤ c) (h1 : c ≤ 255) (w : World) :
    Calls Tryz.prog 8 #[.int .u8 c] w fun e w' => e = .returned (.bool (tokI c)) ∧ w' = w := by
  cases hd : digI c with
  | true =>
    go_enter Tryz.func8, Tryz.ntmps8
    go_wp2_with (go_at_call 12; refine (IsDigit_any _ h0 h1 _).mono ?_; rintro e w' ⟨rfl, rfl⟩)
    go_ret
    exact ⟨ret_bool (tokI_of_dig hd).symm, rfl⟩
  | false =>
    cases hl : lettI c with
    | true =>
      go_enter Tryz.func8, Tryz.ntmps8
      go_wp2_with (first | (go_at_call 12; refine (IsDigit_any _ h0 h1 _).mono ?_; rintro e w' ⟨rfl, rfl⟩) | (go_at_call 13; refine (IsLetter_any _ h0 h1 _).mono ?_; rintro e w' ⟨rfl, rfl⟩))
      go_ret
      exact ⟨ret_bool (tokI_of_lett hl).symm, rfl⟩
    | false =>
      go_enter Tryz.func8, Tryz.ntmps8
      go_wp2_with (first | (go_at_call 12; refine (IsDigit_any _ h0 h1 _).mono ?_; rintro e w' ⟨rfl, rfl⟩) | (go_at_call 13; refine (IsLetter_any _ h0 h1 _).mono ?_; rintro e w' ⟨rfl, rfl⟩))
      go_loop [4] (fun i => ∃ k : Nat, k ≤ 15 ∧ i = .int .i64 k ∧ ∀ j, j < k → ((signs.getD j 0).toNat : Int) ≠ c) (fun i => 15 - (intOf i).toNat)
      case atStart => exact ⟨0, by omega, rfl, fun j hj => by omega⟩
      case round =>
        obtain ⟨k, hk, rfl, hno⟩ := hrel
        by_cases hlt : k < 15
        · go_wp2
          · have hit : ((⟨#[33, 35, 36, 37, 38, 39, 42, 43, 45, 46, 94, 95, 96, 124, 126]⟩ : ByteArray)[k].toNat == c) = true := by assumption
            go_ret
            exact ⟨ret_bool (tokI_of_sign k hlt (by rw [signs_at k hlt]; exact eq_of_beq hit)).symm, rfl⟩
          · have miss : ((⟨#[33, 35, 36, 37, 38, 39, 42, 43, 45, 46, 94, 95, 96, 124, 126]⟩ : ByteArray)[k].toNat == c) = false := by assumption
            go_round
            case rel =>
              refine ⟨k + 1, by omega, by go_num, fun j hj => ?_⟩
              by_cases hjk : j = k
              · subst hjk
                rw [signs_at j hlt]
                exact beq_eq_false_iff_ne.1 miss
              · exact hno j (by omega)
            case measure => simp [intOf]; omega
        · go_wp2
          go_ret
          exact ⟨ret_bool (tokI_none hd hl (fun j hj => hno j (by omega))).symm, rfl⟩

end Oc
end Go.Proofs.YticncpjpkgdnlaaGreatDoor

/-
  Lists of bytes, and the world behind a conversion of a string.
-/
set_option linter.unusedVariables false
set_option linter.unusedSimpArgs false
namespace Go.Proofs.YticncpjpkgdnlaaGreatDoor
open Go.RowKit
namespace Oc

/-- The byte at a place, as a number. -/
def byt (s : ByteArray) (j : Nat) : Int := ((s.data.toList.getD j 0).toNat : Int)
theorem byt_bd (s : ByteArray) (j : Nat) : 0 ≤ byt s j ∧ byt s j ≤ 255 := by
  unfold byt
  have := (s.data.toList.getD j 0).toNat_lt
  omega
theorem byt_at (s : ByteArray) (j : Nat) (h : j < s.size) : (s[j].toNat : Int) = byt s j := by unfold byt; rw [at_lt s j h]

theorem tw_stop {α : Type} (p : α → Bool) (d : α) : ∀ (l : List α) (k : Nat), k < l.length → (∀ j, j < k → p (l.getD j d) = true) → p (l.getD k d) = false → (l.takeWhile p).length = k
  | [], k, h, _, _ => by simp at h
  | a :: l, 0, _, _, hs => by simp at hs; simp [List.takeWhile_cons, hs]
  | a :: l, k + 1, h, ha, hs => by
    have h0 := ha 0 (by omega)
    simp at h0
    rw [List.takeWhile_cons, h0]
    simp only [if_true, List.length_cons, Nat.add_right_cancel_iff]
    exact tw_stop p d l k (by simpa using h) (fun j hj => by simpa using ha (j + 1) (by omega)) (by simpa using hs)

theorem tw_all {α : Type} (p : α → Bool) (d : α) : ∀ (l : List α), (∀ j, j < l.length → p (l.getD j d) = true) → (l.takeWhile p).length = l.length
  | [], _ => rfl
  | a :: l, ha => by
    have h0 := ha 0 (by simp)
    simp at h0
    rw [List.takeWhile_cons, h0]
    simp only [if_true, List.length_cons, Nat.add_right_cancel_iff]
    exact tw_all p d l (fun j hj => by simpa using ha (j + 1) (by simpa using hj))

theorem all_of {α : Type} (p : α → Bool) (d : α) (l : List α) (h : ∀ j, j < l.length → p (l.getD j d) = true) : l.all p = true := by
  rw [List.all_eq_true]
  intro x hx
  obtain ⟨k, hk, rfl⟩ := List.mem_iff_getElem.1 hx
  have := h k hk
  rwa [List.getD_eq_getElem?_getD, List.getElem?_eq_getElem hk] at this

theorem all_not {α : Type} (p : α → Bool) (d : α) (l : List α) (k : Nat) (hk : k < l.length) (h : p (l.getD k d) = false) : l.all p = false := by
  rw [List.all_eq_false]
  refine ⟨l.getD k d, ?_, fun e => by rw [h] at e; cases e⟩
  rw [List.getD_eq_getElem?_getD, List.getElem?_eq_getElem hk]
  exact List.getElem_mem _

def tokB (c : UInt8) : Bool := tokI (c.toNat : Int)
def fieldB (c : UInt8) : Bool := fieldI (c.toNat : Int)
def blankB (c : UInt8) : Bool := blankI (c.toNat : Int)
def lowB (c : UInt8) : UInt8 := UInt8.ofNat (lowI (c.toNat : Int)).toNat
theorem lowB_int (c : UInt8) : ((lowB c).toNat : Int) = lowI (c.toNat : Int) := by
  have := c.toNat_lt
  have b := lowI_bd (c := (c.toNat : Int)) (by omega) (by omega)
  unfold lowB
  rw [UInt8.toNat_ofNat']
  omega

def tokLen (l : List UInt8) : Nat := (l.takeWhile tokB).length
def isTok (l : List UInt8) : Bool := !l.isEmpty && l.all tokB
def isFld (l : List UInt8) : Bool := l.all fieldB
def lower (l : List UInt8) : List UInt8 := l.map lowB

theorem isTok_len (l : List UInt8) (h : l ≠ []) : isTok l = decide ((tokLen l : Int) = (l.length : Int)) := by
  unfold isTok tokLen
  have h1 : l.isEmpty = false := by simp [h]
  rw [h1]
  cases hb : l.all tokB with
  | true =>
    have := tw_all tokB 0 l (fun j hj => List.all_eq_true.1 hb _ (by rw [List.getD_eq_getElem?_getD, List.getElem?_eq_getElem hj]; exact List.getElem_mem _))
    simp [this]
  | false =>
    simp only [Bool.not_false, Bool.and_false]
    symm
    rw [decide_eq_false_iff_not]
    intro e
    have e' : (l.takeWhile tokB).length = l.length := by omega
    have e2 : l.takeWhile tokB = l := (List.takeWhile_prefix (l := l) tokB).eq_of_length e'
    have e3 : (l.takeWhile tokB).all tokB = true := List.all_takeWhile
    rw [e2, hb] at e3
    cases e3

/-- What was there stays behind a conversion. -/
theorem below_bytes (w : World) (e : TypeId) (s : ByteArray) : Below w.heap.size w (Lib.bytesWorld w e s) :=
  ⟨by simp [Lib.bytesWorld, World.freeze, World.alloc, World.drew, -World.alloc_eq, -World.drew_eq], by simp [Lib.bytesWorld, World.freeze, World.alloc, World.drew, -World.alloc_eq, -World.drew_eq], by simp [Lib.bytesWorld, World.freeze, World.alloc, World.drew, -World.alloc_eq, -World.drew_eq], by rw [Lib.bytesWorld_size]; omega, fun k hk => Lib.bytesWorld_at_old w e s k hk⟩

theorem bytes_cell (w : World) (e : TypeId) (s : ByteArray) (j : Nat) (hj : j < s.size) : (Lib.bytesWorld w e s).cell? ⟨w.heap.size, j, none⟩ = some (.int .u8 (byt s j)) := Lib.bytesWorld_cell w e s j hj

set_option maxHeartbeats 400000 in
theorem tokenLength_any (s : ByteArray) (hs : s.size ≤ maxLen) (w : World) (t : Tab w) :
    Calls Tryz.prog 109 #[.string s] w fun e w' => e = .returned (.int .i64 (tokLen s.data.toList)) ∧ Below w.heap.size w w' := by
  unfold maxLen at hs
  have hcv := fun w => Lib.run_convert_string_bytes (P := Tryz.prog) w 9 42 5 s Tryz.underlying9 Tryz.underlying42 Tryz.underlying5
  have hb := below_bytes w 5 s
  have t' := t.below hb (Nat.le_refl _)
  have hc := bytes_cell w 5 s
  have hl : s.data.toList.length = s.size := by simp
  go_enter Tryz.func109, Tryz.ntmps109
  go_wp2
  go_loop [8] (fun i => ∃ k : Nat, k ≤ s.size ∧ i = .int .i64 k ∧ ∀ j, j < k → tokI (byt s j) = true) (fun i => s.size - (intOf i).toNat)
  case atStart => exact ⟨0, Nat.zero_le _, rfl, fun j hj => by omega⟩
  case round =>
    obtain ⟨k, hk, rfl, hall⟩ := hrel
    by_cases hlt : k < s.size
    · have hck := hc k hlt
      obtain ⟨b0, b1⟩ := byt_bd s k
      cases ht : tokI (byt s k) with
      | true =>
        go_wp2_with (go_at_call 162; refine (isTokenSign_any _ b0 b1 _ t').mono ?_; rintro e w' ⟨rfl, rfl⟩)
        go_round
        case rel =>
          refine ⟨k + 1, by omega, by go_num, fun j hj => ?_⟩
          by_cases hjk : j = k
          · subst hjk; exact ht
          · exact hall j (by omega)
        case measure => simp [intOf]; omega
      | false =>
        go_wp2_with (go_at_call 162; refine (isTokenSign_any _ b0 b1 _ t').mono ?_; rintro e w' ⟨rfl, rfl⟩)
        go_ret
        exact ⟨ret_int (by rw [show tokLen s.data.toList = k from tw_stop tokB 0 _ k (by omega) (fun j hj => hall j hj) ht]), hb⟩
    · go_wp2
      go_ret
      exact ⟨ret_int (by rw [show tokLen s.data.toList = s.size from (tw_all tokB 0 _ (fun j hj => hall j (by omega))).trans hl]), hb⟩

end Oc
end Go.Proofs.YticncpjpkgdnlaaGreatDoor

/-
  Small letters; tokens and fields; texts that are the same.
-/
set_option linter.unusedVariables false
set_option linter.unusedSimpArgs false
namespace Go.Proofs.YticncpjpkgdnlaaGreatDoor
open Go.RowKit
namespace Oc

theorem ret_string {a b : ByteArray} (h : a = b) : Ending.returned (.string a) = .returned (.string b) := by rw [h]

/-- A row of bytes in a block: its first n cells hold f, and may be written. -/
structure Row (w : World) (b n : Nat) (f : Nat → Int) : Prop where
  cell : ∀ j, j < n → w.cell? ⟨b, j, none⟩ = some (.int .u8 (f j))
  free : ∀ j, j < n → w.frozen? ⟨b, j, none⟩ = false

theorem Row.set {w : World} {b n : Nat} {f : Nat → Int} (r : Row w b n f) (k : Nat) (hk : k < n) (v : Int) (g : Nat → Int) (hg : ∀ j, j < n → g j = if j = k then v else f j) : Row (w.setCell ⟨b, k, none⟩ (.int .u8 v)) b n g := by
  refine ⟨fun j hj => ?_, fun j hj => by rw [World.frozen?_setCell]; exact r.free j hj⟩
  rw [hg j hj]
  by_cases h : j = k
  · subst h
    rw [if_pos rfl]
    exact World.cell?_setCell_same w _ _ (r.cell j hj)
  · rw [if_neg h, World.cell?_setCell_other w _ _ _ (by intro e; injection e with _ e2; omega)]
    exact r.cell j hj

theorem Row.drewN {w : World} {b n : Nat} {f : Nat → Int} (r : Row w b n f) (q : Nat) : Row (w.drewN q) b n f :=
  ⟨fun j hj => by rw [World.cell?_drewN]; exact r.cell j hj, fun j hj => by rw [World.frozen?_drewN]; exact r.free j hj⟩

theorem bytes_row (w : World) (e : TypeId) (s : ByteArray) : Row (Lib.bytesWorld w e s) w.heap.size s.size (byt s) := by
  refine ⟨fun j hj => bytes_cell w e s j hj, fun j hj => ?_⟩
  unfold World.frozen?
  rw [show (Lib.bytesWorld w e s).heap[w.heap.size]? = _ from Lib.bytesWorld_at_new w e s]
  have hl : s.size ≤ (Lib.bytesCells w e s).size := by simp [Lib.bytesCells]
  simp
  omega

/-- The text whose bytes are these. -/
def str (l : List UInt8) : ByteArray := ⟨l.toArray⟩
theorem str_list (l : List UInt8) : (str l).data.toList = l := by simp [str]
theorem str_size (l : List UInt8) : (str l).size = l.length := by simp [str, ByteArray.size]
theorem str_self (s : ByteArray) : str s.data.toList = s := by simp [str]
theorem str_inj {a b : List UInt8} (h : str a = str b) : a = b := by rw [← str_list a, h, str_list]
theorem size_list (s : ByteArray) : s.data.toList.length = s.size := by simp
theorem eq_list {a b : ByteArray} (h : a.data.toList = b.data.toList) : a = b := by rw [← str_self a, h, str_self]

theorem eq_toList (a b : ByteArray) : (a.toList == b.toList) = decide (a = b) := by
  rw [ByteArray.toList_eq, ByteArray.toList_eq, Bool.eq_iff_iff, beq_iff_eq, decide_eq_true_iff]
  exact ⟨eq_list, fun h => by rw [h]⟩
theorem ne_toList (a b : ByteArray) : (a.toList != b.toList) = !decide (a = b) := by
  rw [bne, eq_toList]

/-- 'string(b)' where b's cells are known. -/
theorem back (w : World) (b n cap : Nat) (f : Nat → Int) (l : List UInt8) (r : Row w b n f) (hn : l.length = n) (hl : ∀ j, j < n → f j = ((l.getD j 0).toNat : Int)) :
    (convert 42 9 (.slice (some ⟨b, 0, none⟩) n cap)).run Tryz.prog w = .ok (.string (str l)) w := by
  subst hn
  refine run_convert_bytes_back w 42 9 5 ⟨b, 0, none⟩ cap l Tryz.underlying42 Tryz.underlying5 Tryz.underlying9 (fun j hj => ?_)
  have h1 := r.cell j hj
  rw [hl j hj, List.getD_eq_getElem?_getD, List.getElem?_eq_getElem hj] at h1
  have ea : Addr.add ⟨b, 0, none⟩ j = ⟨b, j, none⟩ := by unfold Addr.add; split <;> simp_all
  rw [ea]
  exact h1

def lowS (s : ByteArray) : ByteArray := str (lower s.data.toList)
theorem lowS_size (s : ByteArray) : (lowS s).size = s.size := by unfold lowS; rw [str_size]; simp [lower]
theorem lower_getD (l : List UInt8) (j : Nat) (h : j < l.length) : (((lower l).getD j 0).toNat : Int) = lowI ((l.getD j 0).toNat : Int) := by
  unfold lower
  rw [List.getD_eq_getElem?_getD, List.getElem?_map, List.getElem?_eq_getElem h, List.getD_eq_getElem?_getD, List.getElem?_eq_getElem h]
  exact lowB_int _

set_option maxHeartbeats 400000 in
theorem Lower_any (s : ByteArray) (hs : s.size ≤ maxLen) (w : World) :
    Calls Tryz.prog 118 #[.string s] w fun e w' => e = .returned (.string (lowS s)) ∧ Below w.heap.size w w' := by
  unfold maxLen at hs
  have hcv := fun w => Lib.run_convert_string_bytes (P := Tryz.prog) w 9 42 5 s Tryz.underlying9 Tryz.underlying42 Tryz.underlying5
  have hb := below_bytes w 5 s
  have hr := bytes_row w 5 s
  go_enter Tryz.func118, Tryz.ntmps118
  go_wp2
  go_loopw [10] (fun i wr => ∃ k : Nat, k ≤ s.size ∧ i = .int .i64 k ∧ Hid (Row wr w.heap.size s.size (fun j => if j < k then lowI (byt s j) else byt s j)) ∧ Hid (Below w.heap.size w wr)) (fun i _ => s.size - (intOf i).toNat)
  case atStart => exact ⟨0, Nat.zero_le _, rfl, (by simpa using hr : Row _ _ _ _), hb⟩
  case round =>
    obtain ⟨k, hk, rfl, hrow, hbel⟩ := hrel
    clear hr hb hcv
    by_cases hlt : k < s.size
    · have hck : wr.cell? ⟨w.heap.size, k, none⟩ = some (.int .u8 (byt s k)) := by
        have := hrow.out.cell k hlt
        rwa [if_neg (by omega)] at this
      have hfk := hrow.out.free k hlt
      obtain ⟨b0, b1⟩ := byt_bd s k
      go_wp2_with (go_at_call 174; refine (lowerByte_any _ b0 b1 _).mono ?_; rintro e w' ⟨rfl, rfl⟩)
      go_roundw
      case rel =>
        refine ⟨k + 1, by omega, by go_num, hrow.out.set k hlt _ _ (fun j hj => ?_), hbel.out.setCell (Nat.le_refl _) _⟩
        by_cases hjk : j = k
        · subst hjk; rw [if_pos (by omega), if_pos rfl]
        · rw [if_neg hjk]
          by_cases h2 : j < k
          · rw [if_pos (by omega), if_pos h2]
          · rw [if_neg (by omega), if_neg h2]
      case measure => simp [intOf]; omega
    · have hbk := back wr w.heap.size s.size (grownCap w s.size 0 5) _ (lower s.data.toList) hrow.out (by simp [lower]) (fun j hj => by rw [if_pos (by omega), lower_getD _ _ (by rw [size_list]; exact hj)]; rfl)
      go_wp2
      go_ret
      exact ⟨rfl, hbel.out⟩

end Oc
end Go.Proofs.YticncpjpkgdnlaaGreatDoor

/-
  octet.Same.
-/
set_option linter.unusedVariables false
set_option linter.unusedSimpArgs false
namespace Go.Proofs.YticncpjpkgdnlaaGreatDoor
open Go.RowKit
namespace Oc

theorem lowS_eq {a b : ByteArray} (hn : a.size = b.size) (h : ∀ j, j < a.size → lowI (byt a j) = lowI (byt b j)) : lowS a = lowS b := by
  unfold lowS
  congr 1
  apply List.ext_getElem
  · simp [lower, hn]
  · intro j h1 h2
    have ha : j < a.data.toList.length := by simpa [lower] using h1
    have hb : j < b.data.toList.length := by simpa [lower] using h2
    have e1 := lower_getD _ j ha
    have e2 := lower_getD _ j hb
    have := h j (by rw [← size_list]; exact ha)
    unfold byt at this
    rw [← e1, ← e2] at this
    rw [List.getD_eq_getElem?_getD, List.getElem?_eq_getElem h1, List.getD_eq_getElem?_getD, List.getElem?_eq_getElem h2] at this
    exact UInt8.toNat_inj.1 (Int.ofNat.inj this)

theorem lowS_ne {a b : ByteArray} (k : Nat) (ha : k < a.size) (hb : k < b.size) (h : lowI (byt a k) ≠ lowI (byt b k)) : lowS a ≠ lowS b := by
  intro e
  have e := str_inj e
  apply h
  have e1 := lower_getD a.data.toList k (by rw [size_list]; exact ha)
  have e2 := lower_getD b.data.toList k (by rw [size_list]; exact hb)
  rw [e] at e1
  exact e1.symm.trans e2

theorem lowS_sizes {a b : ByteArray} (h : a.size ≠ b.size) : lowS a ≠ lowS b := by
  intro e
  have := congrArg ByteArray.size e
  rw [lowS_size, lowS_size] at this
  exact h this

theorem lowI_idem (c : Int) : lowI (lowI c) = lowI c := by unfold lowI; (repeat' split) <;> omega
theorem lowS_byt (s : ByteArray) (j : Nat) (h : j < s.size) : byt (lowS s) j = lowI (byt s j) := by
  unfold byt lowS
  rw [str_list, lower_getD _ _ (by rw [size_list]; exact h)]
theorem lowS_idem (a : ByteArray) : lowS (lowS a) = lowS a := by
  refine lowS_eq (lowS_size a) (fun j hj => ?_)
  rw [lowS_size] at hj
  rw [lowS_byt a j hj, lowI_idem]
theorem bel_trans {w w1 w2 : World} (a : Below w.heap.size w w1) (b : Below w1.heap.size w1 w2) : Below w.heap.size w w2 := a.trans (b.mono a.size)

set_option maxRecDepth 100000 in
set_option maxHeartbeats 400000 in
theorem Same_any (a b : ByteArray) (ha : a.size ≤ maxLen) (hb : b.size ≤ maxLen) (w : World) :
    Calls Tryz.prog 219 #[.string a, .string b] w fun e w' => e = .returned (.bool (decide (lowS a = lowS b))) ∧ Below w.heap.size w w' := by
  unfold maxLen at ha hb
  by_cases hn : a.size = b.size
  · have hcv := fun w => Lib.run_convert_string_bytes (P := Tryz.prog) w 9 42 5 a Tryz.underlying9 Tryz.underlying42 Tryz.underlying5
    have hbel := below_bytes w 5 a
    have hr := bytes_row w 5 a
    have hne : ((a.size : Int) != (b.size : Int)) = false := by simp [hn]
    have HN : Hid (a.size = b.size) := hn
    have hle : a.size ≤ b.size := by omega
    clear hn
    go_enter Tryz.func219, Tryz.ntmps219
    go_wp2
    go_loopw [15] (fun i wr => ∃ k : Nat, k ≤ a.size ∧ i = .int .i64 k ∧ Hid (∀ j, j < k → lowI (byt a j) = lowI (byt b j)) ∧ Hid (Row wr w.heap.size a.size (byt a)) ∧ Hid (Below w.heap.size w wr)) (fun i _ => a.size - (intOf i).toNat)
    case atStart => exact ⟨0, Nat.zero_le _, rfl, (fun j hj => by omega : ∀ j, j < 0 → _), hr, hbel⟩
    case round =>
      obtain ⟨k, hk, rfl, hall, hrow, hbl⟩ := hrel
      clear hr hbel hcv
      by_cases hlt : k < a.size
      · have hck := hrow.out.cell k hlt
        obtain ⟨b0, b1⟩ := byt_bd a k
        have hkb : k < b.size := by omega
        have hby : ((b[k].toNat : Nat) : Int) = byt b k := byt_at b k hkb
        obtain ⟨d0, d1⟩ := byt_bd b k
        cases hc : (lowI (byt a k) != lowI (byt b k)) with
        | false =>
          go_wp2_with fail
          go_quiet ((go_at_call 174; exact Calls.quiet_of_same (lowerByte_any _ (by omega) (by omega) _)))
          go_wp2
          go_roundw
          case rel =>
            refine ⟨k + 1, by omega, by go_num, (fun j hj => ?_ : ∀ j, j < k + 1 → lowI (byt a j) = lowI (byt b j)), hrow.out.drewN _, below_drewN hbl.out _⟩
            by_cases hjk : j = k
            · subst hjk; simpa using hc
            · exact hall.out j (by omega)
          case measure => simp [intOf]; omega
        | true =>
          go_wp2_with fail
          go_quiet ((go_at_call 174; exact Calls.quiet_of_same (lowerByte_any _ (by omega) (by omega) _)))
          go_wp2
          go_ret
          exact ⟨ret_bool (decide_eq_false (lowS_ne k hlt hkb (by simpa using hc))).symm, below_drewN hbl.out _⟩
      · have hfin := lowS_eq HN.out (fun j hj => hall.out j (by omega))
        have HF : Hid (lowS a = lowS b) := hfin
        clear hfin
        go_wp2
        go_ret
        exact ⟨ret_bool (decide_eq_true HF.out).symm, hbl.out⟩
  · have hne : ((a.size : Int) != (b.size : Int)) = true := by simp; omega
    have HN : Hid (lowS a ≠ lowS b) := lowS_sizes hn
    clear hn
    go_enter Tryz.func219, Tryz.ntmps219
    go_wp2
    go_ret
    exact ⟨ret_bool (decide_eq_false HN.out).symm, Below.refl _ _⟩

end Oc
end Go.Proofs.YticncpjpkgdnlaaGreatDoor

/-
  Numbers: what digits say.
-/
set_option linter.unusedVariables false
set_option linter.unusedSimpArgs false
namespace Go.Proofs.YticncpjpkgdnlaaGreatDoor
open Go.RowKit
namespace Oc

/-- The value of a byte as a digit, and what digits say. -/
def numOf (base : Int) (l : List UInt8) : Int := l.foldl (fun n c => n * base + valI (c.toNat : Int)) 0
def numR (base : Int) (l : List UInt8) (most : Int) : Int × Int :=
  if l.isEmpty || l.any (fun c => decide (base ≤ valI (c.toNat : Int))) then (0, 11) else if most < numOf base l then (0, 12) else (numOf base l, 0)

theorem numOf_snoc (base : Int) (l : List UInt8) (c : UInt8) : numOf base (l ++ [c]) = numOf base l * base + valI (c.toNat : Int) := by
  unfold numOf; rw [List.foldl_append]; rfl
theorem take_snoc (s : ByteArray) (k : Nat) (h : k < s.size) : s.data.toList.take (k + 1) = s.data.toList.take k ++ [s.data.toList.getD k 0] := by
  rw [List.take_succ_eq_append_getElem (by simpa using h), List.getD_eq_getElem?_getD, List.getElem?_eq_getElem (by simpa using h)]; rfl
/-- What the first k digits say. -/
def pre (base : Int) (s : ByteArray) (k : Nat) : Int := numOf base (s.data.toList.take k)
theorem pre_zero (base : Int) (s : ByteArray) : pre base s 0 = 0 := by simp [pre, numOf]
theorem pre_succ (base : Int) (s : ByteArray) (k : Nat) (h : k < s.size) : pre base s (k + 1) = pre base s k * base + valI (byt s k) := by
  unfold pre byt; rw [take_snoc s k h, numOf_snoc]
theorem pre_all (base : Int) (s : ByteArray) : pre base s s.size = numOf base s.data.toList := by
  unfold pre; rw [List.take_of_length_le (by simp)]
theorem pre_nonneg (base : Int) (hb : 0 ≤ base) (s : ByteArray) : ∀ k, k ≤ s.size → 0 ≤ pre base s k
  | 0, _ => by rw [pre_zero]; omega
  | k + 1, h => by
    rw [pre_succ base s k (by omega)]
    have h1 := pre_nonneg base hb s k (by omega)
    have h2 := valI_bd (byt_bd s k).1
    have := Int.mul_nonneg h1 hb
    omega

theorem numR_empty (base most : Int) (s : ByteArray) (h : s.size = 0) : numR base s.data.toList most = (0, 11) := by
  have : s.data.toList = [] := List.length_eq_zero_iff.1 (by rw [size_list]; exact h)
  simp [numR, this]
theorem numR_bad (base most : Int) (s : ByteArray) (k : Nat) (h : k < s.size) (hv : base ≤ valI (byt s k)) : numR base s.data.toList most = (0, 11) := by
  unfold numR
  rw [if_pos]
  simp only [Bool.or_eq_true, List.any_eq_true]
  refine .inr ⟨s.data.toList.getD k 0, ?_, decide_eq_true hv⟩
  rw [List.getD_eq_getElem?_getD, List.getElem?_eq_getElem (by simpa using h)]
  exact List.getElem_mem _
theorem num_ok (base : Int) (s : ByteArray) (h0 : 0 < s.size) (hall : ∀ j, j < s.size → valI (byt s j) < base) : (s.data.toList.isEmpty || s.data.toList.any (fun c => decide (base ≤ valI (c.toNat : Int)))) = false := by
  rw [Bool.or_eq_false_iff]
  constructor
  · cases h : s.data.toList with
    | nil => have := size_list s; rw [h] at this; simp at this; omega
    | cons _ _ => rfl
  · rw [List.any_eq_false]
    intro x hx
    obtain ⟨k, hk, rfl⟩ := List.mem_iff_getElem.1 hx
    have := hall k (by rw [← size_list]; exact hk)
    unfold byt at this
    rw [List.getD_eq_getElem?_getD, List.getElem?_eq_getElem hk] at this
    simpa using this
theorem numR_big (base most : Int) (s : ByteArray) (h0 : 0 < s.size) (hall : ∀ j, j < s.size → valI (byt s j) < base) (h : most < pre base s s.size) : numR base s.data.toList most = (0, 12) := by
  unfold numR
  rw [num_ok base s h0 hall, if_neg (by simp), ← pre_all, if_pos h]
theorem numR_fits (base most : Int) (s : ByteArray) (h0 : 0 < s.size) (hall : ∀ j, j < s.size → valI (byt s j) < base) (h : pre base s s.size ≤ most) : numR base s.data.toList most = (pre base s s.size, 0) := by
  unfold numR
  rw [num_ok base s h0 hall, if_neg (by simp), ← pre_all, if_neg (by omega)]

theorem ret_two {j k : IntKind} {a b : Int} {r : Int × Int} (h : r = (a, b)) : Ending.returned (.tuple #[.int j a, .int k b]) = .returned (.tuple #[.int j r.1, .int k r.2]) := by rw [h]

theorem div_facts (m : Int) (B : Int) (hB : 0 < B) : B * m.tdiv B + m.tmod B = m ∧ m.tmod B < B ∧ -B < m.tmod B ∧ (0 ≤ m → 0 ≤ m.tmod B) := by
  refine ⟨Int.mul_tdiv_add_tmod m B, Int.tmod_lt_of_pos m hB, ?_, fun h => Int.tmod_nonneg B h⟩
  have := Int.lt_tmod_of_pos m hB
  omega

theorem next_big10 {most n v : Int} (n0 : 0 ≤ n) (v0 : 0 ≤ v) (v1 : v < 10) (h : most.tdiv 10 < n ∨ n = most.tdiv 10 ∧ most.tmod 10 < v) : most < n * 10 + v := by
  obtain ⟨e, r1, r2, r3⟩ := div_facts most 10 (by omega)
  omega
theorem next_fit10 {most n v : Int} (n0 : 0 ≤ n) (v0 : 0 ≤ v) (v1 : v < 10) (h : n < most.tdiv 10 ∨ n = most.tdiv 10 ∧ v ≤ most.tmod 10) : n * 10 + v ≤ most := by
  obtain ⟨e, r1, r2, r3⟩ := div_facts most 10 (by omega)
  omega

set_option maxRecDepth 100000 in
set_option maxHeartbeats 1000000 in
theorem number10 (s : ByteArray) (hs : s.size ≤ maxLen) (most : Int) (m0 : -9223372036854775808 ≤ most) (m1 : most ≤ 9223372036854775807) (w : World) :
    Calls Tryz.prog 165 #[.string s, .int .i64 10, .int .i64 most] w fun e w' => e = .returned (.tuple #[.int .i64 (numR 10 s.data.toList most).1, .int .i64 (numR 10 s.data.toList most).2]) ∧ Below w.heap.size w w' := by
  unfold maxLen at hs
  by_cases hz : s.size = 0
  · have he : s.toList.isEmpty = true := by rw [ByteArray.toList_eq]; simp [List.length_eq_zero_iff.1 ((size_list s).trans hz)]
    have HE : Hid (numR 10 s.data.toList most = (0, 11)) := numR_empty 10 most s hz
    clear hz
    go_enter Tryz.func165, Tryz.ntmps165
    go_wp2
    go_ret2
    exact ⟨ret_two HE.out, Below.refl _ _⟩
  · have he : s.toList.isEmpty = false := by
      rw [ByteArray.toList_eq]
      cases h : s.data.toList with
      | nil => have := size_list s; rw [h] at this; simp at this; omega
      | cons _ _ => rfl
    have hcv := fun w => Lib.run_convert_string_bytes (P := Tryz.prog) w 9 42 5 s Tryz.underlying9 Tryz.underlying42 Tryz.underlying5
    have hb := below_bytes w 5 s
    have hr := bytes_row w 5 s
    go_enter Tryz.func165, Tryz.ntmps165
    go_wp2
    go_loop [8, 9, 18] (fun nv bv i => ∃ k : Nat, k ≤ s.size ∧ i = .int .i64 k ∧ ∃ (n : Int) (big : Bool), nv = .int .i64 n ∧ bv = .bool big ∧ Hid (∀ j, j < k → valI (byt s j) < 10) ∧ Hid (if big then most < pre 10 s k else n = pre 10 s k) ∧ Hid (big = false → n ≤ most ∨ k = 0) ∧ 0 ≤ n ∧ n ≤ 9223372036854775807) (fun _ _ i => s.size - (intOf i).toNat)
    case atStart => exact ⟨0, Nat.zero_le _, rfl, 0, false, rfl, rfl, (fun j hj => by omega : ∀ j, j < 0 → _), (by simp [pre_zero] : if false = true then _ else _), (fun _ => .inr rfl : false = false → _ ∨ _), by omega, by omega⟩
    case round =>
      obtain ⟨k, hk, rfl, n, big, rfl, rfl, hall, hst, hle, n0, n1⟩ := hrel
      by_cases hlt : k < s.size
      · have hck := hr.cell k hlt
        obtain ⟨b0, b1⟩ := byt_bd s k
        obtain ⟨v0, v1⟩ := valI_bd b0
        by_cases hv : valI (byt s k) < 10
        · have HA : Hid (∀ j, j < k + 1 → valI (byt s j) < 10) := by
            intro j hj
            by_cases hjk : j = k
            · subst hjk; exact hv
            · exact hall.out j (by omega)
          have HP : Hid (pre 10 s (k + 1) = pre 10 s k * 10 + valI (byt s k)) := pre_succ 10 s k hlt
          cases big with
          | true =>
            go_wp2_with (go_at_call 228; refine (digitValue_any _ b0 b1 _).mono ?_; rintro e w' ⟨rfl, rfl⟩)
            go_round
            case rel =>
              refine ⟨k + 1, by omega, by go_num, n, true, rfl, rfl, HA, ?_, (fun h => by cases h), n0, n1⟩
              have h1 : most < pre 10 s k := by simpa using hst.out
              have h2 := pre_nonneg 10 (by omega) s k hk
              show if true = true then _ else _
              rw [if_pos rfl, HP.out]
              omega
            case measure => simp [intOf]; omega
          | false =>
            have EN : Hid (n = pre 10 s k) := (by simpa using hst.out : n = pre 10 s k)
            rcases (show most.tdiv 10 < n ∨ (n = most.tdiv 10 ∧ most.tmod 10 < valI (byt s k)) ∨ (n = most.tdiv 10 ∧ valI (byt s k) ≤ most.tmod 10) ∨ n < most.tdiv 10 by omega) with hA | ⟨hB, hB'⟩ | ⟨hC, hC'⟩ | hD
            · have hbig : Hid (most < pre 10 s (k + 1)) := by
                have := next_big10 n0 v0 hv (.inl hA)
                show most < _
                rw [HP.out, ← EN.out]; exact this
              go_wp2_with (go_at_call 228; refine (digitValue_any _ b0 b1 _).mono ?_; rintro e w' ⟨rfl, rfl⟩)
              go_round
              case rel => exact ⟨k + 1, by omega, by go_num, n, true, rfl, rfl, HA, (by show if true = true then _ else _; rw [if_pos rfl]; exact hbig.out), (fun h => by cases h), n0, n1⟩
              case measure => simp [intOf]; omega
            · have hbig : Hid (most < pre 10 s (k + 1)) := by
                have := next_big10 n0 v0 hv (.inr ⟨hB, hB'⟩)
                show most < _
                rw [HP.out, ← EN.out]; exact this
              have hB1 : decide (most.tdiv 10 < n) = false := by simp; omega
              have hB2 : (n == most.tdiv 10) = true := by simp [hB]
              have hB3 : decide (most.tmod 10 < valI (byt s k)) = true := by simp; omega
              clear hB
              go_wp2_with (go_at_call 228; refine (digitValue_any _ b0 b1 _).mono ?_; rintro e w' ⟨rfl, rfl⟩)
              go_round
              case rel => exact ⟨k + 1, by omega, by go_num, n, true, rfl, rfl, HA, (by show if true = true then _ else _; rw [if_pos rfl]; exact hbig.out), (fun h => by cases h), n0, n1⟩
              case measure => simp [intOf]; omega
            · have hfit := next_fit10 n0 v0 hv (.inr ⟨hC, hC'⟩)
              have hm : 0 ≤ most := by omega
              rw [Int.tdiv_eq_ediv_of_nonneg hm] at hC
              rw [Int.tmod_eq_emod_of_nonneg hm] at hC'
              have hB1 : decide (most / 10 < n) = false := by simp; omega
              have hB2 : (n == most / 10) = true := by simp [hC]
              have hB3 : decide (most % 10 < valI (byt s k)) = false := by simp; omega
              clear hC
              go_wp2_with (go_at_call 228; refine (digitValue_any _ b0 b1 _).mono ?_; rintro e w' ⟨rfl, rfl⟩)
              go_round
              case rel => exact ⟨k + 1, by omega, by go_num, n * 10 + valI (byt s k), false, rfl, rfl, HA, (by show if false = true then _ else _; rw [if_neg (by simp), HP.out, ← EN.out]), (fun _ => .inl hfit : false = false → _ ∨ _), by omega, by omega⟩
              case measure => simp [intOf]; omega
            · have hfit := next_fit10 n0 v0 hv (.inl hD)
              have hm : 0 ≤ most := by omega
              rw [Int.tdiv_eq_ediv_of_nonneg hm] at hD
              have hB1 : decide (most / 10 < n) = false := by simp; omega
              have hB2 : (n == most / 10) = false := by simp; omega
              go_wp2_with (go_at_call 228; refine (digitValue_any _ b0 b1 _).mono ?_; rintro e w' ⟨rfl, rfl⟩)
              go_round
              case rel => exact ⟨k + 1, by omega, by go_num, n * 10 + valI (byt s k), false, rfl, rfl, HA, (by show if false = true then _ else _; rw [if_neg (by simp), HP.out, ← EN.out]), (fun _ => .inl hfit : false = false → _ ∨ _), by omega, by omega⟩
              case measure => simp [intOf]; omega
        · have HE : Hid (numR 10 s.data.toList most = (0, 11)) := numR_bad 10 most s k hlt (by omega)
          go_wp2_with (go_at_call 228; refine (digitValue_any _ b0 b1 _).mono ?_; rintro e w' ⟨rfl, rfl⟩)
          go_ret2
          exact ⟨ret_two HE.out, hb⟩
      · obtain rfl : k = s.size := by omega
        cases big with
        | true =>
          have HE : Hid (numR 10 s.data.toList most = (0, 12)) := numR_big 10 most s (by omega) hall.out (by simpa using hst.out)
          go_wp2
          go_ret2
          exact ⟨ret_two HE.out, hb⟩
        | false =>
          have EN : Hid (n = pre 10 s s.size) := (by simpa using hst.out : n = pre 10 s s.size)
          have HE : Hid (numR 10 s.data.toList most = (n, 0)) := by
            have h1 := numR_fits 10 most s (by omega) hall.out (by rw [← EN.out]; rcases hle.out rfl with h | h <;> omega)
            rw [← EN.out] at h1
            exact h1
          go_wp2
          go_ret2
          exact ⟨ret_two HE.out, hb⟩

theorem next_big16 {most n v : Int} (n0 : 0 ≤ n) (v0 : 0 ≤ v) (v1 : v < 16) (h : most.tdiv 16 < n ∨ n = most.tdiv 16 ∧ most.tmod 16 < v) : most < n * 16 + v := by
  obtain ⟨e, r1, r2, r3⟩ := div_facts most 16 (by omega)
  omega
theorem next_fit16 {most n v : Int} (n0 : 0 ≤ n) (v0 : 0 ≤ v) (v1 : v < 16) (h : n < most.tdiv 16 ∨ n = most.tdiv 16 ∧ v ≤ most.tmod 16) : n * 16 + v ≤ most := by
  obtain ⟨e, r1, r2, r3⟩ := div_facts most 16 (by omega)
  omega

set_option maxRecDepth 100000 in
set_option maxHeartbeats 1000000 in
theorem number16 (s : ByteArray) (hs : s.size ≤ maxLen) (most : Int) (m0 : -9223372036854775808 ≤ most) (m1 : most ≤ 9223372036854775807) (w : World) :
    Calls Tryz.prog 165 #[.string s, .int .i64 16, .int .i64 most] w fun e w' => e = .returned (.tuple #[.int .i64 (numR 16 s.data.toList most).1, .int .i64 (numR 16 s.data.toList most).2]) ∧ Below w.heap.size w w' := by
  unfold maxLen at hs
  by_cases hz : s.size = 0
  · have he : s.toList.isEmpty = true := by rw [ByteArray.toList_eq]; simp [List.length_eq_zero_iff.1 ((size_list s).trans hz)]
    have HE : Hid (numR 16 s.data.toList most = (0, 11)) := numR_empty 16 most s hz
    clear hz
    go_enter Tryz.func165, Tryz.ntmps165
    go_wp2
    go_ret2
    exact ⟨ret_two HE.out, Below.refl _ _⟩
  · have he : s.toList.isEmpty = false := by
      rw [ByteArray.toList_eq]
      cases h : s.data.toList with
      | nil => have := size_list s; rw [h] at this; simp at this; omega
      | cons _ _ => rfl
    have hcv := fun w => Lib.run_convert_string_bytes (P := Tryz.prog) w 9 42 5 s Tryz.underlying9 Tryz.underlying42 Tryz.underlying5
    have hb := below_bytes w 5 s
    have hr := bytes_row w 5 s
    go_enter Tryz.func165, Tryz.ntmps165
    go_wp2
    go_loop [8, 9, 18] (fun nv bv i => ∃ k : Nat, k ≤ s.size ∧ i = .int .i64 k ∧ ∃ (n : Int) (big : Bool), nv = .int .i64 n ∧ bv = .bool big ∧ Hid (∀ j, j < k → valI (byt s j) < 16) ∧ Hid (if big then most < pre 16 s k else n = pre 16 s k) ∧ Hid (big = false → n ≤ most ∨ k = 0) ∧ 0 ≤ n ∧ n ≤ 9223372036854775807) (fun _ _ i => s.size - (intOf i).toNat)
    case atStart => exact ⟨0, Nat.zero_le _, rfl, 0, false, rfl, rfl, (fun j hj => by omega : ∀ j, j < 0 → _), (by simp [pre_zero] : if false = true then _ else _), (fun _ => .inr rfl : false = false → _ ∨ _), by omega, by omega⟩
    case round =>
      obtain ⟨k, hk, rfl, n, big, rfl, rfl, hall, hst, hle, n0, n1⟩ := hrel
      by_cases hlt : k < s.size
      · have hck := hr.cell k hlt
        obtain ⟨b0, b1⟩ := byt_bd s k
        obtain ⟨v0, v1⟩ := valI_bd b0
        by_cases hv : valI (byt s k) < 16
        · have HA : Hid (∀ j, j < k + 1 → valI (byt s j) < 16) := by
            intro j hj
            by_cases hjk : j = k
            · subst hjk; exact hv
            · exact hall.out j (by omega)
          have HP : Hid (pre 16 s (k + 1) = pre 16 s k * 16 + valI (byt s k)) := pre_succ 16 s k hlt
          cases big with
          | true =>
            go_wp2_with (go_at_call 228; refine (digitValue_any _ b0 b1 _).mono ?_; rintro e w' ⟨rfl, rfl⟩)
            go_round
            case rel =>
              refine ⟨k + 1, by omega, by go_num, n, true, rfl, rfl, HA, ?_, (fun h => by cases h), n0, n1⟩
              have h1 : most < pre 16 s k := by simpa using hst.out
              have h2 := pre_nonneg 16 (by omega) s k hk
              show if true = true then _ else _
              rw [if_pos rfl, HP.out]
              omega
            case measure => simp [intOf]; omega
          | false =>
            have EN : Hid (n = pre 16 s k) := (by simpa using hst.out : n = pre 16 s k)
            rcases (show most.tdiv 16 < n ∨ (n = most.tdiv 16 ∧ most.tmod 16 < valI (byt s k)) ∨ (n = most.tdiv 16 ∧ valI (byt s k) ≤ most.tmod 16) ∨ n < most.tdiv 16 by omega) with hA | ⟨hB, hB'⟩ | ⟨hC, hC'⟩ | hD
            · have hbig : Hid (most < pre 16 s (k + 1)) := by
                have := next_big16 n0 v0 hv (.inl hA)
                show most < _
                rw [HP.out, ← EN.out]; exact this
              go_wp2_with (go_at_call 228; refine (digitValue_any _ b0 b1 _).mono ?_; rintro e w' ⟨rfl, rfl⟩)
              go_round
              case rel => exact ⟨k + 1, by omega, by go_num, n, true, rfl, rfl, HA, (by show if true = true then _ else _; rw [if_pos rfl]; exact hbig.out), (fun h => by cases h), n0, n1⟩
              case measure => simp [intOf]; omega
            · have hbig : Hid (most < pre 16 s (k + 1)) := by
                have := next_big16 n0 v0 hv (.inr ⟨hB, hB'⟩)
                show most < _
                rw [HP.out, ← EN.out]; exact this
              have hB1 : decide (most.tdiv 16 < n) = false := by simp; omega
              have hB2 : (n == most.tdiv 16) = true := by simp [hB]
              have hB3 : decide (most.tmod 16 < valI (byt s k)) = true := by simp; omega
              clear hB
              go_wp2_with (go_at_call 228; refine (digitValue_any _ b0 b1 _).mono ?_; rintro e w' ⟨rfl, rfl⟩)
              go_round
              case rel => exact ⟨k + 1, by omega, by go_num, n, true, rfl, rfl, HA, (by show if true = true then _ else _; rw [if_pos rfl]; exact hbig.out), (fun h => by cases h), n0, n1⟩
              case measure => simp [intOf]; omega
            · have hfit := next_fit16 n0 v0 hv (.inr ⟨hC, hC'⟩)
              have hm : 0 ≤ most := by omega
              rw [Int.tdiv_eq_ediv_of_nonneg hm] at hC
              rw [Int.tmod_eq_emod_of_nonneg hm] at hC'
              have hB1 : decide (most / 16 < n) = false := by simp; omega
              have hB2 : (n == most / 16) = true := by simp [hC]
              have hB3 : decide (most % 16 < valI (byt s k)) = false := by simp; omega
              clear hC
              go_wp2_with (go_at_call 228; refine (digitValue_any _ b0 b1 _).mono ?_; rintro e w' ⟨rfl, rfl⟩)
              go_round
              case rel => exact ⟨k + 1, by omega, by go_num, n * 16 + valI (byt s k), false, rfl, rfl, HA, (by show if false = true then _ else _; rw [if_neg (by simp), HP.out, ← EN.out]), (fun _ => .inl hfit : false = false → _ ∨ _), by omega, by omega⟩
              case measure => simp [intOf]; omega
            · have hfit := next_fit16 n0 v0 hv (.inl hD)
              have hm : 0 ≤ most := by omega
              rw [Int.tdiv_eq_ediv_of_nonneg hm] at hD
              have hB1 : decide (most / 16 < n) = false := by simp; omega
              have hB2 : (n == most / 16) = false := by simp; omega
              go_wp2_with (go_at_call 228; refine (digitValue_any _ b0 b1 _).mono ?_; rintro e w' ⟨rfl, rfl⟩)
              go_round
              case rel => exact ⟨k + 1, by omega, by go_num, n * 16 + valI (byt s k), false, rfl, rfl, HA, (by show if false = true then _ else _; rw [if_neg (by simp), HP.out, ← EN.out]), (fun _ => .inl hfit : false = false → _ ∨ _), by omega, by omega⟩
              case measure => simp [intOf]; omega
        · have HE : Hid (numR 16 s.data.toList most = (0, 11)) := numR_bad 16 most s k hlt (by omega)
          go_wp2_with (go_at_call 228; refine (digitValue_any _ b0 b1 _).mono ?_; rintro e w' ⟨rfl, rfl⟩)
          go_ret2
          exact ⟨ret_two HE.out, hb⟩
      · obtain rfl : k = s.size := by omega
        cases big with
        | true =>
          have HE : Hid (numR 16 s.data.toList most = (0, 12)) := numR_big 16 most s (by omega) hall.out (by simpa using hst.out)
          go_wp2
          go_ret2
          exact ⟨ret_two HE.out, hb⟩
        | false =>
          have EN : Hid (n = pre 16 s s.size) := (by simpa using hst.out : n = pre 16 s s.size)
          have HE : Hid (numR 16 s.data.toList most = (n, 0)) := by
            have h1 := numR_fits 16 most s (by omega) hall.out (by rw [← EN.out]; rcases hle.out rfl with h | h <;> omega)
            rw [← EN.out] at h1
            exact h1
          go_wp2
          go_ret2
          exact ⟨ret_two HE.out, hb⟩

theorem pre_mono (base : Int) (hb : 1 ≤ base) (s : ByteArray) (j : Nat) : ∀ d, j + d ≤ s.size → pre base s j ≤ pre base s (j + d)
  | 0, _ => Int.le_refl _
  | d + 1, h => by
    have h1 := pre_mono base hb s j d (by omega)
    have h2 := pre_succ base s (j + d) (by omega)
    have h3 := valI_bd (byt_bd s (j + d)).1
    have h4 := pre_nonneg base (by omega) s (j + d) (by omega)
    have h5 : pre base s (j + d) ≤ pre base s (j + d) * base := by
      have := Int.mul_le_mul_of_nonneg_left hb h4
      omega
    show _ ≤ pre base s (j + d + 1)
    omega
theorem pre_le (base : Int) (hb : 1 ≤ base) (s : ByteArray) (j k : Nat) (h : j ≤ k) (hk : k ≤ s.size) : pre base s j ≤ pre base s k := by
  obtain ⟨d, rfl⟩ := Nat.le.dest h
  exact pre_mono base hb s j d hk
theorem digI_val {c : Int} : digI c = decide (valI c < 10) := by
  unfold digI valI
  rw [Bool.eq_iff_iff, decide_eq_true_iff, decide_eq_true_iff]
  (repeat' split) <;> omega
theorem hexI_val {c : Int} : hexI c = decide (valI c < 16) := by
  unfold hexI valI
  rw [Bool.eq_iff_iff, decide_eq_true_iff, decide_eq_true_iff]
  (repeat' split) <;> omega
theorem hex_of_val {c : Int} {b : Int} (hb : b ≤ 16) (h : valI c < b) : hexI c = true := by
  rw [hexI_val, decide_eq_true_iff]; omega

end Oc
end Go.Proofs.YticncpjpkgdnlaaGreatDoor

/-
  Numbers: the document's.
-/
set_option linter.unusedVariables false
set_option linter.unusedSimpArgs false
namespace Go.Proofs.YticncpjpkgdnlaaGreatDoor
open Go.RowKit
namespace Oc

theorem over_big10 {most n v : Int} (n0 : 0 ≤ n) (v0 : 0 ≤ v) (hm : v ≤ most) (h : (most - v) / 10 < n) : most < n * 10 + v := by omega
theorem over_fit10 {most n v : Int} (n0 : 0 ≤ n) (v0 : 0 ≤ v) (hm : v ≤ most) (h : ¬ (most - v) / 10 < n) : n * 10 + v ≤ most := by omega

theorem over_big16 {most n v : Int} (n0 : 0 ≤ n) (v0 : 0 ≤ v) (hm : v ≤ most) (h : (most - v) / 16 < n) : most < n * 16 + v := by omega
theorem over_fit16 {most n v : Int} (n0 : 0 ≤ n) (v0 : 0 ≤ v) (hm : v ≤ most) (h : ¬ (most - v) / 16 < n) : n * 16 + v ≤ most := by omega

set_option maxHeartbeats 400000 in
theorem Decimal_any (s : ByteArray) (hs : s.size ≤ maxLen) (most : Int) (m0 : -9223372036854775808 ≤ most) (m1 : most ≤ 9223372036854775807) (w : World) :
    Calls Tryz.prog 111 #[.string s, .int .i64 most] w fun e w' => e = .returned (.tuple #[.int .i64 (numR 10 s.data.toList most).1, .int .i64 (numR 10 s.data.toList most).2]) ∧ Below w.heap.size w w' := by
  go_enter Tryz.func111, Tryz.ntmps111
  go_wp2_with fail
  refine (number10 s hs most m0 m1 _).mono ?_
  rintro e w' ⟨rfl, hb⟩
  go_wp2
  go_ret2
  exact ⟨rfl, hb⟩

set_option maxHeartbeats 400000 in
theorem Hex_any (s : ByteArray) (hs : s.size ≤ maxLen) (most : Int) (m0 : -9223372036854775808 ≤ most) (m1 : most ≤ 9223372036854775807) (w : World) :
    Calls Tryz.prog 129 #[.string s, .int .i64 most] w fun e w' => e = .returned (.tuple #[.int .i64 (numR 16 s.data.toList most).1, .int .i64 (numR 16 s.data.toList most).2]) ∧ Below w.heap.size w w' := by
  go_enter Tryz.func129, Tryz.ntmps129
  go_wp2_with fail
  refine (number16 s hs most m0 m1 _).mono ?_
  rintro e w' ⟨rfl, hb⟩
  go_wp2
  go_ret2
  exact ⟨rfl, hb⟩

end Oc
end Go.Proofs.YticncpjpkgdnlaaGreatDoor

/-
  Tokens, bytes of fields; the answers that keep the laws awake.
-/
set_option linter.unusedVariables false
set_option linter.unusedSimpArgs false
namespace Go.Proofs.YticncpjpkgdnlaaGreatDoor
open Go.RowKit
namespace Oc

theorem empty_of {s : ByteArray} (h : s.size = 0) : s.toList.isEmpty = true := by rw [ByteArray.toList_eq]; simp [List.length_eq_zero_iff.1 ((size_list s).trans h)]
theorem nonempty_of {s : ByteArray} (h : ¬ s.size = 0) : s.toList.isEmpty = false := by
  rw [ByteArray.toList_eq]
  cases e : s.data.toList with
  | nil => have := size_list s; rw [e] at this; simp at this; omega
  | cons _ _ => rfl
theorem list_ne {s : ByteArray} (h : ¬ s.size = 0) : s.data.toList ≠ [] := by
  intro e
  have := size_list s
  rw [e] at this
  simp at this
  omega
theorem isTok_empty {s : ByteArray} (h : s.size = 0) : isTok s.data.toList = false := by
  have := List.length_eq_zero_iff.1 ((size_list s).trans h)
  rw [this]; rfl

set_option maxHeartbeats 400000 in
theorem IsToken_any (s : ByteArray) (hs : s.size ≤ maxLen) (w : World) (t : Tab w) :
    Calls Tryz.prog 66 #[.string s] w fun e w' => e = .returned (.bool (isTok s.data.toList)) ∧ Below w.heap.size w w' := by
  by_cases hz : s.size = 0
  · have he := empty_of hz
    have HE : Hid (isTok s.data.toList = false) := isTok_empty hz
    clear hz
    go_enter Tryz.func66, Tryz.ntmps66
    go_wp2
    go_ret
    exact ⟨ret_bool HE.out.symm, Below.refl _ _⟩
  · have he := nonempty_of hz
    have HE : Hid (isTok s.data.toList = decide ((tokLen s.data.toList : Int) = (s.data.toList.length : Int))) := isTok_len _ (list_ne hz)
    have HT : Hid (Tab w) := t
    clear t
    go_enter Tryz.func66, Tryz.ntmps66
    go_wp2_with fail
    refine (tokenLength_any s hs _ HT.out).mono ?_
    rintro e w' ⟨rfl, hb⟩
    go_wp2
    go_ret
    exact ⟨ret_bool (by rw [HE.out, size_list]; rw [Bool.eq_iff_iff, beq_iff_eq, decide_eq_true_iff]), hb⟩

set_option maxHeartbeats 400000 in
theorem rIsToken_any (s : ByteArray) (hs : s.size ≤ maxLen) (w : World) :
    Calls Tryz.prog 5 #[.string s] w fun e w' => e = .returned (.bool (isTok s.data.toList)) ∧ w' = w := by
  unfold maxLen at hs
  go_enter Tryz.func5, Tryz.ntmps5
  go_wp2
  go_loop [3] (fun i => ∃ k : Nat, k ≤ s.size ∧ i = .int .i64 k ∧ Hid (∀ j, j < k → tokI (byt s j) = true)) (fun i => s.size - (intOf i).toNat)
  case atStart => exact ⟨0, Nat.zero_le _, rfl, (fun j hj => by omega : ∀ j, j < 0 → _)⟩
  case round =>
    obtain ⟨k, hk, rfl, hall⟩ := hrel
    by_cases hlt : k < s.size
    · have hby : ((s[k].toNat : Nat) : Int) = byt s k := byt_at s k hlt
      obtain ⟨b0, b1⟩ := byt_bd s k
      cases ht : tokI (byt s k) with
      | true =>
        have HA : Hid (∀ j, j < k + 1 → tokI (byt s j) = true) := by
          intro j hj
          by_cases hjk : j = k
          · subst hjk; exact ht
          · exact hall.out j (by omega)
        go_wp2_with (go_at_call 8; refine (IsSign_any _ (by omega) (by omega) _).mono ?_; rintro e w' ⟨rfl, rfl⟩)
        go_round
        case rel => exact ⟨k + 1, by omega, by go_num, HA⟩
        case measure => simp [intOf]; omega
      | false =>
        have HE : Hid (isTok s.data.toList = false) := by
          show isTok _ = false
          unfold isTok
          rw [all_not tokB 0 _ k (by rw [size_list]; exact hlt) ht]
          simp
        go_wp2_with (go_at_call 8; refine (IsSign_any _ (by omega) (by omega) _).mono ?_; rintro e w' ⟨rfl, rfl⟩)
        go_ret
        exact ⟨ret_bool HE.out.symm, rfl⟩
    · have HA : Hid (s.data.toList.all tokB = true) := all_of tokB 0 _ (fun j hj => hall.out j (by rw [size_list] at hj; omega))
      by_cases hz : s.size = 0
      · have he := empty_of hz
        have HE : Hid (isTok s.data.toList = false) := isTok_empty hz
        clear hz
        go_wp2
        go_ret
        exact ⟨ret_bool HE.out.symm, rfl⟩
      · have he := nonempty_of hz
        have HE : Hid (isTok s.data.toList = true) := by
          show isTok _ = true
          unfold isTok
          rw [HA.out]
          rw [ByteArray.toList_eq] at he
          rw [he]; rfl
        go_wp2
        go_ret
        exact ⟨ret_bool HE.out.symm, rfl⟩

set_option maxHeartbeats 400000 in
theorem IsField_any (s : ByteArray) (hs : s.size ≤ maxLen) (w : World) :
    Calls Tryz.prog 76 #[.string s] w fun e w' => e = .returned (.bool (isFld s.data.toList)) ∧ Below w.heap.size w w' := by
  unfold maxLen at hs
  have hcv := fun w => Lib.run_convert_string_bytes (P := Tryz.prog) w 9 42 5 s Tryz.underlying9 Tryz.underlying42 Tryz.underlying5
  have hb := below_bytes w 5 s
  have hc := bytes_cell w 5 s
  go_enter Tryz.func76, Tryz.ntmps76
  go_wp2
  go_loop [8] (fun i => ∃ k : Nat, k ≤ s.size ∧ i = .int .i64 k ∧ Hid (∀ j, j < k → fieldI (byt s j) = true)) (fun i => s.size - (intOf i).toNat)
  case atStart => exact ⟨0, Nat.zero_le _, rfl, (fun j hj => by omega : ∀ j, j < 0 → _)⟩
  case round =>
    obtain ⟨k, hk, rfl, hall⟩ := hrel
    by_cases hlt : k < s.size
    · have hck := hc k hlt
      obtain ⟨b0, b1⟩ := byt_bd s k
      cases ht : fieldI (byt s k) with
      | true =>
        have HA : Hid (∀ j, j < k + 1 → fieldI (byt s j) = true) := by
          intro j hj
          by_cases hjk : j = k
          · subst hjk; exact ht
          · exact hall.out j (by omega)
        go_wp2_with (go_at_call 124; refine (isFieldByte_any _ b0 b1 _).mono ?_; rintro e w' ⟨rfl, rfl⟩)
        go_round
        case rel => exact ⟨k + 1, by omega, by go_num, HA⟩
        case measure => simp [intOf]; omega
      | false =>
        have HE : Hid (isFld s.data.toList = false) := all_not fieldB 0 _ k (by rw [size_list]; exact hlt) ht
        go_wp2_with (go_at_call 124; refine (isFieldByte_any _ b0 b1 _).mono ?_; rintro e w' ⟨rfl, rfl⟩)
        go_ret
        exact ⟨ret_bool HE.out.symm, hb⟩
    · have HE : Hid (isFld s.data.toList = true) := all_of fieldB 0 _ (fun j hj => hall.out j (by rw [size_list] at hj; omega))
      go_wp2
      go_ret
      exact ⟨ret_bool HE.out.symm, hb⟩

theorem low_ab : lowS ⟨#[97, 66]⟩ = ⟨#[97, 98]⟩ := by decide +kernel
theorem num_12 : numR 10 (⟨#[49, 50]⟩ : ByteArray).data.toList 12 = (12, 0) := by decide +kernel
theorem tok_x : isTok (⟨#[120]⟩ : ByteArray).data.toList = true := by decide +kernel

end Oc
end Go.Proofs.YticncpjpkgdnlaaGreatDoor
