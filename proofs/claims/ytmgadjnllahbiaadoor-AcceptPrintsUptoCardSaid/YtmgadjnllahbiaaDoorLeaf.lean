/-
  Contracts of octet's small functions on bytes, and of the document's.
-/
import Derived.Test.YtmgadjnllahbiaaDoorPlain
import Derived.Test.YtmgadjnllahbiaaDoorRows
import Derived.WalkKit
import Derived.WalkSpells
import Derived.WalkLawsBesides
set_option linter.unusedVariables false
set_option linter.unusedSimpArgs false
namespace Go.Proofs.YtmgadjnllahbiaaDoor
open Go.RowKit
namespace Oc

theorem ret_int {k : IntKind} {a b : Int} (h : a = b) : Ending.returned (.int k a) = .returned (.int k b) := by rw [h]
theorem ret_bool {a b : Bool} (h : a = b) : Ending.returned (.bool a) = .returned (.bool b) := by rw [h]

/-- The table of the signs of tokens lies where it was laid. -/
structure Tab (w : World) : Prop where
  lt : 0 < w.heap.size
  c0 : w.cell? ⟨0, 0, none⟩ = some (.int .u64 288068722172624896)
  c1 : w.cell? ⟨0, 1, none⟩ = some (.int .u64 6341068274398134270)
  c2 : w.cell? ⟨0, 2, none⟩ = some (.int .u64 0)
  c3 : w.cell? ⟨0, 3, none⟩ = some (.int .u64 0)

theorem tab_mk {w : World} (c0 : w.cell? ⟨0, 0, none⟩ = some (.int .u64 288068722172624896)) (c1 : w.cell? ⟨0, 1, none⟩ = some (.int .u64 6341068274398134270))
    (c2 : w.cell? ⟨0, 2, none⟩ = some (.int .u64 0)) (c3 : w.cell? ⟨0, 3, none⟩ = some (.int .u64 0)) : Tab w := by
  refine ⟨?_, c0, c1, c2, c3⟩
  rcases Nat.lt_or_ge 0 w.heap.size with h | h
  · exact h
  · simp [World.cell?, Array.getElem?_eq_none h] at c0

theorem Tab.below {B : Nat} {w w' : World} (h : Tab w) (b : Below B w w') (hB : w.heap.size ≤ B) : Tab w' := by
  have hl := h.lt
  have hs := b.size
  exact ⟨by omega, by rw [b.cell (show 0 < B by omega)]; exact h.c0, by rw [b.cell (show 0 < B by omega)]; exact h.c1, by rw [b.cell (show 0 < B by omega)]; exact h.c2, by rw [b.cell (show 0 < B by omega)]; exact h.c3⟩

set_option maxHeartbeats 400000 in
theorem lowerByte_any (c : Int) (h0 : 0 ≤ c) (h1 : c ≤ 255) (w : World) :
    Calls Tryd.prog 49 #[.int .u8 c] w fun e w' => e = .returned (.int .u8 (lowI c)) ∧ w' = w := by
  by_cases a : 65 ≤ c
  · by_cases b : c ≤ 90
    · go_enter Tryd.func49, Tryd.ntmps49
      go_wp2
      go_ret
      exact ⟨ret_int (by rw [lowI_up a b]; omega), rfl⟩
    · go_enter Tryd.func49, Tryd.ntmps49
      go_wp2
      go_ret
      exact ⟨ret_int (by rw [lowI_not (by omega)]), rfl⟩
  · go_enter Tryd.func49, Tryd.ntmps49
    go_wp2
    go_ret
    exact ⟨ret_int (by rw [lowI_not (by omega)]), rfl⟩

set_option maxHeartbeats 400000 in
theorem isFieldByte_any (c : Int) (h0 : 0 ≤ c) (h1 : c ≤ 255) (w : World) :
    Calls Tryd.prog 71 #[.int .u8 c] w fun e w' => e = .returned (.bool (fieldI c)) ∧ w' = w := by
  by_cases a : c = 9
  · subst a
    go_enter Tryd.func71, Tryd.ntmps71
    go_wp2
    go_ret
    exact ⟨ret_bool (by decide), rfl⟩
  · have a' : (c == 9) = false := by simp [a]
    by_cases b : 32 ≤ c
    · by_cases d : c = 127
      · subst d
        go_enter Tryd.func71, Tryd.ntmps71
        go_wp2
        go_ret
        exact ⟨ret_bool (by decide), rfl⟩
      · have d' : (c != 127) = true := by simp [d]
        go_enter Tryd.func71, Tryd.ntmps71
        go_wp2
        go_ret
        exact ⟨ret_bool (by unfold fieldI; simp; omega), rfl⟩
    · go_enter Tryd.func71, Tryd.ntmps71
      go_wp2
      go_ret
      exact ⟨ret_bool (by unfold fieldI; simp; omega), rfl⟩

set_option maxHeartbeats 400000 in
theorem isTokenSign_any (c : Int) (h0 : 0 ≤ c) (h1 : c ≤ 255) (w : World) (t : Tab w) :
    Calls Tryd.prog 57 #[.int .u8 c] w fun e w' => e = .returned (.bool (tokI c)) ∧ w' = w := by
  obtain ⟨tl, t0, t1, t2, t3⟩ := t
  by_cases a : c < 64
  · have q : c / 64 = 0 := by omega
    have r : c % 64 = c := by omega
    go_enter Tryd.func57, Tryd.ntmps57
    go_wp2
    go_ret
    obtain ⟨n, rfl⟩ := Int.eq_ofNat_of_zero_le h0
    exact ⟨ret_bool (tok_word0 n (by omega)).symm, rfl⟩
  · by_cases b : c < 128
    · have q : c / 64 = 1 := by omega
      have r : c % 64 = c - 64 := by omega
      go_enter Tryd.func57, Tryd.ntmps57
      go_wp2
      go_ret
      obtain ⟨n, e⟩ := Int.eq_ofNat_of_zero_le (show 0 ≤ c - 64 by omega)
      obtain rfl : c = ((n + 64 : Nat) : Int) := by omega
      rw [e]
      exact ⟨ret_bool (tok_word1 n (by omega)).symm, rfl⟩
    · rw [tok_beyond (by omega)]
      by_cases d : c < 192
      · have q : c / 64 = 2 := by omega
        go_enter Tryd.func57, Tryd.ntmps57
        go_wp2
        go_ret
        exact ⟨ret_bool bits_zero, rfl⟩
      · have q : c / 64 = 3 := by omega
        go_enter Tryd.func57, Tryd.ntmps57
        go_wp2
        go_ret
        exact ⟨ret_bool bits_zero, rfl⟩

set_option maxHeartbeats 400000 in
theorem IsDigit_any (c : Int) (h0 : 0 ≤ c) (h1 : c ≤ 255) (w : World) :
    Calls Tryd.prog 43 #[.int .u8 c] w fun e w' => e = .returned (.bool (digI c)) ∧ w' = w := by
  rcases (show c < 48 ∨ (48 ≤ c ∧ c ≤ 57) ∨ 57 < c by omega) with h | ⟨h, h'⟩ | h
  · go_enter Tryd.func43, Tryd.ntmps43
    go_wp2
    go_ret
    exact ⟨ret_bool (digI_f (by omega)).symm, rfl⟩
  · go_enter Tryd.func43, Tryd.ntmps43
    go_wp2
    go_ret
    exact ⟨ret_bool (digI_t (by omega)).symm, rfl⟩
  · have g57 : decide (c ≤ 57) = false := by simp; omega
    go_enter Tryd.func43, Tryd.ntmps43
    go_wp2
    go_ret
    exact ⟨ret_bool (digI_f (by omega)).symm, rfl⟩

set_option maxHeartbeats 400000 in
theorem IsLetter_any (c : Int) (h0 : 0 ≤ c) (h1 : c ≤ 255) (w : World) :
    Calls Tryd.prog 44 #[.int .u8 c] w fun e w' => e = .returned (.bool (lettI c)) ∧ w' = w := by
  rcases (show c < 65 ∨ (65 ≤ c ∧ c ≤ 90) ∨ (90 < c ∧ c < 97) ∨ (97 ≤ c ∧ c ≤ 122) ∨ 122 < c by omega) with h | ⟨h, h'⟩ | ⟨h, h'⟩ | ⟨h, h'⟩ | h
  · go_enter Tryd.func44, Tryd.ntmps44
    go_wp2
    go_ret
    exact ⟨ret_bool (lettI_f (by omega)).symm, rfl⟩
  · go_enter Tryd.func44, Tryd.ntmps44
    go_wp2
    go_ret
    exact ⟨ret_bool (lettI_t (by omega)).symm, rfl⟩
  · have g90 : decide (c ≤ 90) = false := by simp; omega
    go_enter Tryd.func44, Tryd.ntmps44
    go_wp2
    go_ret
    exact ⟨ret_bool (lettI_f (by omega)).symm, rfl⟩
  · have g90 : decide (c ≤ 90) = false := by simp; omega
    go_enter Tryd.func44, Tryd.ntmps44
    go_wp2
    go_ret
    exact ⟨ret_bool (lettI_t (by omega)).symm, rfl⟩
  · have g90 : decide (c ≤ 90) = false := by simp; omega
    have g122 : decide (c ≤ 122) = false := by simp; omega
    go_enter Tryd.func44, Tryd.ntmps44
    go_wp2
    go_ret
    exact ⟨ret_bool (lettI_f (by omega)).symm, rfl⟩

set_option maxHeartbeats 400000 in
theorem digitValue_any (c : Int) (h0 : 0 ≤ c) (h1 : c ≤ 255) (w : World) :
    Calls Tryd.prog 62 #[.int .u8 c] w fun e w' => e = .returned (.int .i64 (valI c)) ∧ w' = w := by
  rcases (show c < 48 ∨ (48 ≤ c ∧ c ≤ 57) ∨ (57 < c ∧ c < 65) ∨ (65 ≤ c ∧ c ≤ 70) ∨ (70 < c ∧ c < 97) ∨ (97 ≤ c ∧ c ≤ 102) ∨ 102 < c by omega) with h | ⟨h, h'⟩ | ⟨h, h'⟩ | ⟨h, h'⟩ | ⟨h, h'⟩ | ⟨h, h'⟩ | h
  · go_enter Tryd.func62, Tryd.ntmps62
    go_wp2
    go_ret
    exact ⟨ret_int (valI_n (hexI_f (by omega))).symm, rfl⟩
  · go_enter Tryd.func62, Tryd.ntmps62
    go_wp2
    go_ret
    exact ⟨ret_int (by rw [valI_d (by omega)]), rfl⟩
  · have g57 : decide (c ≤ 57) = false := by simp; omega
    go_enter Tryd.func62, Tryd.ntmps62
    go_wp2
    go_ret
    exact ⟨ret_int (valI_n (hexI_f (by omega))).symm, rfl⟩
  · have g57 : decide (c ≤ 57) = false := by simp; omega
    go_enter Tryd.func62, Tryd.ntmps62
    go_wp2
    go_ret
    exact ⟨ret_int (by rw [valI_b (by omega)]; omega), rfl⟩
  · have g57 : decide (c ≤ 57) = false := by simp; omega
    have g70 : decide (c ≤ 70) = false := by simp; omega
    go_enter Tryd.func62, Tryd.ntmps62
    go_wp2
    go_ret
    exact ⟨ret_int (valI_n (hexI_f (by omega))).symm, rfl⟩
  · have g57 : decide (c ≤ 57) = false := by simp; omega
    go_enter Tryd.func62, Tryd.ntmps62
    go_wp2
    go_ret
    exact ⟨ret_int (by rw [valI_s (by omega)]; omega), rfl⟩
  · have g57 : decide (c ≤ 57) = false := by simp; omega
    have g70 : decide (c ≤ 70) = false := by simp; omega
    have g102 : decide (c ≤ 102) = false := by simp; omega
    go_enter Tryd.func62, Tryd.ntmps62
    go_wp2
    go_ret
    exact ⟨ret_int (valI_n (hexI_f (by omega))).symm, rfl⟩

set_option maxHeartbeats 400000 in
theorem IsByte_any (c : Int) (h0 : 0 ≤ c) (h1 : c ≤ 255) (w : World) :
    Calls Tryd.prog 42 #[.int .u8 c] w fun e w' => e = .returned (.bool (fieldI c)) ∧ w' = w := by
  rcases (show c = 9 ∨ c = 127 ∨ (c ≠ 9 ∧ c < 32) ∨ (32 ≤ c ∧ c ≠ 127) by omega) with rfl | rfl | ⟨h, h'⟩ | ⟨h, h'⟩
  · go_enter Tryd.func42, Tryd.ntmps42
    go_wp2
    go_ret
    exact ⟨ret_bool (by decide), rfl⟩
  · go_enter Tryd.func42, Tryd.ntmps42
    go_wp2
    go_ret
    exact ⟨ret_bool (by decide), rfl⟩
  · have g1 : (c == 9) = false := by simp; omega
    go_enter Tryd.func42, Tryd.ntmps42
    go_wp2
    go_ret
    exact ⟨ret_bool (fieldI_f (by omega)).symm, rfl⟩
  · have g1 : (c == 9) = false := by simp; omega
    have g2 : (c != 127) = true := by simp; omega
    go_enter Tryd.func42, Tryd.ntmps42
    go_wp2
    go_ret
    exact ⟨ret_bool (fieldI_t (by omega)).symm, rfl⟩

set_option maxHeartbeats 400000 in
theorem IsSign_any (c : Int) (h0 : 0 ≤ c) (h1 : c ≤ 255) (w : World) :
    Calls Tryd.prog 32 #[.int .u8 c] w fun e w' => e = .returned (.bool (tokI c)) ∧ w' = w := by
  cases hd : digI c with
  | true =>
    go_enter Tryd.func32, Tryd.ntmps32
    go_wp2_with (go_at_call 43; refine (IsDigit_any _ h0 h1 _).mono ?_; rintro e w' ⟨rfl, rfl⟩)
    go_ret
    exact ⟨ret_bool (tokI_of_dig hd).symm, rfl⟩
  | false =>
    cases hl : lettI c with
    | true =>
      go_enter Tryd.func32, Tryd.ntmps32
      go_wp2_with (first | (go_at_call 43; refine (IsDigit_any _ h0 h1 _).mono ?_; rintro e w' ⟨rfl, rfl⟩) | (go_at_call 44; refine (IsLetter_any _ h0 h1 _).mono ?_; rintro e w' ⟨rfl, rfl⟩))
      go_ret
      exact ⟨ret_bool (tokI_of_lett hl).symm, rfl⟩
    | false =>
      go_enter Tryd.func32, Tryd.ntmps32
      go_wp2_with (first | (go_at_call 43; refine (IsDigit_any _ h0 h1 _).mono ?_; rintro e w' ⟨rfl, rfl⟩) | (go_at_call 44; refine (IsLetter_any _ h0 h1 _).mono ?_; rintro e w' ⟨rfl, rfl⟩))
      go_loop [4] (fun i => ∃ k : Nat, k ≤ 15 ∧ i = .int .i64 k ∧ ∀ j, j < k → ((signs.getD j 0).toNat : Int) ≠ c) (fun i => 15 - (intOf i).toNat)
      case atStart => exact ⟨0, by omega, rfl, fun j hj => by omega⟩
      case round =>
        obtain ⟨k, hk, rfl, hno⟩ := hrel
        by_cases hlt : k < 15
        · go_wp2
          · have hit : ((⟨#[33, 35, 36, 37, 38, 39, 42, 43, 45, 46, 94, 95, 96, 124, 126]⟩ : ByteArray)[k].toNat == c) = true := by assumption
            go_ret
            exact ⟨ret_bool (tokI_of_sign k hlt (by rw [signs_at k hlt]; exact eq_of_beq hit)).symm, rfl⟩
          · have miss : ((⟨#[33, 35, 36, 37, 38, 39, 42, 43, 45, 46, 94, 95, 96, 124, 126]⟩ : ByteArray)[k].toNat == c) = false := by assumption
            go_round
            case rel =>
              refine ⟨k + 1, by omega, by go_num, fun j hj => ?_⟩
              by_cases hjk : j = k
              · subst hjk
                rw [signs_at j hlt]
                exact beq_eq_false_iff_ne.1 miss
              · exact hno j (by omega)
            case measure => simp [intOf]; omega
        · go_wp2
          go_ret
          exact ⟨ret_bool (tokI_none hd hl (fun j hj => hno j (by omega))).symm, rfl⟩

end Oc
end Go.Proofs.YtmgadjnllahbiaaDoor
