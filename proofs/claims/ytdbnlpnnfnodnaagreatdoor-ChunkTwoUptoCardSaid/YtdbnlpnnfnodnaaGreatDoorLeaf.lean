/-
  Contracts of octet's small functions on bytes, and of the document's.
-/
import Derived.Test.YtdbnlpnnfnodnaaGreatDoorPlain
import Derived.Test.YtdbnlpnnfnodnaaGreatDoorRows
import Derived.WalkKit
import Derived.WalkSpells
import Derived.WalkLawsBesides
set_option linter.unusedVariables false
set_option linter.unusedSimpArgs false
namespace Go.Proofs.YtdbnlpnnfnodnaaGreatDoor
open Go.RowKit
namespace Oc

theorem ret_int {k : IntKind} {a b : Int} (h : a = b) : Ending.returned (.int k a) = .returned (.int k b) := by rw [h]
theorem ret_bool {a b : Bool} (h : a = b) : Ending.returned (.bool a) = .returned (.bool b) := by rw [h]

/-- The table of the signs of tokens lies where it was laid. -/
structure Tab (w : World) : Prop where
  lt : 1 < w.heap.size
  c0 : w.cell? ⟨1, 0, none⟩ = some (.int .u64 288068722172624896)
  c1 : w.cell? ⟨1, 1, none⟩ = some (.int .u64 6341068274398134270)
  c2 : w.cell? ⟨1, 2, none⟩ = some (.int .u64 0)
  c3 : w.cell? ⟨1, 3, none⟩ = some (.int .u64 0)

theorem tab_mk {w : World} (c0 : w.cell? ⟨1, 0, none⟩ = some (.int .u64 288068722172624896)) (c1 : w.cell? ⟨1, 1, none⟩ = some (.int .u64 6341068274398134270))
    (c2 : w.cell? ⟨1, 2, none⟩ = some (.int .u64 0)) (c3 : w.cell? ⟨1, 3, none⟩ = some (.int .u64 0)) : Tab w := by
  refine ⟨?_, c0, c1, c2, c3⟩
  rcases Nat.lt_or_ge 1 w.heap.size with h | h
  · exact h
  · simp [World.cell?, Array.getElem?_eq_none h] at c0

theorem Tab.below {B : Nat} {w w' : World} (h : Tab w) (b : Below B w w') (hB : w.heap.size ≤ B) : Tab w' := by
  have hl := h.lt
  have hs := b.size
  exact ⟨by omega, by rw [b.cell (show 1 < B by omega)]; exact h.c0, by rw [b.cell (show 1 < B by omega)]; exact h.c1, by rw [b.cell (show 1 < B by omega)]; exact h.c2, by rw [b.cell (show 1 < B by omega)]; exact h.c3⟩

set_option maxHeartbeats 400000 in
theorem lowerByte_any (c : Int) (h0 : 0 ≤ c) (h1 : c ≤ 255) (w : World) :
    Calls Tryz.prog 138 #[.int .u8 c] w fun e w' => e = .returned (.int .u8 (lowI c)) ∧ w' = w := by
  by_cases a : 65 ≤ c
  · by_cases b : c ≤ 90
    · go_enter Tryz.func138, Tryz.ntmps138
      go_wp2
      go_ret
      exact ⟨ret_int (by rw [lowI_up a b]; omega), rfl⟩
    · go_enter Tryz.func138, Tryz.ntmps138
      go_wp2
      go_ret
      exact ⟨ret_int (by rw [lowI_not (by omega)]), rfl⟩
  · go_enter Tryz.func138, Tryz.ntmps138
    go_wp2
    go_ret
    exact ⟨ret_int (by rw [lowI_not (by omega)]), rfl⟩

set_option maxHeartbeats 400000 in
theorem isFieldByte_any (c : Int) (h0 : 0 ≤ c) (h1 : c ≤ 255) (w : World) :
    Calls Tryz.prog 84 #[.int .u8 c] w fun e w' => e = .returned (.bool (fieldI c)) ∧ w' = w := by
  by_cases a : c = 9
  · subst a
    go_enter Tryz.func84, Tryz.ntmps84
    go_wp2
    go_ret
    exact ⟨ret_bool (by decide), rfl⟩
  · have a' : (c == 9) = false := by simp [a]
    by_cases b : 32 ≤ c
    · by_cases d : c = 127
      · subst d
        go_enter Tryz.func84, Tryz.ntmps84
        go_wp2
        go_ret
        exact ⟨ret_bool (by decide), rfl⟩
      · have d' : (c != 127) = true := by simp [d]
        go_enter Tryz.func84, Tryz.ntmps84
        go_wp2
        go_ret
        exact ⟨ret_bool (by unfold fieldI; simp; omega), rfl⟩
    · go_enter Tryz.func84, Tryz.ntmps84
      go_wp2
      go_ret
      exact ⟨ret_bool (by unfold fieldI; simp; omega), rfl⟩

set_option maxHeartbeats 400000 in
theorem isTokenSign_any (c : Int) (h0 : 0 ≤ c) (h1 : c ≤ 255) (w : World) (t : Tab w) :
    Calls Tryz.prog 83 #[.int .u8 c] w fun e w' => e = .returned (.bool (tokI c)) ∧ w' = w := by
  obtain ⟨tl, t0, t1, t2, t3⟩ := t
  by_cases a : c < 64
  · have q : c / 64 = 0 := by omega
    have r : c % 64 = c := by omega
    go_enter Tryz.func83, Tryz.ntmps83
    go_wp2
    go_ret
    obtain ⟨n, rfl⟩ := Int.eq_ofNat_of_zero_le h0
    exact ⟨ret_bool (tok_word0 n (by omega)).symm, rfl⟩
  · by_cases b : c < 128
    · have q : c / 64 = 1 := by omega
      have r : c % 64 = c - 64 := by omega
      go_enter Tryz.func83, Tryz.ntmps83
      go_wp2
      go_ret
      obtain ⟨n, e⟩ := Int.eq_ofNat_of_zero_le (show 0 ≤ c - 64 by omega)
      obtain rfl : c = ((n + 64 : Nat) : Int) := by omega
      rw [e]
      exact ⟨ret_bool (tok_word1 n (by omega)).symm, rfl⟩
    · rw [tok_beyond (by omega)]
      by_cases d : c < 192
      · have q : c / 64 = 2 := by omega
        go_enter Tryz.func83, Tryz.ntmps83
        go_wp2
        go_ret
        exact ⟨ret_bool bits_zero, rfl⟩
      · have q : c / 64 = 3 := by omega
        go_enter Tryz.func83, Tryz.ntmps83
        go_wp2
        go_ret
        exact ⟨ret_bool bits_zero, rfl⟩

set_option maxHeartbeats 400000 in
theorem digitValue_any (c : Int) (h0 : 0 ≤ c) (h1 : c ≤ 255) (w : World) :
    Calls Tryz.prog 114 #[.int .u8 c] w fun e w' => e = .returned (.int .i64 (valI c)) ∧ w' = w := by
  rcases (show c < 48 ∨ (48 ≤ c ∧ c ≤ 57) ∨ (57 < c ∧ c < 65) ∨ (65 ≤ c ∧ c ≤ 70) ∨ (70 < c ∧ c < 97) ∨ (97 ≤ c ∧ c ≤ 102) ∨ 102 < c by omega) with h | ⟨h, h'⟩ | ⟨h, h'⟩ | ⟨h, h'⟩ | ⟨h, h'⟩ | ⟨h, h'⟩ | h
  · go_enter Tryz.func114, Tryz.ntmps114
    go_wp2
    go_ret
    exact ⟨ret_int (valI_n (hexI_f (by omega))).symm, rfl⟩
  · go_enter Tryz.func114, Tryz.ntmps114
    go_wp2
    go_ret
    exact ⟨ret_int (by rw [valI_d (by omega)]), rfl⟩
  · have g57 : decide (c ≤ 57) = false := by simp; omega
    go_enter Tryz.func114, Tryz.ntmps114
    go_wp2
    go_ret
    exact ⟨ret_int (valI_n (hexI_f (by omega))).symm, rfl⟩
  · have g57 : decide (c ≤ 57) = false := by simp; omega
    go_enter Tryz.func114, Tryz.ntmps114
    go_wp2
    go_ret
    exact ⟨ret_int (by rw [valI_b (by omega)]; omega), rfl⟩
  · have g57 : decide (c ≤ 57) = false := by simp; omega
    have g70 : decide (c ≤ 70) = false := by simp; omega
    go_enter Tryz.func114, Tryz.ntmps114
    go_wp2
    go_ret
    exact ⟨ret_int (valI_n (hexI_f (by omega))).symm, rfl⟩
  · have g57 : decide (c ≤ 57) = false := by simp; omega
    go_enter Tryz.func114, Tryz.ntmps114
    go_wp2
    go_ret
    exact ⟨ret_int (by rw [valI_s (by omega)]; omega), rfl⟩
  · have g57 : decide (c ≤ 57) = false := by simp; omega
    have g70 : decide (c ≤ 70) = false := by simp; omega
    have g102 : decide (c ≤ 102) = false := by simp; omega
    go_enter Tryz.func114, Tryz.ntmps114
    go_wp2
    go_ret
    exact ⟨ret_int (valI_n (hexI_f (by omega))).symm, rfl⟩

end Oc
end Go.Proofs.YtdbnlpnnfnodnaaGreatDoor
