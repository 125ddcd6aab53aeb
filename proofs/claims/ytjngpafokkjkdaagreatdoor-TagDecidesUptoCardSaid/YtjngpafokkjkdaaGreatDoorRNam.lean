/-
  The document's names, digits, patterns.
-/
import Derived.Test.YtjngpafokkjkdaaGreatDoorRSpl
set_option linter.unusedVariables false
set_option linter.unusedSimpArgs false
namespace Go.Proofs.YtjngpafokkjkdaaGreatDoor
open Go.RowKit
namespace Bs

set_option maxHeartbeats 1000000 in
theorem rLongName_any (k : Nat) (hk : k < 7) (w : World) :
    Calls Tryz.prog 74 #[.int .i64 (k : Int)] w fun e w' => e = .returned (.string (str (longs.getD k []))) ∧ Below w.heap.size w w' := by
  rcases (by omega : k = 0 ∨ k = 1 ∨ k = 2 ∨ k = 3 ∨ k = 4 ∨ k = 5 ∨ k = 6) with rfl | rfl | rfl | rfl | rfl | rfl | rfl
  all_goals
    go_enter Tryz.func74, Tryz.ntmps74
    go_wp2
    go_ret
    exact ⟨rfl, ((But.refl [] _).alloc _).to_below⟩

theorem short_long : ∀ k : Fin 7, (longs.getD k.val []).take 3 = shorts.getD k.val [] := by decide
theorem str_cut (l : List UInt8) (a b : Nat) : (str l).extract a b = str ((l.take b).drop a) := by
  apply eq_list
  rw [str_list]
  simp [str, ByteArray.data_extract, List.drop_take]

set_option maxHeartbeats 1000000 in
theorem rShortName_any (k : Nat) (hk : k < 7) (w : World) :
    Calls Tryz.prog 73 #[.int .i64 (k : Int)] w fun e w' => e = .returned (.string (str (shorts.getD k []))) ∧ Below w.heap.size w w' := by
  have HL : Hid (Calls Tryz.prog 74 #[.int .i64 (k : Int)] w fun e w' => e = .returned (.string (str (longs.getD k []))) ∧ Below w.heap.size w w') := rLongName_any k hk w
  have hz : 3 ≤ (str (longs.getD k [])).size := by rw [str_size]; have := longs_n' hk; omega
  have HE : Hid ((str (longs.getD k [])).extract 0 3 = str (shorts.getD k [])) := (by rw [str_cut]; exact congrArg str (short_long ⟨k, hk⟩) : _ = _)
  generalize str (longs.getD k []) = S at *
  go_enter Tryz.func73, Tryz.ntmps73
  go_wp2_with fail
  refine Calls.mono HL.out ?_
  rintro e w1 ⟨rfl, b1⟩
  have HB : Hid (Below w.heap.size w w1) := b1
  clear b1
  go_wp2
  go_ret
  exact ⟨ret_string HE.out, HB.out⟩

set_option maxHeartbeats 1000000 in
theorem rMonthName_any (k : Nat) (hk : k < 12) (w : World) :
    Calls Tryz.prog 99 #[.int .i64 (k : Int)] w fun e w' => e = .returned (.string (str (mons.getD k []))) ∧ w' = w := by
  rcases (by omega : k = 0 ∨ k = 1 ∨ k = 2 ∨ k = 3 ∨ k = 4 ∨ k = 5 ∨ k = 6 ∨ k = 7 ∨ k = 8 ∨ k = 9 ∨ k = 10 ∨ k = 11) with rfl | rfl | rfl | rfl | rfl | rfl | rfl | rfl | rfl | rfl | rfl | rfl
  all_goals
    go_enter Tryz.func99, Tryz.ntmps99
    go_wp2
    go_ret
    exact ⟨rfl, rfl⟩

def patL (form : Int) : List UInt8 := if form = 0 then [119, 44, 32, 100, 32, 109, 32, 121, 32, 104, 58, 105, 58, 115, 32, 71, 77, 84] else if form = 1 then [108, 44, 32, 100, 45, 109, 45, 99, 32, 104, 58, 105, 58, 115, 32, 71, 77, 84] else [119, 32, 109, 32, 101, 32, 104, 58, 105, 58, 115, 32, 121]
theorem patL_len (form : Int) : (patL form).length ≤ 18 := by
  unfold patL
  split
  · decide
  · split <;> decide

set_option maxHeartbeats 1000000 in
theorem rpattern_any (form : Int) (hf : I64 form) (w : World) :
    Calls Tryz.prog 75 #[.int .i64 form] w fun e w' => e = .returned (.string (str (patL form))) ∧ w' = w := by
  unfold patL
  by_cases h0 : form = 0
  · subst h0
    go_enter Tryz.func75, Tryz.ntmps75
    go_wp2
    go_ret
    exact ⟨rfl, rfl⟩
  by_cases h1 : form = 1
  · subst h1
    go_enter Tryz.func75, Tryz.ntmps75
    go_wp2
    go_ret
    exact ⟨rfl, rfl⟩
  · have e0 : (form == 0) = false := by simp [h0]
    have e1 : (form == 1) = false := by simp [h1]
    rw [if_neg h0, if_neg h1]
    go_enter Tryz.func75, Tryz.ntmps75
    go_wp2
    go_ret
    exact ⟨rfl, rfl⟩

/- Digits. -/
def lowd (n : Nat) : Nat → List UInt8
  | 0 => []
  | i + 1 => dg (n / 10 ^ i) :: lowd n i
theorem lowd_len (n : Nat) : ∀ i, (lowd n i).length = i
  | 0 => rfl
  | i + 1 => by
    unfold lowd
    rw [List.length_cons, lowd_len n i]
theorem lowd_2 (n : Nat) : lowd n 2 = d2 n := by simp [lowd, d2]
theorem lowd_1 (n : Nat) : lowd n 1 = [dg n] := by simp [lowd]
theorem lowd_4 (n : Nat) : lowd n 4 = d4 n := by simp [lowd, d4]

end Bs
end Go.Proofs.YtjngpafokkjkdaaGreatDoor
