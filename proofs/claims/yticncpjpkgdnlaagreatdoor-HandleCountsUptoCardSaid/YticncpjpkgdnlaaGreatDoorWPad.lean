/-
  Numbers in so many digits.
-/
import Derived.Test.YticncpjpkgdnlaaGreatDoorMgP
import Derived.Test.YticncpjpkgdnlaaGreatDoorMgC
import Derived.BigQuiet
import Derived.Deep.QuietTactic
import Derived.Test.YticncpjpkgdnlaaGreatDoorMgQ
set_option linter.unusedVariables false
set_option linter.unusedSimpArgs false
namespace Go.Proofs.YticncpjpkgdnlaaGreatDoor
open Go.RowKit Go.Shelf
open Go.Sort (grow)
namespace Bs
theorem str_app (a b : List UInt8) : str a ++ str b = str (a ++ b) := by
  apply ByteArray.ext
  rw [ByteArray.data_append]
  simp [str]

theorem dec1 {n : Nat} (h : n < 10) : Lib.decDigits n = [dg n] := by
  rw [Lib.decDigits, dif_pos h]
  unfold dg
  rw [Nat.mod_eq_of_lt h]
theorem dec_step {n : Nat} (h : 10 ≤ n) : Lib.decDigits n = Lib.decDigits (n / 10) ++ [dg n] := by
  conv => lhs; rw [Lib.decDigits, dif_neg (by omega)]
  rfl
theorem dec2 {n : Nat} (h : 10 ≤ n) (h2 : n < 100) : Lib.decDigits n = d2 n := by
  rw [dec_step h, dec1 (by omega)]
  rfl
theorem dec3 {n : Nat} (h : 100 ≤ n) (h2 : n < 1000) : Lib.decDigits n = [dg (n / 100), dg (n / 10), dg n] := by
  rw [dec_step (by omega), dec2 (by omega) (by omega)]
  unfold d2
  rw [Nat.div_div_eq_div_mul]
  rfl
theorem dec4 {n : Nat} (h : 1000 ≤ n) (h2 : n < 10000) : Lib.decDigits n = d4 n := by
  rw [dec_step (by omega), dec3 (by omega) (by omega)]
  unfold d4
  rw [Nat.div_div_eq_div_mul, Nat.div_div_eq_div_mul]
  rfl
theorem dg_zero {n : Nat} (h : n = 0) : dg n = 48 := by subst h; rfl

set_option maxHeartbeats 400000 in
theorem Digits_small (n : Nat) (h : n < 100) (w : World) :
    Calls Tryz.prog 38 #[.int .i64 (n : Int)] w fun e w' => e = .returned (.string (str (Lib.decDigits n))) ∧ w' = w := by
  have HC : Hid (Calls Tryz.prog 73 #[.int .i64 (n : Int)] w fun e w' => e = .returned (.string (str (Lib.decDigits n))) ∧ w' = w) := Tryz.strconv_Itoa_small n h w
  go_enter Tryz.func38, Tryz.ntmps38
  go_wp2_with fail
  refine Calls.mono HC.out ?_
  rintro e w' ⟨rfl, rfl⟩
  go_wp2
  go_ret
  exact ⟨rfl, rfl⟩

set_option maxHeartbeats 400000 in
theorem Digits_any (n : Nat) (h : n < 10000) (w : World) (tb : Tb w) :
    Calls Tryz.prog 38 #[.int .i64 (n : Int)] w fun e w' => e = .returned (.string (str (Lib.decDigits n))) ∧ Below w.heap.size w w' := by
  have hi : Lib.itoa (n : Int) = Lib.decDigits n := by
    unfold Lib.itoa
    rw [if_neg (by omega)]
    rfl
  have hcon := Tryz.strconv_Itoa (n : Int) (by omega) (by omega) w tb.pw
  rw [hi] at hcon
  have HC : Hid (Calls Tryz.prog 73 #[.int .i64 (n : Int)] w fun e w' => e = .returned (.string (str (Lib.decDigits n))) ∧ ∃ k os, w' = grow (w.drewN k) os) := hcon
  clear hcon tb
  go_enter Tryz.func38, Tryz.ntmps38
  go_wp2_with fail
  refine Calls.mono HC.out ?_
  rintro e w' ⟨rfl, k, os, rfl⟩
  go_wp2
  go_ret
  exact ⟨rfl, Lib.below_grow _ w (Nat.le_refl _) k os⟩

set_option maxHeartbeats 800000 in
theorem padded2_any (n : Nat) (h : n < 100) (c : UInt8) (w : World) :
    Calls Tryz.prog 211 #[.int .i64 (n : Int), .int .i64 2, .string (str [c])] w fun e w' => e = .returned (.string (str (p2 c n))) ∧ w' = w := by
  have HD : Hid (Calls Tryz.prog 38 #[.int .i64 (n : Int)] w fun e w' => e = .returned (.string (str (Lib.decDigits n))) ∧ w' = w) := Digits_small n h w
  by_cases h1 : n < 10
  · rw [dec1 h1] at HD
    have HR : Hid (Calls Tryz.prog 261 #[.string (str [c]), .int .i64 1] w fun e w' => e = .returned (.string (str [c])) ∧ w' = w) := Tryz.strings_Repeat_one (str [c]) w
    have z1 : (str [dg n]).size = 1 := by rw [str_size]; rfl
    have z2 : (str [c]).size + (str [dg n]).size ≤ 100 := by rw [str_size, str_size]; simp
    have HA : Hid (str [c] ++ str [dg n] = str (p2 c n)) := (by rw [str_app]; unfold p2; rw [if_pos h1]; rfl : str [c] ++ str [dg n] = str (p2 c n))
    generalize str [dg n] = X at *
    go_enter Tryz.func211, Tryz.ntmps211
    go_wp2_with fail
    refine Calls.mono HD.out ?_
    rintro e w' ⟨rfl, rfl⟩
    go_wp2_with fail
    refine Calls.mono HR.out ?_
    rintro e w' ⟨rfl, rfl⟩
    go_wp2
    go_ret
    exact ⟨ret_string HA.out, rfl⟩
  · rw [dec2 (by omega) h] at HD
    have HR : Hid (Calls Tryz.prog 261 #[.string (str [c]), .int .i64 0] w fun e w' => e = .returned (.string ⟨#[]⟩) ∧ w' = w) := Tryz.strings_Repeat_zero (str [c]) w
    have z1 : (str (d2 n)).size = 2 := by rw [str_size]; rfl
    have z2 : (⟨#[]⟩ : ByteArray).size + (str (d2 n)).size ≤ 100 := by rw [z1]; decide
    have HA : Hid ((⟨#[]⟩ : ByteArray) ++ str (d2 n) = str (p2 c n)) := (by rw [show (⟨#[]⟩ : ByteArray) = str [] from rfl, str_app]; unfold p2; rw [if_neg h1]; rfl : (⟨#[]⟩ : ByteArray) ++ str (d2 n) = str (p2 c n))
    generalize str (d2 n) = X at *
    go_enter Tryz.func211, Tryz.ntmps211
    go_wp2_with fail
    refine Calls.mono HD.out ?_
    rintro e w' ⟨rfl, rfl⟩
    go_wp2_with fail
    refine Calls.mono HR.out ?_
    rintro e w' ⟨rfl, rfl⟩
    go_wp2
    go_ret
    exact ⟨ret_string HA.out, rfl⟩

theorem rep4 (k : Nat) (hk : k ≤ 3) (w : World) : Calls Tryz.prog 261 #[.string (str [48]), .int .i64 (k : Int)] w fun e w' => e = .returned (.string (str (List.replicate k 48))) ∧ Below w.heap.size w w' := by
  rcases (by omega : k = 0 ∨ k = 1 ∨ k = 2 ∨ k = 3) with rfl | rfl | rfl | rfl
  · exact (Tryz.strings_Repeat_zero (str [48]) w).mono (by rintro e w' ⟨rfl, rfl⟩; exact ⟨rfl, Below.refl _ _⟩)
  · exact (Tryz.strings_Repeat_one (str [48]) w).mono (by rintro e w' ⟨rfl, rfl⟩; exact ⟨rfl, Below.refl _ _⟩)
  · exact (Tryz.strings_Repeat_main (str [48]) 2 w (by decide) (by decide) (by decide) (by decide)).mono (by rintro e w' ⟨rfl, hb⟩; exact ⟨rfl, hb⟩)
  · exact (Tryz.strings_Repeat_main (str [48]) 3 w (by decide) (by decide) (by decide) (by decide)).mono (by rintro e w' ⟨rfl, hb⟩; exact ⟨rfl, hb⟩)

theorem d4_pad {n : Nat} (h : n < 10000) : List.replicate (4 - (Lib.decDigits n).length) 48 ++ Lib.decDigits n = d4 n ∧ 1 ≤ (Lib.decDigits n).length ∧ (Lib.decDigits n).length ≤ 4 := by
  rcases (by omega : n < 10 ∨ (10 ≤ n ∧ n < 100) ∨ (100 ≤ n ∧ n < 1000) ∨ 1000 ≤ n) with h1 | ⟨h1, h2⟩ | ⟨h1, h2⟩ | h1
  · rw [dec1 h1]
    unfold d4
    rw [dg_zero (n := n / 1000) (by omega), dg_zero (n := n / 100) (by omega), dg_zero (n := n / 10) (by omega)]
    exact ⟨rfl, by simp, by simp⟩
  · rw [dec2 h1 h2]
    unfold d4 d2
    rw [dg_zero (n := n / 1000) (by omega), dg_zero (n := n / 100) (by omega)]
    exact ⟨rfl, by simp, by simp⟩
  · rw [dec3 h1 h2]
    unfold d4
    rw [dg_zero (n := n / 1000) (by omega)]
    exact ⟨rfl, by simp, by simp⟩
  · rw [dec4 h1 h]
    exact ⟨rfl, by simp [d4], by simp [d4]⟩

set_option maxHeartbeats 800000 in
theorem padded4_any (n : Nat) (h : n < 10000) (w : World) (tb : Tb w) :
    Calls Tryz.prog 211 #[.int .i64 (n : Int), .int .i64 4, .string (str [48])] w fun e w' => e = .returned (.string (str (d4 n))) ∧ Below w.heap.size w w' := by
  obtain ⟨e4, l1, l2⟩ := d4_pad h
  have HD : Hid (Calls Tryz.prog 38 #[.int .i64 (n : Int)] w fun e w' => e = .returned (.string (str (Lib.decDigits n))) ∧ Below w.heap.size w w') := Digits_any n h w tb
  have hz := str_size (Lib.decDigits n)
  have HA : Hid (str (List.replicate (4 - (Lib.decDigits n).length) 48) ++ str (Lib.decDigits n) = str (d4 n)) := (by rw [str_app, e4] : _ = _)
  generalize (Lib.decDigits n).length = L at *
  obtain ⟨k, hk⟩ : ∃ k : Nat, 4 - L = k := ⟨_, rfl⟩
  rw [hk] at HA
  have hk' : (4 : Int) - (L : Int) = (k : Int) := by omega
  have HR : Hid (∀ w, Calls Tryz.prog 261 #[.string (str [48]), .int .i64 (k : Int)] w fun e w' => e = .returned (.string (str (List.replicate k 48))) ∧ Below w.heap.size w w') := fun w => rep4 k (by omega) w
  have zk : (str (List.replicate k 48)).size = k := by rw [str_size, List.length_replicate]
  have z2 : (str (List.replicate k 48)).size + (str (Lib.decDigits n)).size ≤ 100 := by omega
  clear tb e4
  generalize str (Lib.decDigits n) = X at *
  generalize str (List.replicate k 48) = Y at *
  have hmx : max (k : Int) 0 = (k : Int) := by omega
  go_enter Tryz.func211, Tryz.ntmps211
  go_wp2_with fail
  refine Calls.mono HD.out ?_
  rintro e w1 ⟨rfl, b1⟩
  have HB1 : Hid (Below w.heap.size w w1) := b1
  clear b1
  go_wp2_with fail
  refine (HR.out _).mono ?_
  rintro e w2 ⟨rfl, b2⟩
  have HB2 : Hid (Below w.heap.size w w2) := bel_trans HB1.out b2
  clear b2
  go_wp2
  go_ret
  exact ⟨ret_string HA.out, HB2.out⟩

end Bs
end Go.Proofs.YticncpjpkgdnlaaGreatDoor
