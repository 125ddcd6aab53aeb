/-
  Which form; the year of two digits.
-/
import Derived.Test.YtjngpafokkjkdaaGreatDoorTNm
set_option linter.unusedVariables false
set_option linter.unusedSimpArgs false
namespace Go.Proofs.YtjngpafokkjkdaaGreatDoor
open Go.RowKit
namespace Bs

theorem str_app (a b : List UInt8) : str a ++ str b = str (a ++ b) := by
  apply eq_list
  simp [str]

set_option maxRecDepth 100000 in
set_option maxHeartbeats 1000000 in
theorem formOf_any (l : List UInt8) (w : World) (tb : Tb w) :
    Calls Tryz.prog 61 #[.string (str l)] w fun e w' => e = .returned (.int .i64 (formS l)) ∧ w' = w := by
  have HTB : Hid (Tb w) := tb
  clear tb
  go_enter Tryz.func61, Tryz.ntmps61
  go_wp2
  go_loop [4] (fun i => ∃ k : Nat, k ≤ 7 ∧ i = .int .i64 (k : Int) ∧ Hid (formF l (7 - k) k = formS l)) (fun i => 7 - (intOf i).toNat)
  case atStart => exact ⟨0, by omega, rfl, (rfl : formF l (7 - 0) 0 = formS l)⟩
  case round =>
    obtain ⟨k, hk, rfl, hf⟩ := hrel
    by_cases hkn : k < 7
    · have hst : formF l (7 - k) k = if hp l (shorts.getD k [] ++ [44]) then 0 else if hp l (longs.getD k [] ++ [44]) then 1 else formF l (7 - (k + 1)) (k + 1) := by
        rw [show 7 - k = (7 - (k + 1)) + 1 by omega]
        conv => lhs; unfold formF
      have cs := HTB.out.sd k hkn
      have cl := HTB.out.ld k hkn
      have z1 : (str (shorts.getD k [])).size ≤ 9 := by rw [str_size]; exact shorts_len k hkn
      have z2 : (str (longs.getD k [])).size ≤ 9 := by rw [str_size]; exact longs_len k hkn
      have z3 : (str (shorts.getD k [])).size + (⟨#[44]⟩ : ByteArray).size ≤ 100 := by have : (⟨#[44]⟩ : ByteArray).size = 1 := rfl; omega
      have z4 : (str (longs.getD k [])).size + (⟨#[44]⟩ : ByteArray).size ≤ 100 := by have : (⟨#[44]⟩ : ByteArray).size = 1 := rfl; omega
      have A1 : Hid (Calls Tryz.prog 89 #[.string (str l), .string (str (shorts.getD k []) ++ ⟨#[44]⟩)] w fun e w' => e = .returned (.bool (hp l (shorts.getD k [] ++ [44]))) ∧ w' = w) := (by
        rw [show (⟨#[44]⟩ : ByteArray) = str [44] from rfl, str_app]
        exact HasPrefix_any _ _ w : Calls Tryz.prog 89 #[.string (str l), .string (str (shorts.getD k []) ++ ⟨#[44]⟩)] w fun e w' => e = .returned (.bool (hp l (shorts.getD k [] ++ [44]))) ∧ w' = w)
      have A2 : Hid (Calls Tryz.prog 89 #[.string (str l), .string (str (longs.getD k []) ++ ⟨#[44]⟩)] w fun e w' => e = .returned (.bool (hp l (longs.getD k [] ++ [44]))) ∧ w' = w) := (by
        rw [show (⟨#[44]⟩ : ByteArray) = str [44] from rfl, str_app]
        exact HasPrefix_any _ _ w : Calls Tryz.prog 89 #[.string (str l), .string (str (longs.getD k []) ++ ⟨#[44]⟩)] w fun e w' => e = .returned (.bool (hp l (longs.getD k [] ++ [44]))) ∧ w' = w)
      rw [hf.out] at hst
      generalize hp l (shorts.getD k [] ++ [44]) = p1 at *
      generalize hp l (longs.getD k [] ++ [44]) = p2 at *
      have HST : Hid (_ = _) := hst
      clear hst
      generalize str (shorts.getD k []) = S1 at *
      generalize str (longs.getD k []) = S2 at *
      go_wp2_with fail
      refine Calls.mono A1.out ?_
      rintro e w' ⟨rfl, rfl⟩
      cases p1
      · go_wp2_with fail
        refine Calls.mono A2.out ?_
        rintro e w' ⟨rfl, rfl⟩
        cases p2
        · go_wp2
          exact ⟨⟨k + 1, by omega, by go_num, (HST.out.symm : formF l (7 - (k + 1)) (k + 1) = formS l)⟩, by simp [intOf]; omega⟩
        · go_wp2
          go_ret
          exact ⟨by rw [HST.out]; rfl, rfl⟩
      · go_wp2
        go_ret
        exact ⟨by rw [HST.out]; rfl, rfl⟩
    · obtain rfl : k = 7 := by omega
      go_wp2
      go_ret
      exact ⟨by rw [← hf.out]; rfl, rfl⟩

set_option maxHeartbeats 400000 in
theorem nearYear_any (c this : Int) (h0 : 0 ≤ c) (h1 : c ≤ 9999) (h2 : 0 ≤ this) (h3 : this ≤ 9999) (w : World) :
    Calls Tryz.prog 63 #[.int .i64 c, .int .i64 this] w fun e w' => e = .returned (.int .i64 (nearS c this)) ∧ w' = w := by
  have HM : Hid (Calls Tryz.prog 91 #[.int .i64 (c - (this - 49)), .int .i64 100] w fun e w' => e = .returned (.int .i64 ((c - (this - 49)) % 100)) ∧ w' = w) := modulo_any _ 100 ⟨by omega, by omega⟩ (by omega) (by omega) w
  have r := Int.emod_nonneg (c - (this - 49)) (show (100 : Int) ≠ 0 by omega)
  have r2 := Int.emod_lt_of_pos (c - (this - 49)) (show (0 : Int) < 100 by omega)
  unfold nearS
  go_enter Tryz.func63, Tryz.ntmps63
  go_wp2_with fail
  refine Calls.mono HM.out ?_
  rintro e w' ⟨rfl, rfl⟩
  go_wp2
  go_ret
  exact ⟨rfl, rfl⟩

end Bs
end Go.Proofs.YtjngpafokkjkdaaGreatDoor
