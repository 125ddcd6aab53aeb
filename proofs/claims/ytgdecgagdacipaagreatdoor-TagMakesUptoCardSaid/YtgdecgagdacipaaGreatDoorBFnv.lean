/-
  FNV, of the program and of the document.
-/
import Derived.Test.YtgdecgagdacipaaGreatDoorBEnc2
import Derived.Laws.Bits64
import Derived.Lib.EndianBits
set_option linter.unusedVariables false
set_option linter.unusedSimpArgs false
namespace Go.Proofs.YtgdecgagdacipaaGreatDoor
open Go.RowKit
namespace Bs
set_option maxRecDepth 100000

def fstep (h : Nat) (u : UInt8) : Nat := (h ^^^ u.toNat) * 1099511628211 % 18446744073709551616
def fnvR (l : List UInt8) : Nat := l.foldl fstep 14695981039346656037
theorem fstep_lt (h : Nat) (u : UInt8) : fstep h u < 18446744073709551616 := Nat.mod_lt _ (by decide)
theorem fold_lt : ∀ (l : List UInt8) (h : Nat), h < 18446744073709551616 → l.foldl fstep h < 18446744073709551616
  | [], h, hh => hh
  | u :: l, h, _ => fold_lt l _ (fstep_lt h u)
theorem fnvR_lt (l : List UInt8) : fnvR l < 18446744073709551616 := fold_lt l _ (by decide)
theorem fnvR_snoc (l : List UInt8) (k : Nat) (h : k < l.length) : fnvR (l.take (k + 1)) = fstep (fnvR (l.take k)) (l.getD k 0) := by
  rw [take_snoc l k h]
  unfold fnvR
  rw [List.foldl_append, List.foldl_cons, List.foldl_nil]
theorem unmul (z : Nat) : z * 1099511628211 % 18446744073709551616 * 14886173955864302971 % 18446744073709551616 = z % 18446744073709551616 := by
  rw [Nat.mul_mod, Nat.mod_mod, ← Nat.mul_mod, Nat.mul_assoc, show 1099511628211 * 14886173955864302971 = 1 + 18446744073709551616 * 887285111055 by decide, Nat.mul_add, Nat.mul_one, Nat.mul_left_comm, Nat.add_mul_mod_self_left]
theorem mul_inj {x y : Nat} (hx : x < 18446744073709551616) (hy : y < 18446744073709551616) (h : x * 1099511628211 % 18446744073709551616 = y * 1099511628211 % 18446744073709551616) : x = y := by
  have h1 := unmul x
  rw [h, unmul y, Nat.mod_eq_of_lt hx, Nat.mod_eq_of_lt hy] at h1
  exact h1.symm
theorem xor_lt {h : Nat} (u : UInt8) (hh : h < 18446744073709551616) : h ^^^ u.toNat < 18446744073709551616 := by
  have := u.toNat_lt
  exact Nat.xor_lt_two_pow (n := 64) hh (by omega)
theorem xor_left {a b c : Nat} (h : a ^^^ b = a ^^^ c) : b = c := by
  have : a ^^^ (a ^^^ b) = a ^^^ (a ^^^ c) := by rw [h]
  simpa [← Nat.xor_assoc] using this
theorem fstep_h {h h' : Nat} {u : UInt8} (hh : h < 18446744073709551616) (hh' : h' < 18446744073709551616) (e : fstep h u = fstep h' u) : h = h' := by
  have := mul_inj (xor_lt u hh) (xor_lt u hh') e
  rw [Nat.xor_comm h, Nat.xor_comm h'] at this
  exact xor_left this
theorem fstep_u {h : Nat} {u u' : UInt8} (hh : h < 18446744073709551616) (e : fstep h u = fstep h u') : u = u' := u8_eq (xor_left (mul_inj (xor_lt u hh) (xor_lt u' hh) e))
theorem fold_inj : ∀ (l : List UInt8) (h h' : Nat), h < 18446744073709551616 → h' < 18446744073709551616 → l.foldl fstep h = l.foldl fstep h' → h = h'
  | [], h, h', _, _, e => e
  | u :: l, h, h', hh, hh', e => fstep_h hh hh' (fold_inj l _ _ (fstep_lt h u) (fstep_lt h' u) e)
theorem fnvR_turns (l : List UInt8) (k : Nat) (hk : k < l.length) (b : UInt8) (hb : l.getD k 0 ≠ b) : fnvR l ≠ fnvR (l.set k b) := by
  intro e
  have e1 : l = l.take k ++ l.getD k 0 :: l.drop (k + 1) := by
    conv => lhs; rw [← List.take_append_drop k l]
    rw [List.drop_eq_getElem_cons hk, List.getD_eq_getElem?_getD, List.getElem?_eq_getElem hk]
    rfl
  have e2 : l.set k b = l.take k ++ b :: l.drop (k + 1) := List.set_eq_take_append_cons_drop.trans (if_pos hk)
  rw [e2] at e
  conv at e => lhs; rw [e1]
  unfold fnvR at e
  rw [List.foldl_append, List.foldl_append] at e
  have hf := fold_lt (l.take k) 14695981039346656037 (by decide)
  have := fold_inj (l.drop (k + 1)) _ _ (fstep_lt _ _) (fstep_lt _ _) e
  exact hb (fstep_u hf this)

set_option maxRecDepth 100000 in
set_option maxHeartbeats 1000000 in
theorem Fnv_any (l : List UInt8) (hl : l.length ≤ 140737488355328) (w : World) :
    Calls Tryz.prog 35 #[.string (str l)] w fun e w' => e = .returned (.int .u64 ((fnvR l : Nat) : Int)) ∧ w' = w := by
  have hs : (str l).size = l.length := str_size l
  have hby : ∀ (k : Nat) (h : k < (str l).size), ((str l)[k]'h) = l.getD k 0 := fun k h => by rw [← at_lt _ k h, str_list]
  go_enter Tryz.func35, Tryz.ntmps35
  go_wp2
  go_loop [3, 7] (fun h i => ∃ k : Nat, k ≤ l.length ∧ i = .int .i64 k ∧ h = .int .u64 ((fnvR (l.take k) : Nat) : Int)) (fun _ i => l.length - (intOf i).toNat)
  case atStart => exact ⟨0, by omega, rfl, rfl⟩
  case round =>
    obtain ⟨k, hk, rfl, rfl⟩ := hrel
    by_cases hlt : k < l.length
    · have hbk := hby k
      clear hby
      have HS : Hid (fnvR (l.take (k + 1)) = fstep (fnvR (l.take k)) (l.getD k 0)) := fnvR_snoc l k hlt
      have hu := (l.getD k 0).toNat_lt
      have hh := fnvR_lt (l.take k)
      generalize l.getD k 0 = u at *
      generalize fnvR (l.take k) = H at *
      have hx := bits_xor_u64_nat H u.toNat hh (by omega)
      have hxl := xor_lt u hh
      have HF : Hid (((fstep H u : Nat) : Int) = (((H ^^^ u.toNat : Nat) : Int) * 1099511628211) % 18446744073709551616) := (by unfold fstep; simp : ((fstep H u : Nat) : Int) = _)
      generalize H ^^^ u.toNat = X at *
      go_wp2
      exact ⟨⟨k + 1, by omega, by go_num, by rw [HS.out, HF.out, IntKind.wrap_u64]⟩, by simp [intOf]; omega⟩
    · obtain rfl : k = l.length := by omega
      have e : l.take l.length = l := List.take_length
      go_wp2
      go_ret
      exact ⟨rfl, rfl⟩

set_option maxRecDepth 100000 in
set_option maxHeartbeats 1000000 in
theorem rFnv_any (l : List UInt8) (hl : l.length ≤ 140737488355328) (w : World) :
    Calls Tryz.prog 38 #[.string (str l)] w fun e w' => e = .returned (.int .u64 ((fnvR l : Nat) : Int)) ∧ w' = w := by
  have hs : (str l).size = l.length := str_size l
  have hby : ∀ (k : Nat) (h : k < (str l).size), ((str l)[k]'h) = l.getD k 0 := fun k h => by rw [← at_lt _ k h, str_list]
  go_enter Tryz.func38, Tryz.ntmps38
  go_wp2
  go_loop [3, 4] (fun h i => ∃ k : Nat, k ≤ l.length ∧ i = .int .i64 k ∧ h = .int .u64 ((fnvR (l.take k) : Nat) : Int)) (fun _ i => l.length - (intOf i).toNat)
  case atStart => exact ⟨0, by omega, rfl, rfl⟩
  case round =>
    obtain ⟨k, hk, rfl, rfl⟩ := hrel
    by_cases hlt : k < l.length
    · have hbk := hby k
      clear hby
      have HS : Hid (fnvR (l.take (k + 1)) = fstep (fnvR (l.take k)) (l.getD k 0)) := fnvR_snoc l k hlt
      have hu := (l.getD k 0).toNat_lt
      have hh := fnvR_lt (l.take k)
      generalize l.getD k 0 = u at *
      generalize fnvR (l.take k) = H at *
      have hx := bits_xor_u64_nat H u.toNat hh (by omega)
      have hxl := xor_lt u hh
      have HF : Hid (((fstep H u : Nat) : Int) = (((H ^^^ u.toNat : Nat) : Int) * 1099511628211) % 18446744073709551616) := (by unfold fstep; simp : ((fstep H u : Nat) : Int) = _)
      generalize H ^^^ u.toNat = X at *
      go_wp2
      exact ⟨⟨k + 1, by omega, by go_num, by rw [HS.out, HF.out, IntKind.wrap_u64]⟩, by simp [intOf]; omega⟩
    · obtain rfl : k = l.length := by omega
      have e : l.take l.length = l := List.take_length
      go_wp2
      go_ret
      exact ⟨rfl, rfl⟩

end Bs
end Go.Proofs.YtgdecgagdacipaaGreatDoor
