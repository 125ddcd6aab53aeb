import Derived.Test.YtcelekfokbdmfaaGreatDoorCkU
import Derived.Test.YtcelekfokbdmfaaGreatDoorFQd
import Derived.Test.YtcelekfokbdmfaaGreatDoorMgX
set_option linter.unusedVariables false
set_option linter.unusedSimpArgs false
set_option maxRecDepth 100000
namespace Go.Proofs.YtcelekfokbdmfaaGreatDoor
open Go.RowKit Go.Shelf
namespace Ck
open Oc Tg _root_.Go.Proofs.YtcelekfokbdmfaaGreatDoor.Fd
end Ck
end Go.Proofs.YtcelekfokbdmfaaGreatDoor
set_option linter.unusedVariables false
set_option linter.unusedSimpArgs false
set_option maxRecDepth 100000
namespace Go.Proofs.YtcelekfokbdmfaaGreatDoor
open Go.RowKit Go.Shelf
namespace Ck
open Oc Tg _root_.Go.Proofs.YtcelekfokbdmfaaGreatDoor.Fd
theorem hexV_bd_all : ∀ n : Fin 256, (hexB (UInt8.ofNat n.val) = true → 0 ≤ hexV (UInt8.ofNat n.val) ∧ hexV (UInt8.ofNat n.val) ≤ 15 ∧ hexV (UInt8.ofNat n.val) = valI ((UInt8.ofNat n.val).toNat : Int)) ∧ (hexB (UInt8.ofNat n.val) = false → hexV (UInt8.ofNat n.val) = -1) := by decide +kernel
theorem hexV_bd (c : UInt8) : (hexB c = true → 0 ≤ hexV c ∧ hexV c ≤ 15 ∧ hexV c = valI (c.toNat : Int)) ∧ (hexB c = false → hexV c = -1) := by
  have h := hexV_bd_all ⟨c.toNat, c.toNat_lt⟩
  simpa using h
def accH (n : Int) (c : UInt8) : Int := if n ≤ 1099511627776 then 16 * n + hexV c else n
def hexAcc (l : List UInt8) : Int := l.foldl accH 0
theorem hexAcc_snoc (l : List UInt8) (c : UInt8) : hexAcc (l ++ [c]) = accH (hexAcc l) c := by unfold hexAcc; rw [List.foldl_append]; rfl
theorem hexAcc_is : ∀ (n : Nat) (l : List UInt8), l.length = n → (∀ c ∈ l, hexB c = true) → 0 ≤ numOf 16 l ∧ 0 ≤ hexAcc l ∧ hexAcc l ≤ 17592186044431 ∧ (numOf 16 l ≤ 1099511627776 → hexAcc l = numOf 16 l) ∧ (1099511627776 < numOf 16 l → 1099511627776 < hexAcc l) := by
  intro n
  induction n with
  | zero =>
    intro l hl _
    obtain rfl := List.eq_nil_of_length_eq_zero hl
    exact ⟨by decide, by decide, by decide, fun _ => rfl, fun h => absurd h (by decide)⟩
  | succ n ih =>
    intro l hl hall
    rcases List.eq_nil_or_concat l with h | ⟨a, c, h⟩
    · subst h; simp at hl
    · have h' : l = a ++ [c] := by simpa using h
      subst h'
      simp at hl
      obtain ⟨i0, i1, i2, i3, i4⟩ := ih a hl (fun d hd => hall d (by simp [hd]))
      obtain ⟨v0, v1, v2⟩ := (hexV_bd c).1 (hall c (by simp))
      rw [hexAcc_snoc, numOf_snoc, ← v2]
      unfold accH
      by_cases hb : numOf 16 a ≤ 1099511627776
      · rw [i3 hb, if_pos hb]
        refine ⟨by omega, by omega, by omega, fun _ => by omega, fun _ => by omega⟩
      · have := i4 (by omega)
        rw [if_neg (by omega)]
        exact ⟨by omega, i1, i2, fun _ => by omega, fun _ => this⟩
theorem numR_hex (l : List UInt8) (h0 : l ≠ []) (hall : ∀ c ∈ l, hexB c = true) : numR 16 l 1099511627776 = if 1099511627776 < hexAcc l then (0, 12) else (hexAcc l, 0) := by
  obtain ⟨_, _, _, i3, i4⟩ := hexAcc_is _ l rfl hall
  unfold numR
  have h1 : (l.isEmpty || l.any (fun c => decide (16 ≤ valI (c.toNat : Int)))) = false := by
    rw [Bool.or_eq_false_iff]
    refine ⟨by simpa using h0, ?_⟩
    rw [List.any_eq_false]
    intro c hc
    obtain ⟨_, v1, v2⟩ := (hexV_bd c).1 (hall c hc)
    simp
    omega
  rw [h1]
  by_cases hb : 1099511627776 < numOf 16 l
  · rw [if_neg (by decide), if_pos hb, if_pos (i4 hb)]
  · rw [if_neg (by decide), if_neg hb, if_neg (by rw [i3 (by omega)]; exact hb), i3 (by omega)]
end Ck
end Go.Proofs.YtcelekfokbdmfaaGreatDoor
set_option linter.unusedVariables false
set_option linter.unusedSimpArgs false
set_option maxRecDepth 100000
namespace Go.Proofs.YtcelekfokbdmfaaGreatDoor
open Go.RowKit Go.Shelf
namespace Ck
open Oc Tg _root_.Go.Proofs.YtcelekfokbdmfaaGreatDoor.Fd
def hexc (d : Nat) : UInt8 := digs.getD d 0
def hexd (n : Nat) : List UInt8 := if h : n < 16 then [hexc n] else hexd (n / 16) ++ [hexc (n % 16)]
termination_by n
decreasing_by omega
theorem hexd_low {n : Nat} (h : n < 16) : hexd n = [hexc n] := by rw [hexd, dif_pos h]
theorem hexd_high {n : Nat} (h : ¬ n < 16) : hexd n = hexd (n / 16) ++ [hexc (n % 16)] := by rw [hexd, dif_neg h]
theorem hexc_all : ∀ d : Fin 16, hexB (hexc d.val) = true ∧ valI ((hexc d.val).toNat : Int) = (d.val : Int) := by decide +kernel
theorem hexc_is (d : Nat) (h : d < 16) : hexB (hexc d) = true ∧ valI ((hexc d).toNat : Int) = (d : Int) := hexc_all ⟨d, h⟩
theorem hexd_ne (n : Nat) : hexd n ≠ [] := by
  by_cases h : n < 16
  · rw [hexd_low h]; simp
  · rw [hexd_high h]; simp
theorem hexd_hex : ∀ n, ∀ c ∈ hexd n, hexB c = true := by
  intro n
  induction n using Nat.strongRecOn with
  | _ n ih =>
    intro c hc
    by_cases h : n < 16
    · rw [hexd_low h] at hc
      simp only [List.mem_singleton] at hc
      subst hc
      exact (hexc_is n h).1
    · rw [hexd_high h, List.mem_append] at hc
      rcases hc with hc | hc
      · exact ih (n / 16) (by omega) c hc
      · simp only [List.mem_singleton] at hc
        subst hc
        exact (hexc_is (n % 16) (by omega)).1
theorem hexd_num : ∀ n, numOf 16 (hexd n) = (n : Int) := by
  intro n
  induction n using Nat.strongRecOn with
  | _ n ih =>
    by_cases h : n < 16
    · rw [hexd_low h]
      show (0 : Int) * 16 + valI ((hexc n).toNat : Int) = n
      rw [(hexc_is n h).2]
      omega
    · rw [hexd_high h, numOf_snoc, ih (n / 16) (by omega), (hexc_is (n % 16) (by omega)).2]
      omega
theorem hexd_len : ∀ k n, n < 16 ^ (k + 1) → (hexd n).length ≤ k + 1 := by
  intro k
  induction k with
  | zero =>
    intro n h
    rw [hexd_low (by simpa using h)]
    simp
  | succ k ih =>
    intro n h
    by_cases h16 : n < 16
    · rw [hexd_low h16]; simp
    · rw [hexd_high h16, List.length_append]
      have := ih (n / 16) (by rw [Nat.div_lt_iff_lt_mul (by omega)]; rw [Nat.pow_succ] at h; exact h)
      simp only [List.length_cons, List.length_nil]
      omega
theorem tw_self : ∀ (l : List UInt8), (∀ c ∈ l, hexB c = true) → l.takeWhile hexB = l ∧ l.dropWhile hexB = []
  | [], _ => ⟨rfl, rfl⟩
  | x :: l, h => by
    have ih := tw_self l (fun c hc => h c (by simp [hc]))
    have hx := h x (by simp)
    rw [List.takeWhile_cons, List.dropWhile_cons, if_pos hx, if_pos hx, ih.1, ih.2]
    exact ⟨rfl, rfl⟩
theorem sizeR_hexd (n : Nat) (h : n ≤ 1099511627776) : sizeR (hexd n) = ((n : Int), [], 0) := by
  have hl := hexd_len 10 n (Nat.lt_of_le_of_lt h (by decide))
  obtain ⟨t1, t2⟩ := tw_self (hexd n) (hexd_hex n)
  obtain ⟨_, _, _, i3, _⟩ := hexAcc_is _ (hexd n) rfl (hexd_hex n)
  have hn := hexd_num n
  have ha : hexAcc (hexd n) = (n : Int) := by rw [i3 (by rw [hn]; omega), hn]
  have hr := numR_hex (hexd n) (hexd_ne n) (hexd_hex n)
  rw [ha, if_neg (by omega)] at hr
  unfold sizeR
  rw [if_neg (by omega), t1, t2, hr]
  have hp : paramsR ([] : List UInt8) = ([], 0, 0) := by decide +kernel
  rw [hp, if_neg, if_neg (by simp)]
  rintro (h1 | h1 | h1)
  · exact hexd_ne n h1
  · exact h1 rfl
  · exact h1 rfl
end Ck
end Go.Proofs.YtcelekfokbdmfaaGreatDoor
set_option linter.unusedVariables false
set_option linter.unusedSimpArgs false
set_option maxRecDepth 100000
namespace Go.Proofs.YtcelekfokbdmfaaGreatDoor
open Go.RowKit Go.Shelf
namespace Ck
open Oc Tg _root_.Go.Proofs.YtcelekfokbdmfaaGreatDoor.Fd
set_option maxHeartbeats 1000000 in
theorem isPow16 (w : World) : Calls Tryz.prog 165 #[.int .i64 16] w fun e w' => e = .returned (.bool true) ∧ w' = w := by
  go_enter Tryz.func165, Tryz.ntmps165
  go_wp2
  go_ret
  exact ⟨rfl, rfl⟩
set_option maxHeartbeats 1000000 in
theorem tz64 (w : World) (h : w.cell? ⟨3, 15, none⟩ = some (.int .u8 4)) : Calls Tryz.prog 190 #[.int .u64 16] w fun e w' => e = .returned (.int .i64 4) ∧ w' = w := by
  have e1 : IntKind.u64.wrap (-16) = 18446744073709551600 := by decide +kernel
  have e2 : bits BinOp.and IntKind.u64 16 18446744073709551600 = 16 := by decide +kernel
  have e3 : IntKind.u64.wrap (16 * 285870213051353865) = 4573923408821661840 := by decide +kernel
  have e4 : (4573923408821661840 : Int) / 288230376151711744 = 15 := by decide +kernel
  go_enter Tryz.func190, Tryz.ntmps190
  go_wp2
  go_ret
  exact ⟨rfl, rfl⟩
set_option maxHeartbeats 1000000 in
theorem tz (w : World) (h : w.cell? ⟨3, 15, none⟩ = some (.int .u8 4)) : Calls Tryz.prog 166 #[.int .u64 16] w fun e w' => e = .returned (.int .i64 4) ∧ w' = w := by
  have H : Hid (w.cell? ⟨3, 15, none⟩ = some (.int .u8 4)) := h
  clear h
  go_enter Tryz.func166, Tryz.ntmps166
  go_wp2_with fail
  refine (tz64 w H.out).mono ?_
  rintro e w1 ⟨rfl, hw⟩
  rw [hw]
  go_wp2
  go_ret
  exact ⟨rfl, rfl⟩
end Ck
end Go.Proofs.YtcelekfokbdmfaaGreatDoor
