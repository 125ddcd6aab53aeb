/- Several texts as one. -/
import Derived.Test.YticncpjpkgdnlaaGreatDoorMgA
import Derived.Lib.SlTrimSet
import Derived.Lib.IndexBytes
/-
  Numbers: what digits say.
-/
set_option linter.unusedVariables false
set_option linter.unusedSimpArgs false
namespace Go.Proofs.YticncpjpkgdnlaaGreatDoor
open Go.RowKit
namespace Oc

/-- The value of a byte as a digit, and what digits say. -/
def numOf (base : Int) (l : List UInt8) : Int := l.foldl (fun n c => n * base + valI (c.toNat : Int)) 0
def numR (base : Int) (l : List UInt8) (most : Int) : Int × Int :=
  if l.isEmpty || l.any (fun c => decide (base ≤ valI (c.toNat : Int))) then (0, 11) else if most < numOf base l then (0, 12) else (numOf base l, 0)

theorem numOf_snoc (base : Int) (l : List UInt8) (c : UInt8) : numOf base (l ++ [c]) = numOf base l * base + valI (c.toNat : Int) := by
  unfold numOf; rw [List.foldl_append]; rfl
theorem take_snoc (s : ByteArray) (k : Nat) (h : k < s.size) : s.data.toList.take (k + 1) = s.data.toList.take k ++ [s.data.toList.getD k 0] := by
  rw [List.take_succ_eq_append_getElem (by simpa using h), List.getD_eq_getElem?_getD, List.getElem?_eq_getElem (by simpa using h)]; rfl
/-- What the first k digits say. -/
def pre (base : Int) (s : ByteArray) (k : Nat) : Int := numOf base (s.data.toList.take k)
theorem pre_zero (base : Int) (s : ByteArray) : pre base s 0 = 0 := by simp [pre, numOf]
theorem pre_succ (base : Int) (s : ByteArray) (k : Nat) (h : k < s.size) : pre base s (k + 1) = pre base s k * base + valI (byt s k) := by
  unfold pre byt; rw [take_snoc s k h, numOf_snoc]
theorem pre_all (base : Int) (s : ByteArray) : pre base s s.size = numOf base s.data.toList := by
  unfold pre; rw [List.take_of_length_le (by simp)]
theorem pre_nonneg (base : Int) (hb : 0 ≤ base) (s : ByteArray) : ∀ k, k ≤ s.size → 0 ≤ pre base s k
  | 0, _ => by rw [pre_zero]; omega
  | k + 1, h => by
    rw [pre_succ base s k (by omega)]
    have h1 := pre_nonneg base hb s k (by omega)
    have h2 := valI_bd (byt_bd s k).1
    have := Int.mul_nonneg h1 hb
    omega

theorem numR_empty (base most : Int) (s : ByteArray) (h : s.size = 0) : numR base s.data.toList most = (0, 11) := by
  have : s.data.toList = [] := List.length_eq_zero_iff.1 (by rw [size_list]; exact h)
  simp [numR, this]
theorem numR_bad (base most : Int) (s : ByteArray) (k : Nat) (h : k < s.size) (hv : base ≤ valI (byt s k)) : numR base s.data.toList most = (0, 11) := by
  unfold numR
  rw [if_pos]
  simp only [Bool.or_eq_true, List.any_eq_true]
  refine .inr ⟨s.data.toList.getD k 0, ?_, decide_eq_true hv⟩
  rw [List.getD_eq_getElem?_getD, List.getElem?_eq_getElem (by simpa using h)]
  exact List.getElem_mem _
theorem num_ok (base : Int) (s : ByteArray) (h0 : 0 < s.size) (hall : ∀ j, j < s.size → valI (byt s j) < base) : (s.data.toList.isEmpty || s.data.toList.any (fun c => decide (base ≤ valI (c.toNat : Int)))) = false := by
  rw [Bool.or_eq_false_iff]
  constructor
  · cases h : s.data.toList with
    | nil => have := size_list s; rw [h] at this; simp at this; omega
    | cons _ _ => rfl
  · rw [List.any_eq_false]
    intro x hx
    obtain ⟨k, hk, rfl⟩ := List.mem_iff_getElem.1 hx
    have := hall k (by rw [← size_list]; exact hk)
    unfold byt at this
    rw [List.getD_eq_getElem?_getD, List.getElem?_eq_getElem hk] at this
    simpa using this
theorem numR_big (base most : Int) (s : ByteArray) (h0 : 0 < s.size) (hall : ∀ j, j < s.size → valI (byt s j) < base) (h : most < pre base s s.size) : numR base s.data.toList most = (0, 12) := by
  unfold numR
  rw [num_ok base s h0 hall, if_neg (by simp), ← pre_all, if_pos h]
theorem numR_fits (base most : Int) (s : ByteArray) (h0 : 0 < s.size) (hall : ∀ j, j < s.size → valI (byt s j) < base) (h : pre base s s.size ≤ most) : numR base s.data.toList most = (pre base s s.size, 0) := by
  unfold numR
  rw [num_ok base s h0 hall, if_neg (by simp), ← pre_all, if_neg (by omega)]

theorem ret_two {j k : IntKind} {a b : Int} {r : Int × Int} (h : r = (a, b)) : Ending.returned (.tuple #[.int j a, .int k b]) = .returned (.tuple #[.int j r.1, .int k r.2]) := by rw [h]

theorem div_facts (m : Int) (B : Int) (hB : 0 < B) : B * m.tdiv B + m.tmod B = m ∧ m.tmod B < B ∧ -B < m.tmod B ∧ (0 ≤ m → 0 ≤ m.tmod B) := by
  refine ⟨Int.mul_tdiv_add_tmod m B, Int.tmod_lt_of_pos m hB, ?_, fun h => Int.tmod_nonneg B h⟩
  have := Int.lt_tmod_of_pos m hB
  omega

theorem next_big10 {most n v : Int} (n0 : 0 ≤ n) (v0 : 0 ≤ v) (v1 : v < 10) (h : most.tdiv 10 < n ∨ n = most.tdiv 10 ∧ most.tmod 10 < v) : most < n * 10 + v := by
  obtain ⟨e, r1, r2, r3⟩ := div_facts most 10 (by omega)
  omega
theorem next_fit10 {most n v : Int} (n0 : 0 ≤ n) (v0 : 0 ≤ v) (v1 : v < 10) (h : n < most.tdiv 10 ∨ n = most.tdiv 10 ∧ v ≤ most.tmod 10) : n * 10 + v ≤ most := by
  obtain ⟨e, r1, r2, r3⟩ := div_facts most 10 (by omega)
  omega

set_option maxRecDepth 100000 in
set_option maxHeartbeats 1000000 in
theorem number10 (s : ByteArray) (hs : s.size ≤ maxLen) (most : Int) (m0 : -9223372036854775808 ≤ most) (m1 : most ≤ 9223372036854775807) (w : World) :
    Calls Tryz.prog 165 #[.string s, .int .i64 10, .int .i64 most] w fun e w' => e = .returned (.tuple #[.int .i64 (numR 10 s.data.toList most).1, .int .i64 (numR 10 s.data.toList most).2]) ∧ Below w.heap.size w w' := by
  unfold maxLen at hs
  by_cases hz : s.size = 0
  · have he : s.toList.isEmpty = true := by rw [ByteArray.toList_eq]; simp [List.length_eq_zero_iff.1 ((size_list s).trans hz)]
    have HE : Hid (numR 10 s.data.toList most = (0, 11)) := numR_empty 10 most s hz
    clear hz
    go_enter Tryz.func165, Tryz.ntmps165
    go_wp2
    go_ret2
    exact ⟨ret_two HE.out, Below.refl _ _⟩
  · have he : s.toList.isEmpty = false := by
      rw [ByteArray.toList_eq]
      cases h : s.data.toList with
      | nil => have := size_list s; rw [h] at this; simp at this; omega
      | cons _ _ => rfl
    have hcv := fun w => Lib.run_convert_string_bytes (P := Tryz.prog) w 9 42 5 s Tryz.underlying9 Tryz.underlying42 Tryz.underlying5
    have hb := below_bytes w 5 s
    have hr := bytes_row w 5 s
    go_enter Tryz.func165, Tryz.ntmps165
    go_wp2
    go_loop [8, 9, 18] (fun nv bv i => ∃ k : Nat, k ≤ s.size ∧ i = .int .i64 k ∧ ∃ (n : Int) (big : Bool), nv = .int .i64 n ∧ bv = .bool big ∧ Hid (∀ j, j < k → valI (byt s j) < 10) ∧ Hid (if big then most < pre 10 s k else n = pre 10 s k) ∧ Hid (big = false → n ≤ most ∨ k = 0) ∧ 0 ≤ n ∧ n ≤ 9223372036854775807) (fun _ _ i => s.size - (intOf i).toNat)
    case atStart => exact ⟨0, Nat.zero_le _, rfl, 0, false, rfl, rfl, (fun j hj => by omega : ∀ j, j < 0 → _), (by simp [pre_zero] : if false = true then _ else _), (fun _ => .inr rfl : false = false → _ ∨ _), by omega, by omega⟩
    case round =>
      obtain ⟨k, hk, rfl, n, big, rfl, rfl, hall, hst, hle, n0, n1⟩ := hrel
      by_cases hlt : k < s.size
      · have hck := hr.cell k hlt
        obtain ⟨b0, b1⟩ := byt_bd s k
        obtain ⟨v0, v1⟩ := valI_bd b0
        by_cases hv : valI (byt s k) < 10
        · have HA : Hid (∀ j, j < k + 1 → valI (byt s j) < 10) := by
            intro j hj
            by_cases hjk : j = k
            · subst hjk; exact hv
            · exact hall.out j (by omega)
          have HP : Hid (pre 10 s (k + 1) = pre 10 s k * 10 + valI (byt s k)) := pre_succ 10 s k hlt
          cases big with
          | true =>
            go_wp2_with (go_at_call 228; refine (digitValue_any _ b0 b1 _).mono ?_; rintro e w' ⟨rfl, rfl⟩)
            go_round
            case rel =>
              refine ⟨k + 1, by omega, by go_num, n, true, rfl, rfl, HA, ?_, (fun h => by cases h), n0, n1⟩
              have h1 : most < pre 10 s k := by simpa using hst.out
              have h2 := pre_nonneg 10 (by omega) s k hk
              show if true = true then _ else _
              rw [if_pos rfl, HP.out]
              omega
            case measure => simp [intOf]; omega
          | false =>
            have EN : Hid (n = pre 10 s k) := (by simpa using hst.out : n = pre 10 s k)
            rcases (show most.tdiv 10 < n ∨ (n = most.tdiv 10 ∧ most.tmod 10 < valI (byt s k)) ∨ (n = most.tdiv 10 ∧ valI (byt s k) ≤ most.tmod 10) ∨ n < most.tdiv 10 by omega) with hA | ⟨hB, hB'⟩ | ⟨hC, hC'⟩ | hD
            · have hbig : Hid (most < pre 10 s (k + 1)) := by
                have := next_big10 n0 v0 hv (.inl hA)
                show most < _
                rw [HP.out, ← EN.out]; exact this
              go_wp2_with (go_at_call 228; refine (digitValue_any _ b0 b1 _).mono ?_; rintro e w' ⟨rfl, rfl⟩)
              go_round
              case rel => exact ⟨k + 1, by omega, by go_num, n, true, rfl, rfl, HA, (by show if true = true then _ else _; rw [if_pos rfl]; exact hbig.out), (fun h => by cases h), n0, n1⟩
              case measure => simp [intOf]; omega
            · have hbig : Hid (most < pre 10 s (k + 1)) := by
                have := next_big10 n0 v0 hv (.inr ⟨hB, hB'⟩)
                show most < _
                rw [HP.out, ← EN.out]; exact this
              have hB1 : decide (most.tdiv 10 < n) = false := by simp; omega
              have hB2 : (n == most.tdiv 10) = true := by simp [hB]
              have hB3 : decide (most.tmod 10 < valI (byt s k)) = true := by simp; omega
              clear hB
              go_wp2_with (go_at_call 228; refine (digitValue_any _ b0 b1 _).mono ?_; rintro e w' ⟨rfl, rfl⟩)
              go_round
              case rel => exact ⟨k + 1, by omega, by go_num, n, true, rfl, rfl, HA, (by show if true = true then _ else _; rw [if_pos rfl]; exact hbig.out), (fun h => by cases h), n0, n1⟩
              case measure => simp [intOf]; omega
            · have hfit := next_fit10 n0 v0 hv (.inr ⟨hC, hC'⟩)
              have hm : 0 ≤ most := by omega
              rw [Int.tdiv_eq_ediv_of_nonneg hm] at hC
              rw [Int.tmod_eq_emod_of_nonneg hm] at hC'
              have hB1 : decide (most / 10 < n) = false := by simp; omega
              have hB2 : (n == most / 10) = true := by simp [hC]
              have hB3 : decide (most % 10 < valI (byt s k)) = false := by simp; omega
              clear hC
              go_wp2_with (go_at_call 228; refine (digitValue_any _ b0 b1 _).mono ?_; rintro e w' ⟨rfl, rfl⟩)
              go_round
              case rel => exact ⟨k + 1, by omega, by go_num, n * 10 + valI (byt s k), false, rfl, rfl, HA, (by show if false = true then _ else _; rw [if_neg (by simp), HP.out, ← EN.out]), (fun _ => .inl hfit : false = false → _ ∨ _), by omega, by omega⟩
              case measure => simp [intOf]; omega
            · have hfit := next_fit10 n0 v0 hv (.inl hD)
              have hm : 0 ≤ most := by omega
              rw [Int.tdiv_eq_ediv_of_nonneg hm] at hD
              have hB1 : decide (most / 10 < n) = false := by simp; omega
              have hB2 : (n == most / 10) = false := by simp; omega
              go_wp2_with (go_at_call 228; refine (digitValue_any _ b0 b1 _).mono ?_; rintro e w' ⟨rfl, rfl⟩)
              go_round
              case rel => exact ⟨k + 1, by omega, by go_num, n * 10 + valI (byt s k), false, rfl, rfl, HA, (by show if false = true then _ else _; rw [if_neg (by simp), HP.out, ← EN.out]), (fun _ => .inl hfit : false = false → _ ∨ _), by omega, by omega⟩
              case measure => simp [intOf]; omega
        · have HE : Hid (numR 10 s.data.toList most = (0, 11)) := numR_bad 10 most s k hlt (by omega)
          go_wp2_with (go_at_call 228; refine (digitValue_any _ b0 b1 _).mono ?_; rintro e w' ⟨rfl, rfl⟩)
          go_ret2
          exact ⟨ret_two HE.out, hb⟩
      · obtain rfl : k = s.size := by omega
        cases big with
        | true =>
          have HE : Hid (numR 10 s.data.toList most = (0, 12)) := numR_big 10 most s (by omega) hall.out (by simpa using hst.out)
          go_wp2
          go_ret2
          exact ⟨ret_two HE.out, hb⟩
        | false =>
          have EN : Hid (n = pre 10 s s.size) := (by simpa using hst.out : n = pre 10 s s.size)
          have HE : Hid (numR 10 s.data.toList most = (n, 0)) := by
            have h1 := numR_fits 10 most s (by omega) hall.out (by rw [← EN.out]; rcases hle.out rfl with h | h <;> omega)
            rw [← EN.out] at h1
            exact h1
          go_wp2
          go_ret2
          exact ⟨ret_two HE.out, hb⟩

theorem next_big16 {most n v : Int} (n0 : 0 ≤ n) (v0 : 0 ≤ v) (v1 : v < 16) (h : most.tdiv 16 < n ∨ n = most.tdiv 16 ∧ most.tmod 16 < v) : most < n * 16 + v := by
  obtain ⟨e, r1, r2, r3⟩ := div_facts most 16 (by omega)
  omega
theorem next_fit16 {most n v : Int} (n0 : 0 ≤ n) (v0 : 0 ≤ v) (v1 : v < 16) (h : n < most.tdiv 16 ∨ n = most.tdiv 16 ∧ v ≤ most.tmod 16) : n * 16 + v ≤ most := by
  obtain ⟨e, r1, r2, r3⟩ := div_facts most 16 (by omega)
  omega

set_option maxRecDepth 100000 in
set_option maxHeartbeats 1000000 in
theorem number16 (s : ByteArray) (hs : s.size ≤ maxLen) (most : Int) (m0 : -9223372036854775808 ≤ most) (m1 : most ≤ 9223372036854775807) (w : World) :
    Calls Tryz.prog 165 #[.string s, .int .i64 16, .int .i64 most] w fun e w' => e = .returned (.tuple #[.int .i64 (numR 16 s.data.toList most).1, .int .i64 (numR 16 s.data.toList most).2]) ∧ Below w.heap.size w w' := by
  unfold maxLen at hs
  by_cases hz : s.size = 0
  · have he : s.toList.isEmpty = true := by rw [ByteArray.toList_eq]; simp [List.length_eq_zero_iff.1 ((size_list s).trans hz)]
    have HE : Hid (numR 16 s.data.toList most = (0, 11)) := numR_empty 16 most s hz
    clear hz
    go_enter Tryz.func165, Tryz.ntmps165
    go_wp2
    go_ret2
    exact ⟨ret_two HE.out, Below.refl _ _⟩
  · have he : s.toList.isEmpty = false := by
      rw [ByteArray.toList_eq]
      cases h : s.data.toList with
      | nil => have := size_list s; rw [h] at this; simp at this; omega
      | cons _ _ => rfl
    have hcv := fun w => Lib.run_convert_string_bytes (P := Tryz.prog) w 9 42 5 s Tryz.underlying9 Tryz.underlying42 Tryz.underlying5
    have hb := below_bytes w 5 s
    have hr := bytes_row w 5 s
    go_enter Tryz.func165, Tryz.ntmps165
    go_wp2
    go_loop [8, 9, 18] (fun nv bv i => ∃ k : Nat, k ≤ s.size ∧ i = .int .i64 k ∧ ∃ (n : Int) (big : Bool), nv = .int .i64 n ∧ bv = .bool big ∧ Hid (∀ j, j < k → valI (byt s j) < 16) ∧ Hid (if big then most < pre 16 s k else n = pre 16 s k) ∧ Hid (big = false → n ≤ most ∨ k = 0) ∧ 0 ≤ n ∧ n ≤ 9223372036854775807) (fun _ _ i => s.size - (intOf i).toNat)
    case atStart => exact ⟨0, Nat.zero_le _, rfl, 0, false, rfl, rfl, (fun j hj => by omega : ∀ j, j < 0 → _), (by simp [pre_zero] : if false = true then _ else _), (fun _ => .inr rfl : false = false → _ ∨ _), by omega, by omega⟩
    case round =>
      obtain ⟨k, hk, rfl, n, big, rfl, rfl, hall, hst, hle, n0, n1⟩ := hrel
      by_cases hlt : k < s.size
      · have hck := hr.cell k hlt
        obtain ⟨b0, b1⟩ := byt_bd s k
        obtain ⟨v0, v1⟩ := valI_bd b0
        by_cases hv : valI (byt s k) < 16
        · have HA : Hid (∀ j, j < k + 1 → valI (byt s j) < 16) := by
            intro j hj
            by_cases hjk : j = k
            · subst hjk; exact hv
            · exact hall.out j (by omega)
          have HP : Hid (pre 16 s (k + 1) = pre 16 s k * 16 + valI (byt s k)) := pre_succ 16 s k hlt
          cases big with
          | true =>
            go_wp2_with (go_at_call 228; refine (digitValue_any _ b0 b1 _).mono ?_; rintro e w' ⟨rfl, rfl⟩)
            go_round
            case rel =>
              refine ⟨k + 1, by omega, by go_num, n, true, rfl, rfl, HA, ?_, (fun h => by cases h), n0, n1⟩
              have h1 : most < pre 16 s k := by simpa using hst.out
              have h2 := pre_nonneg 16 (by omega) s k hk
              show if true = true then _ else _
              rw [if_pos rfl, HP.out]
              omega
            case measure => simp [intOf]; omega
          | false =>
            have EN : Hid (n = pre 16 s k) := (by simpa using hst.out : n = pre 16 s k)
            rcases (show most.tdiv 16 < n ∨ (n = most.tdiv 16 ∧ most.tmod 16 < valI (byt s k)) ∨ (n = most.tdiv 16 ∧ valI (byt s k) ≤ most.tmod 16) ∨ n < most.tdiv 16 by omega) with hA | ⟨hB, hB'⟩ | ⟨hC, hC'⟩ | hD
            · have hbig : Hid (most < pre 16 s (k + 1)) := by
                have := next_big16 n0 v0 hv (.inl hA)
                show most < _
                rw [HP.out, ← EN.out]; exact this
              go_wp2_with (go_at_call 228; refine (digitValue_any _ b0 b1 _).mono ?_; rintro e w' ⟨rfl, rfl⟩)
              go_round
              case rel => exact ⟨k + 1, by omega, by go_num, n, true, rfl, rfl, HA, (by show if true = true then _ else _; rw [if_pos rfl]; exact hbig.out), (fun h => by cases h), n0, n1⟩
              case measure => simp [intOf]; omega
            · have hbig : Hid (most < pre 16 s (k + 1)) := by
                have := next_big16 n0 v0 hv (.inr ⟨hB, hB'⟩)
                show most < _
                rw [HP.out, ← EN.out]; exact this
              have hB1 : decide (most.tdiv 16 < n) = false := by simp; omega
              have hB2 : (n == most.tdiv 16) = true := by simp [hB]
              have hB3 : decide (most.tmod 16 < valI (byt s k)) = true := by simp; omega
              clear hB
              go_wp2_with (go_at_call 228; refine (digitValue_any _ b0 b1 _).mono ?_; rintro e w' ⟨rfl, rfl⟩)
              go_round
              case rel => exact ⟨k + 1, by omega, by go_num, n, true, rfl, rfl, HA, (by show if true = true then _ else _; rw [if_pos rfl]; exact hbig.out), (fun h => by cases h), n0, n1⟩
              case measure => simp [intOf]; omega
            · have hfit := next_fit16 n0 v0 hv (.inr ⟨hC, hC'⟩)
              have hm : 0 ≤ most := by omega
              rw [Int.tdiv_eq_ediv_of_nonneg hm] at hC
              rw [Int.tmod_eq_emod_of_nonneg hm] at hC'
              have hB1 : decide (most / 16 < n) = false := by simp; omega
              have hB2 : (n == most / 16) = true := by simp [hC]
              have hB3 : decide (most % 16 < valI (byt s k)) = false := by simp; omega
              clear hC
              go_wp2_with (go_at_call 228; refine (digitValue_any _ b0 b1 _).mono ?_; rintro e w' ⟨rfl, rfl⟩)
              go_round
              case rel => exact ⟨k + 1, by omega, by go_num, n * 16 + valI (byt s k), false, rfl, rfl, HA, (by show if false = true then _ else _; rw [if_neg (by simp), HP.out, ← EN.out]), (fun _ => .inl hfit : false = false → _ ∨ _), by omega, by omega⟩
              case measure => simp [intOf]; omega
            · have hfit := next_fit16 n0 v0 hv (.inl hD)
              have hm : 0 ≤ most := by omega
              rw [Int.tdiv_eq_ediv_of_nonneg hm] at hD
              have hB1 : decide (most / 16 < n) = false := by simp; omega
              have hB2 : (n == most / 16) = false := by simp; omega
              go_wp2_with (go_at_call 228; refine (digitValue_any _ b0 b1 _).mono ?_; rintro e w' ⟨rfl, rfl⟩)
              go_round
              case rel => exact ⟨k + 1, by omega, by go_num, n * 16 + valI (byt s k), false, rfl, rfl, HA, (by show if false = true then _ else _; rw [if_neg (by simp), HP.out, ← EN.out]), (fun _ => .inl hfit : false = false → _ ∨ _), by omega, by omega⟩
              case measure => simp [intOf]; omega
        · have HE : Hid (numR 16 s.data.toList most = (0, 11)) := numR_bad 16 most s k hlt (by omega)
          go_wp2_with (go_at_call 228; refine (digitValue_any _ b0 b1 _).mono ?_; rintro e w' ⟨rfl, rfl⟩)
          go_ret2
          exact ⟨ret_two HE.out, hb⟩
      · obtain rfl : k = s.size := by omega
        cases big with
        | true =>
          have HE : Hid (numR 16 s.data.toList most = (0, 12)) := numR_big 16 most s (by omega) hall.out (by simpa using hst.out)
          go_wp2
          go_ret2
          exact ⟨ret_two HE.out, hb⟩
        | false =>
          have EN : Hid (n = pre 16 s s.size) := (by simpa using hst.out : n = pre 16 s s.size)
          have HE : Hid (numR 16 s.data.toList most = (n, 0)) := by
            have h1 := numR_fits 16 most s (by omega) hall.out (by rw [← EN.out]; rcases hle.out rfl with h | h <;> omega)
            rw [← EN.out] at h1
            exact h1
          go_wp2
          go_ret2
          exact ⟨ret_two HE.out, hb⟩

theorem pre_mono (base : Int) (hb : 1 ≤ base) (s : ByteArray) (j : Nat) : ∀ d, j + d ≤ s.size → pre base s j ≤ pre base s (j + d)
  | 0, _ => Int.le_refl _
  | d + 1, h => by
    have h1 := pre_mono base hb s j d (by omega)
    have h2 := pre_succ base s (j + d) (by omega)
    have h3 := valI_bd (byt_bd s (j + d)).1
    have h4 := pre_nonneg base (by omega) s (j + d) (by omega)
    have h5 : pre base s (j + d) ≤ pre base s (j + d) * base := by
      have := Int.mul_le_mul_of_nonneg_left hb h4
      omega
    show _ ≤ pre base s (j + d + 1)
    omega
theorem pre_le (base : Int) (hb : 1 ≤ base) (s : ByteArray) (j k : Nat) (h : j ≤ k) (hk : k ≤ s.size) : pre base s j ≤ pre base s k := by
  obtain ⟨d, rfl⟩ := Nat.le.dest h
  exact pre_mono base hb s j d hk
theorem digI_val {c : Int} : digI c = decide (valI c < 10) := by
  unfold digI valI
  rw [Bool.eq_iff_iff, decide_eq_true_iff, decide_eq_true_iff]
  (repeat' split) <;> omega
theorem hexI_val {c : Int} : hexI c = decide (valI c < 16) := by
  unfold hexI valI
  rw [Bool.eq_iff_iff, decide_eq_true_iff, decide_eq_true_iff]
  (repeat' split) <;> omega
theorem hex_of_val {c : Int} {b : Int} (hb : b ≤ 16) (h : valI c < b) : hexI c = true := by
  rw [hexI_val, decide_eq_true_iff]; omega

end Oc
end Go.Proofs.YticncpjpkgdnlaaGreatDoor

/-
  Numbers: the document's.
-/
set_option linter.unusedVariables false
set_option linter.unusedSimpArgs false
namespace Go.Proofs.YticncpjpkgdnlaaGreatDoor
open Go.RowKit
namespace Oc

theorem over_big10 {most n v : Int} (n0 : 0 ≤ n) (v0 : 0 ≤ v) (hm : v ≤ most) (h : (most - v) / 10 < n) : most < n * 10 + v := by omega
theorem over_fit10 {most n v : Int} (n0 : 0 ≤ n) (v0 : 0 ≤ v) (hm : v ≤ most) (h : ¬ (most - v) / 10 < n) : n * 10 + v ≤ most := by omega

theorem over_big16 {most n v : Int} (n0 : 0 ≤ n) (v0 : 0 ≤ v) (hm : v ≤ most) (h : (most - v) / 16 < n) : most < n * 16 + v := by omega
theorem over_fit16 {most n v : Int} (n0 : 0 ≤ n) (v0 : 0 ≤ v) (hm : v ≤ most) (h : ¬ (most - v) / 16 < n) : n * 16 + v ≤ most := by omega

set_option maxHeartbeats 400000 in
theorem Decimal_any (s : ByteArray) (hs : s.size ≤ maxLen) (most : Int) (m0 : -9223372036854775808 ≤ most) (m1 : most ≤ 9223372036854775807) (w : World) :
    Calls Tryz.prog 111 #[.string s, .int .i64 most] w fun e w' => e = .returned (.tuple #[.int .i64 (numR 10 s.data.toList most).1, .int .i64 (numR 10 s.data.toList most).2]) ∧ Below w.heap.size w w' := by
  go_enter Tryz.func111, Tryz.ntmps111
  go_wp2_with fail
  refine (number10 s hs most m0 m1 _).mono ?_
  rintro e w' ⟨rfl, hb⟩
  go_wp2
  go_ret2
  exact ⟨rfl, hb⟩

set_option maxHeartbeats 400000 in
theorem Hex_any (s : ByteArray) (hs : s.size ≤ maxLen) (most : Int) (m0 : -9223372036854775808 ≤ most) (m1 : most ≤ 9223372036854775807) (w : World) :
    Calls Tryz.prog 129 #[.string s, .int .i64 most] w fun e w' => e = .returned (.tuple #[.int .i64 (numR 16 s.data.toList most).1, .int .i64 (numR 16 s.data.toList most).2]) ∧ Below w.heap.size w w' := by
  go_enter Tryz.func129, Tryz.ntmps129
  go_wp2_with fail
  refine (number16 s hs most m0 m1 _).mono ?_
  rintro e w' ⟨rfl, hb⟩
  go_wp2
  go_ret2
  exact ⟨rfl, hb⟩

end Oc
end Go.Proofs.YticncpjpkgdnlaaGreatDoor

/-
  Tokens, bytes of fields; the answers that keep the laws awake.
-/
set_option linter.unusedVariables false
set_option linter.unusedSimpArgs false
namespace Go.Proofs.YticncpjpkgdnlaaGreatDoor
open Go.RowKit
namespace Oc

theorem empty_of {s : ByteArray} (h : s.size = 0) : s.toList.isEmpty = true := by rw [ByteArray.toList_eq]; simp [List.length_eq_zero_iff.1 ((size_list s).trans h)]
theorem nonempty_of {s : ByteArray} (h : ¬ s.size = 0) : s.toList.isEmpty = false := by
  rw [ByteArray.toList_eq]
  cases e : s.data.toList with
  | nil => have := size_list s; rw [e] at this; simp at this; omega
  | cons _ _ => rfl
theorem list_ne {s : ByteArray} (h : ¬ s.size = 0) : s.data.toList ≠ [] := by
  intro e
  have := size_list s
  rw [e] at this
  simp at this
  omega
theorem isTok_empty {s : ByteArray} (h : s.size = 0) : isTok s.data.toList = false := by
  have := List.length_eq_zero_iff.1 ((size_list s).trans h)
  rw [this]; rfl

set_option maxHeartbeats 400000 in
theorem IsToken_any (s : ByteArray) (hs : s.size ≤ maxLen) (w : World) (t : Tab w) :
    Calls Tryz.prog 66 #[.string s] w fun e w' => e = .returned (.bool (isTok s.data.toList)) ∧ Below w.heap.size w w' := by
  by_cases hz : s.size = 0
  · have he := empty_of hz
    have HE : Hid (isTok s.data.toList = false) := isTok_empty hz
    clear hz
    go_enter Tryz.func66, Tryz.ntmps66
    go_wp2
    go_ret
    exact ⟨ret_bool HE.out.symm, Below.refl _ _⟩
  · have he := nonempty_of hz
    have HE : Hid (isTok s.data.toList = decide ((tokLen s.data.toList : Int) = (s.data.toList.length : Int))) := isTok_len _ (list_ne hz)
    have HT : Hid (Tab w) := t
    clear t
    go_enter Tryz.func66, Tryz.ntmps66
    go_wp2_with fail
    refine (tokenLength_any s hs _ HT.out).mono ?_
    rintro e w' ⟨rfl, hb⟩
    go_wp2
    go_ret
    exact ⟨ret_bool (by rw [HE.out, size_list]; rw [Bool.eq_iff_iff, beq_iff_eq, decide_eq_true_iff]), hb⟩

set_option maxHeartbeats 400000 in
theorem rIsToken_any (s : ByteArray) (hs : s.size ≤ maxLen) (w : World) :
    Calls Tryz.prog 5 #[.string s] w fun e w' => e = .returned (.bool (isTok s.data.toList)) ∧ w' = w := by
  unfold maxLen at hs
  go_enter Tryz.func5, Tryz.ntmps5
  go_wp2
  go_loop [3] (fun i => ∃ k : Nat, k ≤ s.size ∧ i = .int .i64 k ∧ Hid (∀ j, j < k → tokI (byt s j) = true)) (fun i => s.size - (intOf i).toNat)
  case atStart => exact ⟨0, Nat.zero_le _, rfl, (fun j hj => by omega : ∀ j, j < 0 → _)⟩
  case round =>
    obtain ⟨k, hk, rfl, hall⟩ := hrel
    by_cases hlt : k < s.size
    · have hby : ((s[k].toNat : Nat) : Int) = byt s k := byt_at s k hlt
      obtain ⟨b0, b1⟩ := byt_bd s k
      cases ht : tokI (byt s k) with
      | true =>
        have HA : Hid (∀ j, j < k + 1 → tokI (byt s j) = true) := by
          intro j hj
          by_cases hjk : j = k
          · subst hjk; exact ht
          · exact hall.out j (by omega)
        go_wp2_with (go_at_call 8; refine (IsSign_any _ (by omega) (by omega) _).mono ?_; rintro e w' ⟨rfl, rfl⟩)
        go_round
        case rel => exact ⟨k + 1, by omega, by go_num, HA⟩
        case measure => simp [intOf]; omega
      | false =>
        have HE : Hid (isTok s.data.toList = false) := by
          show isTok _ = false
          unfold isTok
          rw [all_not tokB 0 _ k (by rw [size_list]; exact hlt) ht]
          simp
        go_wp2_with (go_at_call 8; refine (IsSign_any _ (by omega) (by omega) _).mono ?_; rintro e w' ⟨rfl, rfl⟩)
        go_ret
        exact ⟨ret_bool HE.out.symm, rfl⟩
    · have HA : Hid (s.data.toList.all tokB = true) := all_of tokB 0 _ (fun j hj => hall.out j (by rw [size_list] at hj; omega))
      by_cases hz : s.size = 0
      · have he := empty_of hz
        have HE : Hid (isTok s.data.toList = false) := isTok_empty hz
        clear hz
        go_wp2
        go_ret
        exact ⟨ret_bool HE.out.symm, rfl⟩
      · have he := nonempty_of hz
        have HE : Hid (isTok s.data.toList = true) := by
          show isTok _ = true
          unfold isTok
          rw [HA.out]
          rw [ByteArray.toList_eq] at he
          rw [he]; rfl
        go_wp2
        go_ret
        exact ⟨ret_bool HE.out.symm, rfl⟩

set_option maxHeartbeats 400000 in
theorem IsField_any (s : ByteArray) (hs : s.size ≤ maxLen) (w : World) :
    Calls Tryz.prog 76 #[.string s] w fun e w' => e = .returned (.bool (isFld s.data.toList)) ∧ Below w.heap.size w w' := by
  unfold maxLen at hs
  have hcv := fun w => Lib.run_convert_string_bytes (P := Tryz.prog) w 9 42 5 s Tryz.underlying9 Tryz.underlying42 Tryz.underlying5
  have hb := below_bytes w 5 s
  have hc := bytes_cell w 5 s
  go_enter Tryz.func76, Tryz.ntmps76
  go_wp2
  go_loop [8] (fun i => ∃ k : Nat, k ≤ s.size ∧ i = .int .i64 k ∧ Hid (∀ j, j < k → fieldI (byt s j) = true)) (fun i => s.size - (intOf i).toNat)
  case atStart => exact ⟨0, Nat.zero_le _, rfl, (fun j hj => by omega : ∀ j, j < 0 → _)⟩
  case round =>
    obtain ⟨k, hk, rfl, hall⟩ := hrel
    by_cases hlt : k < s.size
    · have hck := hc k hlt
      obtain ⟨b0, b1⟩ := byt_bd s k
      cases ht : fieldI (byt s k) with
      | true =>
        have HA : Hid (∀ j, j < k + 1 → fieldI (byt s j) = true) := by
          intro j hj
          by_cases hjk : j = k
          · subst hjk; exact ht
          · exact hall.out j (by omega)
        go_wp2_with (go_at_call 124; refine (isFieldByte_any _ b0 b1 _).mono ?_; rintro e w' ⟨rfl, rfl⟩)
        go_round
        case rel => exact ⟨k + 1, by omega, by go_num, HA⟩
        case measure => simp [intOf]; omega
      | false =>
        have HE : Hid (isFld s.data.toList = false) := all_not fieldB 0 _ k (by rw [size_list]; exact hlt) ht
        go_wp2_with (go_at_call 124; refine (isFieldByte_any _ b0 b1 _).mono ?_; rintro e w' ⟨rfl, rfl⟩)
        go_ret
        exact ⟨ret_bool HE.out.symm, hb⟩
    · have HE : Hid (isFld s.data.toList = true) := all_of fieldB 0 _ (fun j hj => hall.out j (by rw [size_list] at hj; omega))
      go_wp2
      go_ret
      exact ⟨ret_bool HE.out.symm, hb⟩

theorem low_ab : lowS ⟨#[97, 66]⟩ = ⟨#[97, 98]⟩ := by decide +kernel
theorem num_12 : numR 10 (⟨#[49, 50]⟩ : ByteArray).data.toList 12 = (12, 0) := by decide +kernel
theorem tok_x : isTok (⟨#[120]⟩ : ByteArray).data.toList = true := by decide +kernel

end Oc
end Go.Proofs.YticncpjpkgdnlaaGreatDoor

/-
  Texts without the blanks around.
-/
set_option linter.unusedVariables false
set_option linter.unusedSimpArgs false
namespace Go.Proofs.YticncpjpkgdnlaaGreatDoor
open Go.RowKit
namespace Oc

def trimL (l : List UInt8) : List UInt8 := l.dropWhile blankB
def trimR (l : List UInt8) : List UInt8 := (l.reverse.dropWhile blankB).reverse
def trim (l : List UInt8) : List UInt8 := trimR (trimL l)

theorem trimL_cons (x : UInt8) (l : List UInt8) : trimL (x :: l) = if blankB x then trimL l else x :: l := by
  unfold trimL; rw [List.dropWhile_cons]
theorem trimR_snoc (l : List UInt8) (x : UInt8) : trimR (l ++ [x]) = if blankB x then trimR l else l ++ [x] := by
  unfold trimR
  rw [List.reverse_append]
  show (List.dropWhile blankB (x :: l.reverse)).reverse = _
  rw [List.dropWhile_cons]
  split
  · rfl
  · simp
theorem trimR_nil : trimR [] = [] := rfl
theorem trimR_blank : ∀ l : List UInt8, l.all blankB = true → trimR l = [] := by
  intro l h
  unfold trimR
  have : List.dropWhile blankB l.reverse = [] := by
    have e : List.dropWhile blankB (l.reverse ++ []) = List.dropWhile blankB [] := List.dropWhile_append_of_pos (fun y hy => List.all_eq_true.1 h y (by simpa using hy))
    simpa using e
  rw [this]; rfl
theorem dropWhile_append_right (p : UInt8 → Bool) : ∀ (a b : List UInt8), a.all p = false → (a ++ b).dropWhile p = a.dropWhile p ++ b
  | [], b, h => by simp at h
  | x :: a, b, h => by
    rw [List.cons_append, List.dropWhile_cons, List.dropWhile_cons]
    cases hx : p x with
    | true =>
      have : a.all p = false := by simpa [hx] using h
      simp only [if_true]
      exact dropWhile_append_right p a b this
    | false => simp
theorem trimR_cons (x : UInt8) (l : List UInt8) : trimR (x :: l) = if l.all blankB then (if blankB x then [] else [x]) else x :: trimR l := by
  unfold trimR
  rw [List.reverse_cons]
  by_cases h : l.all blankB = true
  · rw [if_pos h]
    have e : List.dropWhile blankB (l.reverse ++ [x]) = List.dropWhile blankB [x] := List.dropWhile_append_of_pos (fun y hy => List.all_eq_true.1 h y (by simpa using hy))
    rw [e, List.dropWhile_cons]
    split <;> rfl
  · rw [if_neg h]
    have h' : l.reverse.all blankB = false := by
      rw [List.all_reverse]
      simpa using h
    rw [dropWhile_append_right blankB _ _ h']
    simp
theorem trim_comm : ∀ l : List UInt8, trimL (trimR l) = trimR (trimL l)
  | [] => rfl
  | x :: l => by
    have ih := trim_comm l
    rw [trimL_cons, trimR_cons]
    cases hx : blankB x with
    | true =>
      rw [if_pos rfl]
      by_cases h : l.all blankB = true
      · rw [if_pos h, if_pos rfl, ← ih, trimR_blank l h]
      · rw [if_neg h, trimL_cons, hx, if_pos rfl]
        exact ih
    | false =>
      rw [if_neg (show ¬ (false = true) by simp), if_neg (show ¬ (false = true) by simp), trimR_cons, hx, if_neg (show ¬ (false = true) by simp)]
      by_cases h : l.all blankB = true
      · rw [if_pos h, trimL_cons, hx, if_neg (by simp)]
      · rw [if_neg h, trimL_cons, hx, if_neg (by simp)]
theorem blank_set (c : UInt8) : ([32, 9] : List UInt8).contains c = blankB c := by
  have := c.toNat_lt
  unfold blankB blankI
  rw [Bool.eq_iff_iff, decide_eq_true_iff]
  simp only [List.contains_cons, List.contains_nil, Bool.or_false, Bool.or_eq_true, beq_iff_eq]
  constructor
  · rintro (rfl | rfl)
    · exact .inl rfl
    · exact .inr rfl
  · rintro (h | h)
    · exact .inl (UInt8.toNat_inj.1 (by show c.toNat = 32; omega))
    · exact .inr (UInt8.toNat_inj.1 (by show c.toNat = 9; omega))
theorem trimS_eq (l : List UInt8) : Lib.trimS l [32, 9] = trim l := by
  have e : (fun c => ([32, 9] : List UInt8).contains c) = blankB := funext blank_set
  unfold Lib.trimS Lib.trimLeftS Lib.trimRightS
  rw [e]
  exact trim_comm l
theorem trimLeftS_eq (l : List UInt8) : Lib.trimLeftS l [32, 9] = trimL l := by
  have e : (fun c => ([32, 9] : List UInt8).contains c) = blankB := funext blank_set
  unfold Lib.trimLeftS
  rw [e]
  rfl
theorem dropWhile_le (p : UInt8 → Bool) : ∀ l : List UInt8, (l.dropWhile p).length ≤ l.length
  | [] => Nat.le_refl _
  | x :: l => by
    rw [List.dropWhile_cons]
    split
    · have := dropWhile_le p l
      simp
      omega
    · exact Nat.le_refl _
theorem trimL_le (l : List UInt8) : (trimL l).length ≤ l.length := dropWhile_le _ _
theorem trimR_le (l : List UInt8) : (trimR l).length ≤ l.length := by
  unfold trimR
  rw [List.length_reverse]
  have := dropWhile_le blankB l.reverse
  simpa using this
theorem trim_le (l : List UInt8) : (trim l).length ≤ l.length := Nat.le_trans (trimR_le _) (trimL_le _)

def strLenV : Value → Nat | .string t => t.size | _ => 0

theorem cons_of {t : ByteArray} (h : ¬ t.size = 0) : t.data.toList = t.data.toList.getD 0 0 :: t.data.toList.drop 1 := by
  cases e : t.data.toList with
  | nil => exact absurd e (list_ne h)
  | cons a l => rfl
theorem snoc_of {t : ByteArray} (h : ¬ t.size = 0) : t.data.toList = t.data.toList.take (t.size - 1) ++ [t.data.toList.getD (t.size - 1) 0] := by
  have := take_snoc t (t.size - 1) (by omega)
  rw [show t.size - 1 + 1 = t.size by omega, List.take_of_length_le (by simp)] at this
  exact this
theorem tail_list (t : ByteArray) : (t.extract 1 t.size).data.toList = t.data.toList.drop 1 := Lib.extract_to_end t 1
theorem init_list (t : ByteArray) : (t.extract 0 (t.size - 1)).data.toList = t.data.toList.take (t.size - 1) := by rw [Lib.extract_data]; simp

end Oc
end Go.Proofs.YticncpjpkgdnlaaGreatDoor

/-
  The document's small answers of layer 6: signs, blanks, bytes of fields, tokens, small letters, texts without blanks around.
-/
set_option linter.unusedVariables false
set_option linter.unusedSimpArgs false
namespace Go.Proofs.YticncpjpkgdnlaaGreatDoor
open Go.RowKit
namespace Fd
open Oc

end Fd
end Go.Proofs.YticncpjpkgdnlaaGreatDoor
