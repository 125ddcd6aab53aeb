/- Several texts as one. -/
import Derived.Test.YtfpodnaaappocaaGreatDoorMgC
/-
  Numbers: the document's.
-/
set_option linter.unusedVariables false
set_option linter.unusedSimpArgs false
namespace Go.Proofs.YtfpodnaaappocaaGreatDoor
open Go.RowKit
namespace Oc

theorem over_big10 {most n v : Int} (n0 : 0 ≤ n) (v0 : 0 ≤ v) (hm : v ≤ most) (h : (most - v) / 10 < n) : most < n * 10 + v := by omega
theorem over_fit10 {most n v : Int} (n0 : 0 ≤ n) (v0 : 0 ≤ v) (hm : v ≤ most) (h : ¬ (most - v) / 10 < n) : n * 10 + v ≤ most := by omega

set_option maxRecDepth 100000 in
set_option maxHeartbeats 1000000 in
theorem rnumber10 (s : ByteArray) (hs : s.size ≤ maxLen) (most : Int) (m0 : -9223372036854775808 ≤ most) (m1 : most ≤ 9223372036854775807) (w : World) :
    Calls Tryz.prog 61 #[.string s, .int .i64 10, .int .i64 most] w fun e w' => e = .returned (.tuple #[.int .i64 (numR 10 s.data.toList most).1, .int .i64 (numR 10 s.data.toList most).2]) ∧ w' = w := by
  unfold maxLen at hs
  by_cases hz : s.size = 0
  · have he : s.toList.isEmpty = true := by rw [ByteArray.toList_eq]; simp [List.length_eq_zero_iff.1 ((size_list s).trans hz)]
    have HE : Hid (numR 10 s.data.toList most = (0, 11)) := numR_empty 10 most s hz
    clear hz
    go_enter Tryz.func61, Tryz.ntmps61
    go_wp2
    go_ret2
    exact ⟨ret_two HE.out, rfl⟩
  · have he : s.toList.isEmpty = false := by
      rw [ByteArray.toList_eq]
      cases h : s.data.toList with
      | nil => have := size_list s; rw [h] at this; simp at this; omega
      | cons _ _ => rfl
    go_enter Tryz.func61, Tryz.ntmps61
    go_wp2
    go_loop [8] (fun i => ∃ k : Nat, k ≤ s.size ∧ i = .int .i64 k ∧ Hid (∀ j, j < k → valI (byt s j) < 10)) (fun i => s.size - (intOf i).toNat)
    case atStart => exact ⟨0, Nat.zero_le _, rfl, (fun j hj => by omega : ∀ j, j < 0 → _)⟩
    case round =>
      obtain ⟨k, hk, rfl, hall⟩ := hrel
      by_cases hlt : k < s.size
      · have hby : ((s[k].toNat : Nat) : Int) = byt s k := byt_at s k hlt
        obtain ⟨b0, b1⟩ := byt_bd s k
        by_cases hv : valI (byt s k) < 10
        · have HA : Hid (∀ j, j < k + 1 → valI (byt s j) < 10) := by
            intro j hj
            by_cases hjk : j = k
            · subst hjk; exact hv
            · exact hall.out j (by omega)
          have hd : digI (byt s k) = true := by rw [digI_val]; exact decide_eq_true hv
          go_wp2_with (go_at_call 51; refine (IsDigit_any _ (by omega) (by omega) _).mono ?_; rintro e w' ⟨rfl, rfl⟩)
          go_round
          case rel => exact ⟨k + 1, by omega, by go_num, HA⟩
          case measure => simp [intOf]; omega
        · have HE : Hid (numR 10 s.data.toList most = (0, 11)) := numR_bad 10 most s k hlt (by omega)
          have hd : digI (byt s k) = false := by rw [digI_val]; exact decide_eq_false hv
          go_wp2_with (go_at_call 51; refine (IsDigit_any _ (by omega) (by omega) _).mono ?_; rintro e w' ⟨rfl, rfl⟩)
          go_ret2
          exact ⟨ret_two HE.out, rfl⟩
      · obtain rfl : k = s.size := by omega
        go_wp2
        go_loop [9, 10] (fun nv i => ∃ k : Nat, k ≤ s.size ∧ i = .int .i64 k ∧ ∃ n : Int, nv = .int .i64 n ∧ Hid (n = pre 10 s k) ∧ Hid (n ≤ most ∨ k = 0) ∧ 0 ≤ n ∧ n ≤ 9223372036854775807) (fun _ i => s.size - (intOf i).toNat)
        case atStart => exact ⟨0, Nat.zero_le _, rfl, 0, rfl, (pre_zero 10 s).symm, (.inr rfl : _ ∨ _), by omega, by omega⟩
        case round =>
          obtain ⟨k, hk, rfl, n, rfl, hst, hle, n0, n1⟩ := hrel
          by_cases hlt : k < s.size
          · have hby : ((s[k].toNat : Nat) : Int) = byt s k := byt_at s k hlt
            obtain ⟨b0, b1⟩ := byt_bd s k
            obtain ⟨v0, v1⟩ := valI_bd b0
            have hv := hall.out k hlt
            have HP : Hid (pre 10 s (k + 1) = pre 10 s k * 10 + valI (byt s k)) := pre_succ 10 s k hlt
            have HX : Hid (hexI (byt s k) = true) := hex_of_val (by omega) hv
            have HM : Hid (pre 10 s (k + 1) ≤ pre 10 s s.size) := pre_le 10 (by omega) s _ _ (by omega) (Nat.le_refl _)
            by_cases hm : most < valI (byt s k)
            · have HE : Hid (numR 10 s.data.toList most = (0, 12)) := numR_big 10 most s (by omega) hall.out (by
                have h1 := HP.out; have h2 := HM.out; have h3 := pre_nonneg 10 (by omega) s k hk; omega)
              go_wp2_with (go_at_call 74; refine (value_any _ (by omega) (by omega) HX.out _).mono ?_; rintro e w' ⟨rfl, rfl⟩)
              go_ret2
              exact ⟨ret_two HE.out, rfl⟩
            · have hm' : valI (byt s k) ≤ most := by omega
              by_cases ho : (most - valI (byt s k)) / 10 < n
              · have HE : Hid (numR 10 s.data.toList most = (0, 12)) := numR_big 10 most s (by omega) hall.out (by
                  have h1 := HP.out; have h2 := HM.out; have h3 := over_big10 n0 v0 hm' ho; rw [hst.out] at h3; omega)
                go_wp2_with (go_at_call 74; refine (value_any _ (by omega) (by omega) HX.out _).mono ?_; rintro e w' ⟨rfl, rfl⟩)
                go_ret2
                exact ⟨ret_two HE.out, rfl⟩
              · have hfit := over_fit10 n0 v0 hm' ho
                go_wp2_with (go_at_call 74; refine (value_any _ (by omega) (by omega) HX.out _).mono ?_; rintro e w' ⟨rfl, rfl⟩)
                go_round
                case rel => exact ⟨k + 1, by omega, by go_num, n * 10 + valI (byt s k), rfl, (by rw [HP.out, ← hst.out] : _ = pre 10 s (k + 1)), (.inl hfit : _ ∨ _), by omega, by omega⟩
                case measure => simp [intOf]; omega
          · obtain rfl : k = s.size := by omega
            have hnm : n ≤ most := by rcases hle.out with h | h <;> omega
            have HE : Hid (numR 10 s.data.toList most = (n, 0)) := by
              have h1 := numR_fits 10 most s (by omega) hall.out (by rw [← hst.out]; exact hnm)
              rw [← hst.out] at h1
              exact h1
            go_wp2
            go_ret2
            exact ⟨ret_two HE.out, rfl⟩

theorem over_big16 {most n v : Int} (n0 : 0 ≤ n) (v0 : 0 ≤ v) (hm : v ≤ most) (h : (most - v) / 16 < n) : most < n * 16 + v := by omega
theorem over_fit16 {most n v : Int} (n0 : 0 ≤ n) (v0 : 0 ≤ v) (hm : v ≤ most) (h : ¬ (most - v) / 16 < n) : n * 16 + v ≤ most := by omega

set_option maxRecDepth 100000 in
set_option maxHeartbeats 1000000 in
theorem rnumber16 (s : ByteArray) (hs : s.size ≤ maxLen) (most : Int) (m0 : -9223372036854775808 ≤ most) (m1 : most ≤ 9223372036854775807) (w : World) :
    Calls Tryz.prog 61 #[.string s, .int .i64 16, .int .i64 most] w fun e w' => e = .returned (.tuple #[.int .i64 (numR 16 s.data.toList most).1, .int .i64 (numR 16 s.data.toList most).2]) ∧ w' = w := by
  unfold maxLen at hs
  by_cases hz : s.size = 0
  · have he : s.toList.isEmpty = true := by rw [ByteArray.toList_eq]; simp [List.length_eq_zero_iff.1 ((size_list s).trans hz)]
    have HE : Hid (numR 16 s.data.toList most = (0, 11)) := numR_empty 16 most s hz
    clear hz
    go_enter Tryz.func61, Tryz.ntmps61
    go_wp2
    go_ret2
    exact ⟨ret_two HE.out, rfl⟩
  · have he : s.toList.isEmpty = false := by
      rw [ByteArray.toList_eq]
      cases h : s.data.toList with
      | nil => have := size_list s; rw [h] at this; simp at this; omega
      | cons _ _ => rfl
    go_enter Tryz.func61, Tryz.ntmps61
    go_wp2
    go_loop [8] (fun i => ∃ k : Nat, k ≤ s.size ∧ i = .int .i64 k ∧ Hid (∀ j, j < k → valI (byt s j) < 16)) (fun i => s.size - (intOf i).toNat)
    case atStart => exact ⟨0, Nat.zero_le _, rfl, (fun j hj => by omega : ∀ j, j < 0 → _)⟩
    case round =>
      obtain ⟨k, hk, rfl, hall⟩ := hrel
      by_cases hlt : k < s.size
      · have hby : ((s[k].toNat : Nat) : Int) = byt s k := byt_at s k hlt
        obtain ⟨b0, b1⟩ := byt_bd s k
        by_cases hv : valI (byt s k) < 16
        · have HA : Hid (∀ j, j < k + 1 → valI (byt s j) < 16) := by
            intro j hj
            by_cases hjk : j = k
            · subst hjk; exact hv
            · exact hall.out j (by omega)
          have hd : hexI (byt s k) = true := by rw [hexI_val]; exact decide_eq_true hv
          go_wp2_with (go_at_call 48; refine (IsHex_any _ (by omega) (by omega) _).mono ?_; rintro e w' ⟨rfl, rfl⟩)
          go_round
          case rel => exact ⟨k + 1, by omega, by go_num, HA⟩
          case measure => simp [intOf]; omega
        · have HE : Hid (numR 16 s.data.toList most = (0, 11)) := numR_bad 16 most s k hlt (by omega)
          have hd : hexI (byt s k) = false := by rw [hexI_val]; exact decide_eq_false hv
          go_wp2_with (go_at_call 48; refine (IsHex_any _ (by omega) (by omega) _).mono ?_; rintro e w' ⟨rfl, rfl⟩)
          go_ret2
          exact ⟨ret_two HE.out, rfl⟩
      · obtain rfl : k = s.size := by omega
        go_wp2
        go_loop [9, 10] (fun nv i => ∃ k : Nat, k ≤ s.size ∧ i = .int .i64 k ∧ ∃ n : Int, nv = .int .i64 n ∧ Hid (n = pre 16 s k) ∧ Hid (n ≤ most ∨ k = 0) ∧ 0 ≤ n ∧ n ≤ 9223372036854775807) (fun _ i => s.size - (intOf i).toNat)
        case atStart => exact ⟨0, Nat.zero_le _, rfl, 0, rfl, (pre_zero 16 s).symm, (.inr rfl : _ ∨ _), by omega, by omega⟩
        case round =>
          obtain ⟨k, hk, rfl, n, rfl, hst, hle, n0, n1⟩ := hrel
          by_cases hlt : k < s.size
          · have hby : ((s[k].toNat : Nat) : Int) = byt s k := byt_at s k hlt
            obtain ⟨b0, b1⟩ := byt_bd s k
            obtain ⟨v0, v1⟩ := valI_bd b0
            have hv := hall.out k hlt
            have HP : Hid (pre 16 s (k + 1) = pre 16 s k * 16 + valI (byt s k)) := pre_succ 16 s k hlt
            have HX : Hid (hexI (byt s k) = true) := hex_of_val (by omega) hv
            have HM : Hid (pre 16 s (k + 1) ≤ pre 16 s s.size) := pre_le 16 (by omega) s _ _ (by omega) (Nat.le_refl _)
            by_cases hm : most < valI (byt s k)
            · have HE : Hid (numR 16 s.data.toList most = (0, 12)) := numR_big 16 most s (by omega) hall.out (by
                have h1 := HP.out; have h2 := HM.out; have h3 := pre_nonneg 16 (by omega) s k hk; omega)
              go_wp2_with (go_at_call 74; refine (value_any _ (by omega) (by omega) HX.out _).mono ?_; rintro e w' ⟨rfl, rfl⟩)
              go_ret2
              exact ⟨ret_two HE.out, rfl⟩
            · have hm' : valI (byt s k) ≤ most := by omega
              by_cases ho : (most - valI (byt s k)) / 16 < n
              · have HE : Hid (numR 16 s.data.toList most = (0, 12)) := numR_big 16 most s (by omega) hall.out (by
                  have h1 := HP.out; have h2 := HM.out; have h3 := over_big16 n0 v0 hm' ho; rw [hst.out] at h3; omega)
                go_wp2_with (go_at_call 74; refine (value_any _ (by omega) (by omega) HX.out _).mono ?_; rintro e w' ⟨rfl, rfl⟩)
                go_ret2
                exact ⟨ret_two HE.out, rfl⟩
              · have hfit := over_fit16 n0 v0 hm' ho
                go_wp2_with (go_at_call 74; refine (value_any _ (by omega) (by omega) HX.out _).mono ?_; rintro e w' ⟨rfl, rfl⟩)
                go_round
                case rel => exact ⟨k + 1, by omega, by go_num, n * 16 + valI (byt s k), rfl, (by rw [HP.out, ← hst.out] : _ = pre 16 s (k + 1)), (.inl hfit : _ ∨ _), by omega, by omega⟩
                case measure => simp [intOf]; omega
          · obtain rfl : k = s.size := by omega
            have hnm : n ≤ most := by rcases hle.out with h | h <;> omega
            have HE : Hid (numR 16 s.data.toList most = (n, 0)) := by
              have h1 := numR_fits 16 most s (by omega) hall.out (by rw [← hst.out]; exact hnm)
              rw [← hst.out] at h1
              exact h1
            go_wp2
            go_ret2
            exact ⟨ret_two HE.out, rfl⟩

set_option maxHeartbeats 400000 in
theorem Decimal_any (s : ByteArray) (hs : s.size ≤ maxLen) (most : Int) (m0 : -9223372036854775808 ≤ most) (m1 : most ≤ 9223372036854775807) (w : World) :
    Calls Tryz.prog 86 #[.string s, .int .i64 most] w fun e w' => e = .returned (.tuple #[.int .i64 (numR 10 s.data.toList most).1, .int .i64 (numR 10 s.data.toList most).2]) ∧ Below w.heap.size w w' := by
  go_enter Tryz.func86, Tryz.ntmps86
  go_wp2_with fail
  refine (number10 s hs most m0 m1 _).mono ?_
  rintro e w' ⟨rfl, hb⟩
  go_wp2
  go_ret2
  exact ⟨rfl, hb⟩

set_option maxHeartbeats 400000 in
theorem Hex_any (s : ByteArray) (hs : s.size ≤ maxLen) (most : Int) (m0 : -9223372036854775808 ≤ most) (m1 : most ≤ 9223372036854775807) (w : World) :
    Calls Tryz.prog 54 #[.string s, .int .i64 most] w fun e w' => e = .returned (.tuple #[.int .i64 (numR 16 s.data.toList most).1, .int .i64 (numR 16 s.data.toList most).2]) ∧ Below w.heap.size w w' := by
  go_enter Tryz.func54, Tryz.ntmps54
  go_wp2_with fail
  refine (number16 s hs most m0 m1 _).mono ?_
  rintro e w' ⟨rfl, hb⟩
  go_wp2
  go_ret2
  exact ⟨rfl, hb⟩

set_option maxHeartbeats 400000 in
theorem rHex_any (s : ByteArray) (hs : s.size ≤ maxLen) (most : Int) (m0 : -9223372036854775808 ≤ most) (m1 : most ≤ 9223372036854775807) (w : World) :
    Calls Tryz.prog 49 #[.string s, .int .i64 most] w fun e w' => e = .returned (.tuple #[.int .i64 (numR 16 s.data.toList most).1, .int .i64 (numR 16 s.data.toList most).2]) ∧ w' = w := by
  go_enter Tryz.func49, Tryz.ntmps49
  go_wp2_with fail
  refine (rnumber16 s hs most m0 m1 _).mono ?_
  rintro e w' ⟨rfl, rfl⟩
  go_wp2
  go_ret2
  exact ⟨rfl, rfl⟩

end Oc
end Go.Proofs.YtfpodnaaappocaaGreatDoor

/-
  Tokens, bytes of fields; the answers that keep the laws awake.
-/
set_option linter.unusedVariables false
set_option linter.unusedSimpArgs false
namespace Go.Proofs.YtfpodnaaappocaaGreatDoor
open Go.RowKit
namespace Oc

theorem empty_of {s : ByteArray} (h : s.size = 0) : s.toList.isEmpty = true := by rw [ByteArray.toList_eq]; simp [List.length_eq_zero_iff.1 ((size_list s).trans h)]
theorem nonempty_of {s : ByteArray} (h : ¬ s.size = 0) : s.toList.isEmpty = false := by
  rw [ByteArray.toList_eq]
  cases e : s.data.toList with
  | nil => have := size_list s; rw [e] at this; simp at this; omega
  | cons _ _ => rfl
theorem list_ne {s : ByteArray} (h : ¬ s.size = 0) : s.data.toList ≠ [] := by
  intro e
  have := size_list s
  rw [e] at this
  simp at this
  omega
theorem isTok_empty {s : ByteArray} (h : s.size = 0) : isTok s.data.toList = false := by
  have := List.length_eq_zero_iff.1 ((size_list s).trans h)
  rw [this]; rfl

theorem low_ab : lowS ⟨#[97, 66]⟩ = ⟨#[97, 98]⟩ := by decide +kernel
theorem num_12 : numR 10 (⟨#[49, 50]⟩ : ByteArray).data.toList 12 = (12, 0) := by decide +kernel
theorem tok_x : isTok (⟨#[120]⟩ : ByteArray).data.toList = true := by decide +kernel

end Oc
end Go.Proofs.YtfpodnaaappocaaGreatDoor
