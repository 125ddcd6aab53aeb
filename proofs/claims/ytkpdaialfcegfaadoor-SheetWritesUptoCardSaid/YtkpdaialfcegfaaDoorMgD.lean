/- Several texts as one. -/
import Derived.Test.YtkpdaialfcegfaaDoorMgC
import Derived.Deep.QuietTactic
import Derived.BigQuiet
/-
  Numbers: the document's.
-/
set_option linter.unusedVariables false
set_option linter.unusedSimpArgs false
namespace Go.Proofs.YtkpdaialfcegfaaDoor
open Go.RowKit
namespace Oc

theorem over_big10 {most n v : Int} (n0 : 0 ≤ n) (v0 : 0 ≤ v) (hm : v ≤ most) (h : (most - v) / 10 < n) : most < n * 10 + v := by omega
theorem over_fit10 {most n v : Int} (n0 : 0 ≤ n) (v0 : 0 ≤ v) (hm : v ≤ most) (h : ¬ (most - v) / 10 < n) : n * 10 + v ≤ most := by omega

set_option maxRecDepth 100000 in
set_option maxHeartbeats 1000000 in
theorem rnumber10 (s : ByteArray) (hs : s.size ≤ maxLen) (most : Int) (m0 : -9223372036854775808 ≤ most) (m1 : most ≤ 9223372036854775807) (w : World) :
    Calls Tryd.prog 124 #[.string s, .int .i64 10, .int .i64 most] w fun e w' => e = .returned (.tuple #[.int .i64 (numR 10 s.data.toList most).1, .int .i64 (numR 10 s.data.toList most).2]) ∧ w' = w := by
  unfold maxLen at hs
  by_cases hz : s.size = 0
  · have he : s.toList.isEmpty = true := by rw [ByteArray.toList_eq]; simp [List.length_eq_zero_iff.1 ((size_list s).trans hz)]
    have HE : Hid (numR 10 s.data.toList most = (0, 11)) := numR_empty 10 most s hz
    clear hz
    go_enter Tryd.func124, Tryd.ntmps124
    go_wp2
    go_ret2
    exact ⟨ret_two HE.out, rfl⟩
  · have he : s.toList.isEmpty = false := by
      rw [ByteArray.toList_eq]
      cases h : s.data.toList with
      | nil => have := size_list s; rw [h] at this; simp at this; omega
      | cons _ _ => rfl
    go_enter Tryd.func124, Tryd.ntmps124
    go_wp2
    go_loop [8] (fun i => ∃ k : Nat, k ≤ s.size ∧ i = .int .i64 k ∧ Hid (∀ j, j < k → valI (byt s j) < 10)) (fun i => s.size - (intOf i).toNat)
    case atStart => exact ⟨0, Nat.zero_le _, rfl, (fun j hj => by omega : ∀ j, j < 0 → _)⟩
    case round =>
      obtain ⟨k, hk, rfl, hall⟩ := hrel
      by_cases hlt : k < s.size
      · have hby : ((s[k].toNat : Nat) : Int) = byt s k := byt_at s k hlt
        obtain ⟨b0, b1⟩ := byt_bd s k
        by_cases hv : valI (byt s k) < 10
        · have HA : Hid (∀ j, j < k + 1 → valI (byt s j) < 10) := by
            intro j hj
            by_cases hjk : j = k
            · subst hjk; exact hv
            · exact hall.out j (by omega)
          have hd : digI (byt s k) = true := by rw [digI_val]; exact decide_eq_true hv
          go_wp2_with (go_at_call 35; refine (IsDigit_any _ (by omega) (by omega) _).mono ?_; rintro e w' ⟨rfl, rfl⟩)
          go_round
          case rel => exact ⟨k + 1, by omega, by go_num, HA⟩
          case measure => simp [intOf]; omega
        · have HE : Hid (numR 10 s.data.toList most = (0, 11)) := numR_bad 10 most s k hlt (by omega)
          have hd : digI (byt s k) = false := by rw [digI_val]; exact decide_eq_false hv
          go_wp2_with (go_at_call 35; refine (IsDigit_any _ (by omega) (by omega) _).mono ?_; rintro e w' ⟨rfl, rfl⟩)
          go_ret2
          exact ⟨ret_two HE.out, rfl⟩
      · obtain rfl : k = s.size := by omega
        go_wp2
        go_loop [9, 10] (fun nv i => ∃ k : Nat, k ≤ s.size ∧ i = .int .i64 k ∧ ∃ n : Int, nv = .int .i64 n ∧ Hid (n = pre 10 s k) ∧ Hid (n ≤ most ∨ k = 0) ∧ 0 ≤ n ∧ n ≤ 9223372036854775807) (fun _ i => s.size - (intOf i).toNat)
        case atStart => exact ⟨0, Nat.zero_le _, rfl, 0, rfl, (pre_zero 10 s).symm, (.inr rfl : _ ∨ _), by omega, by omega⟩
        case round =>
          obtain ⟨k, hk, rfl, n, rfl, hst, hle, n0, n1⟩ := hrel
          by_cases hlt : k < s.size
          · have hby : ((s[k].toNat : Nat) : Int) = byt s k := byt_at s k hlt
            obtain ⟨b0, b1⟩ := byt_bd s k
            obtain ⟨v0, v1⟩ := valI_bd b0
            have hv := hall.out k hlt
            have HP : Hid (pre 10 s (k + 1) = pre 10 s k * 10 + valI (byt s k)) := pre_succ 10 s k hlt
            have HX : Hid (hexI (byt s k) = true) := hex_of_val (by omega) hv
            have HM : Hid (pre 10 s (k + 1) ≤ pre 10 s s.size) := pre_le 10 (by omega) s _ _ (by omega) (Nat.le_refl _)
            by_cases hm : most < valI (byt s k)
            · have HE : Hid (numR 10 s.data.toList most = (0, 12)) := numR_big 10 most s (by omega) hall.out (by
                have h1 := HP.out; have h2 := HM.out; have h3 := pre_nonneg 10 (by omega) s k hk; omega)
              go_wp2_with (go_at_call 139; refine (value_any _ (by omega) (by omega) HX.out _).mono ?_; rintro e w' ⟨rfl, rfl⟩)
              go_ret2
              exact ⟨ret_two HE.out, rfl⟩
            · have hm' : valI (byt s k) ≤ most := by omega
              by_cases ho : (most - valI (byt s k)) / 10 < n
              · have HE : Hid (numR 10 s.data.toList most = (0, 12)) := numR_big 10 most s (by omega) hall.out (by
                  have h1 := HP.out; have h2 := HM.out; have h3 := over_big10 n0 v0 hm' ho; rw [hst.out] at h3; omega)
                go_wp2_with (go_at_call 139; refine (value_any _ (by omega) (by omega) HX.out _).mono ?_; rintro e w' ⟨rfl, rfl⟩)
                go_ret2
                exact ⟨ret_two HE.out, rfl⟩
              · have hfit := over_fit10 n0 v0 hm' ho
                go_wp2_with (go_at_call 139; refine (value_any _ (by omega) (by omega) HX.out _).mono ?_; rintro e w' ⟨rfl, rfl⟩)
                go_round
                case rel => exact ⟨k + 1, by omega, by go_num, n * 10 + valI (byt s k), rfl, (by rw [HP.out, ← hst.out] : _ = pre 10 s (k + 1)), (.inl hfit : _ ∨ _), by omega, by omega⟩
                case measure => simp [intOf]; omega
          · obtain rfl : k = s.size := by omega
            have hnm : n ≤ most := by rcases hle.out with h | h <;> omega
            have HE : Hid (numR 10 s.data.toList most = (n, 0)) := by
              have h1 := numR_fits 10 most s (by omega) hall.out (by rw [← hst.out]; exact hnm)
              rw [← hst.out] at h1
              exact h1
            go_wp2
            go_ret2
            exact ⟨ret_two HE.out, rfl⟩

theorem over_big16 {most n v : Int} (n0 : 0 ≤ n) (v0 : 0 ≤ v) (hm : v ≤ most) (h : (most - v) / 16 < n) : most < n * 16 + v := by omega
theorem over_fit16 {most n v : Int} (n0 : 0 ≤ n) (v0 : 0 ≤ v) (hm : v ≤ most) (h : ¬ (most - v) / 16 < n) : n * 16 + v ≤ most := by omega

set_option maxRecDepth 100000 in
set_option maxHeartbeats 1000000 in
theorem rnumber16 (s : ByteArray) (hs : s.size ≤ maxLen) (most : Int) (m0 : -9223372036854775808 ≤ most) (m1 : most ≤ 9223372036854775807) (w : World) :
    Calls Tryd.prog 124 #[.string s, .int .i64 16, .int .i64 most] w fun e w' => e = .returned (.tuple #[.int .i64 (numR 16 s.data.toList most).1, .int .i64 (numR 16 s.data.toList most).2]) ∧ w' = w := by
  unfold maxLen at hs
  by_cases hz : s.size = 0
  · have he : s.toList.isEmpty = true := by rw [ByteArray.toList_eq]; simp [List.length_eq_zero_iff.1 ((size_list s).trans hz)]
    have HE : Hid (numR 16 s.data.toList most = (0, 11)) := numR_empty 16 most s hz
    clear hz
    go_enter Tryd.func124, Tryd.ntmps124
    go_wp2
    go_ret2
    exact ⟨ret_two HE.out, rfl⟩
  · have he : s.toList.isEmpty = false := by
      rw [ByteArray.toList_eq]
      cases h : s.data.toList with
      | nil => have := size_list s; rw [h] at this; simp at this; omega
      | cons _ _ => rfl
    go_enter Tryd.func124, Tryd.ntmps124
    go_wp2
    go_loop [8] (fun i => ∃ k : Nat, k ≤ s.size ∧ i = .int .i64 k ∧ Hid (∀ j, j < k → valI (byt s j) < 16)) (fun i => s.size - (intOf i).toNat)
    case atStart => exact ⟨0, Nat.zero_le _, rfl, (fun j hj => by omega : ∀ j, j < 0 → _)⟩
    case round =>
      obtain ⟨k, hk, rfl, hall⟩ := hrel
      by_cases hlt : k < s.size
      · have hby : ((s[k].toNat : Nat) : Int) = byt s k := byt_at s k hlt
        obtain ⟨b0, b1⟩ := byt_bd s k
        by_cases hv : valI (byt s k) < 16
        · have HA : Hid (∀ j, j < k + 1 → valI (byt s j) < 16) := by
            intro j hj
            by_cases hjk : j = k
            · subst hjk; exact hv
            · exact hall.out j (by omega)
          have hd : hexI (byt s k) = true := by rw [hexI_val]; exact decide_eq_true hv
          go_wp2_with (go_at_call 103; refine (IsHex_any _ (by omega) (by omega) _).mono ?_; rintro e w' ⟨rfl, rfl⟩)
          go_round
          case rel => exact ⟨k + 1, by omega, by go_num, HA⟩
          case measure => simp [intOf]; omega
        · have HE : Hid (numR 16 s.data.toList most = (0, 11)) := numR_bad 16 most s k hlt (by omega)
          have hd : hexI (byt s k) = false := by rw [hexI_val]; exact decide_eq_false hv
          go_wp2_with (go_at_call 103; refine (IsHex_any _ (by omega) (by omega) _).mono ?_; rintro e w' ⟨rfl, rfl⟩)
          go_ret2
          exact ⟨ret_two HE.out, rfl⟩
      · obtain rfl : k = s.size := by omega
        go_wp2
        go_loop [9, 10] (fun nv i => ∃ k : Nat, k ≤ s.size ∧ i = .int .i64 k ∧ ∃ n : Int, nv = .int .i64 n ∧ Hid (n = pre 16 s k) ∧ Hid (n ≤ most ∨ k = 0) ∧ 0 ≤ n ∧ n ≤ 9223372036854775807) (fun _ i => s.size - (intOf i).toNat)
        case atStart => exact ⟨0, Nat.zero_le _, rfl, 0, rfl, (pre_zero 16 s).symm, (.inr rfl : _ ∨ _), by omega, by omega⟩
        case round =>
          obtain ⟨k, hk, rfl, n, rfl, hst, hle, n0, n1⟩ := hrel
          by_cases hlt : k < s.size
          · have hby : ((s[k].toNat : Nat) : Int) = byt s k := byt_at s k hlt
            obtain ⟨b0, b1⟩ := byt_bd s k
            obtain ⟨v0, v1⟩ := valI_bd b0
            have hv := hall.out k hlt
            have HP : Hid (pre 16 s (k + 1) = pre 16 s k * 16 + valI (byt s k)) := pre_succ 16 s k hlt
            have HX : Hid (hexI (byt s k) = true) := hex_of_val (by omega) hv
            have HM : Hid (pre 16 s (k + 1) ≤ pre 16 s s.size) := pre_le 16 (by omega) s _ _ (by omega) (Nat.le_refl _)
            by_cases hm : most < valI (byt s k)
            · have HE : Hid (numR 16 s.data.toList most = (0, 12)) := numR_big 16 most s (by omega) hall.out (by
                have h1 := HP.out; have h2 := HM.out; have h3 := pre_nonneg 16 (by omega) s k hk; omega)
              go_wp2_with (go_at_call 139; refine (value_any _ (by omega) (by omega) HX.out _).mono ?_; rintro e w' ⟨rfl, rfl⟩)
              go_ret2
              exact ⟨ret_two HE.out, rfl⟩
            · have hm' : valI (byt s k) ≤ most := by omega
              by_cases ho : (most - valI (byt s k)) / 16 < n
              · have HE : Hid (numR 16 s.data.toList most = (0, 12)) := numR_big 16 most s (by omega) hall.out (by
                  have h1 := HP.out; have h2 := HM.out; have h3 := over_big16 n0 v0 hm' ho; rw [hst.out] at h3; omega)
                go_wp2_with (go_at_call 139; refine (value_any _ (by omega) (by omega) HX.out _).mono ?_; rintro e w' ⟨rfl, rfl⟩)
                go_ret2
                exact ⟨ret_two HE.out, rfl⟩
              · have hfit := over_fit16 n0 v0 hm' ho
                go_wp2_with (go_at_call 139; refine (value_any _ (by omega) (by omega) HX.out _).mono ?_; rintro e w' ⟨rfl, rfl⟩)
                go_round
                case rel => exact ⟨k + 1, by omega, by go_num, n * 16 + valI (byt s k), rfl, (by rw [HP.out, ← hst.out] : _ = pre 16 s (k + 1)), (.inl hfit : _ ∨ _), by omega, by omega⟩
                case measure => simp [intOf]; omega
          · obtain rfl : k = s.size := by omega
            have hnm : n ≤ most := by rcases hle.out with h | h <;> omega
            have HE : Hid (numR 16 s.data.toList most = (n, 0)) := by
              have h1 := numR_fits 16 most s (by omega) hall.out (by rw [← hst.out]; exact hnm)
              rw [← hst.out] at h1
              exact h1
            go_wp2
            go_ret2
            exact ⟨ret_two HE.out, rfl⟩

set_option maxHeartbeats 400000 in
theorem Hex_any (s : ByteArray) (hs : s.size ≤ maxLen) (most : Int) (m0 : -9223372036854775808 ≤ most) (m1 : most ≤ 9223372036854775807) (w : World) :
    Calls Tryd.prog 98 #[.string s, .int .i64 most] w fun e w' => e = .returned (.tuple #[.int .i64 (numR 16 s.data.toList most).1, .int .i64 (numR 16 s.data.toList most).2]) ∧ Below w.heap.size w w' := by
  go_enter Tryd.func98, Tryd.ntmps98
  go_wp2_with fail
  refine (number16 s hs most m0 m1 _).mono ?_
  rintro e w' ⟨rfl, hb⟩
  go_wp2
  go_ret2
  exact ⟨rfl, hb⟩

set_option maxHeartbeats 400000 in
theorem rHex_any (s : ByteArray) (hs : s.size ≤ maxLen) (most : Int) (m0 : -9223372036854775808 ≤ most) (m1 : most ≤ 9223372036854775807) (w : World) :
    Calls Tryd.prog 104 #[.string s, .int .i64 most] w fun e w' => e = .returned (.tuple #[.int .i64 (numR 16 s.data.toList most).1, .int .i64 (numR 16 s.data.toList most).2]) ∧ w' = w := by
  go_enter Tryd.func104, Tryd.ntmps104
  go_wp2_with fail
  refine (rnumber16 s hs most m0 m1 _).mono ?_
  rintro e w' ⟨rfl, rfl⟩
  go_wp2
  go_ret2
  exact ⟨rfl, rfl⟩

end Oc
end Go.Proofs.YtkpdaialfcegfaaDoor

/-
  octet.Same.
-/
set_option linter.unusedVariables false
set_option linter.unusedSimpArgs false
namespace Go.Proofs.YtkpdaialfcegfaaDoor
open Go.RowKit
namespace Oc

theorem lowS_eq {a b : ByteArray} (hn : a.size = b.size) (h : ∀ j, j < a.size → lowI (byt a j) = lowI (byt b j)) : lowS a = lowS b := by
  unfold lowS
  congr 1
  apply List.ext_getElem
  · simp [lower, hn]
  · intro j h1 h2
    have ha : j < a.data.toList.length := by simpa [lower] using h1
    have hb : j < b.data.toList.length := by simpa [lower] using h2
    have e1 := lower_getD _ j ha
    have e2 := lower_getD _ j hb
    have := h j (by rw [← size_list]; exact ha)
    unfold byt at this
    rw [← e1, ← e2] at this
    rw [List.getD_eq_getElem?_getD, List.getElem?_eq_getElem h1, List.getD_eq_getElem?_getD, List.getElem?_eq_getElem h2] at this
    exact UInt8.toNat_inj.1 (Int.ofNat.inj this)

theorem lowS_ne {a b : ByteArray} (k : Nat) (ha : k < a.size) (hb : k < b.size) (h : lowI (byt a k) ≠ lowI (byt b k)) : lowS a ≠ lowS b := by
  intro e
  have e := str_inj e
  apply h
  have e1 := lower_getD a.data.toList k (by rw [size_list]; exact ha)
  have e2 := lower_getD b.data.toList k (by rw [size_list]; exact hb)
  rw [e] at e1
  exact e1.symm.trans e2

theorem lowS_sizes {a b : ByteArray} (h : a.size ≠ b.size) : lowS a ≠ lowS b := by
  intro e
  have := congrArg ByteArray.size e
  rw [lowS_size, lowS_size] at this
  exact h this

theorem lowI_idem (c : Int) : lowI (lowI c) = lowI c := by unfold lowI; (repeat' split) <;> omega
theorem lowS_byt (s : ByteArray) (j : Nat) (h : j < s.size) : byt (lowS s) j = lowI (byt s j) := by
  unfold byt lowS
  rw [str_list, lower_getD _ _ (by rw [size_list]; exact h)]
theorem lowS_idem (a : ByteArray) : lowS (lowS a) = lowS a := by
  refine lowS_eq (lowS_size a) (fun j hj => ?_)
  rw [lowS_size] at hj
  rw [lowS_byt a j hj, lowI_idem]
theorem bel_trans {w w1 w2 : World} (a : Below w.heap.size w w1) (b : Below w1.heap.size w1 w2) : Below w.heap.size w w2 := a.trans (b.mono a.size)

end Oc
end Go.Proofs.YtkpdaialfcegfaaDoor
