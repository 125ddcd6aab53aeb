/- Several texts as one. -/
import Derived.Test.YtlnlhhobmgiceaaGreatDoorMgB
/-
  Numbers: the document's.
-/
set_option linter.unusedVariables false
set_option linter.unusedSimpArgs false
namespace Go.Proofs.YtlnlhhobmgiceaaGreatDoor
open Go.RowKit
namespace Oc

theorem over_big10 {most n v : Int} (n0 : 0 ≤ n) (v0 : 0 ≤ v) (hm : v ≤ most) (h : (most - v) / 10 < n) : most < n * 10 + v := by omega
theorem over_fit10 {most n v : Int} (n0 : 0 ≤ n) (v0 : 0 ≤ v) (hm : v ≤ most) (h : ¬ (most - v) / 10 < n) : n * 10 + v ≤ most := by omega

set_option maxRecDepth 100000 in
set_option maxHeartbeats 1000000 in
theorem rnumber10 (s : ByteArray) (hs : s.size ≤ maxLen) (most : Int) (m0 : -9223372036854775808 ≤ most) (m1 : most ≤ 9223372036854775807) (w : World) :
    Calls Tryz.prog 104 #[.string s, .int .i64 10, .int .i64 most] w fun e w' => e = .returned (.tuple #[.int .i64 (numR 10 s.data.toList most).1, .int .i64 (numR 10 s.data.toList most).2]) ∧ w' = w := by
  unfold maxLen at hs
  by_cases hz : s.size = 0
  · have he : s.toList.isEmpty = true := by rw [ByteArray.toList_eq]; simp [List.length_eq_zero_iff.1 ((size_list s).trans hz)]
    have HE : Hid (numR 10 s.data.toList most = (0, 11)) := numR_empty 10 most s hz
    clear hz
    go_enter Tryz.func104, Tryz.ntmps104
    go_wp2
    go_ret2
    exact ⟨ret_two HE.out, rfl⟩
  · have he : s.toList.isEmpty = false := by
      rw [ByteArray.toList_eq]
      cases h : s.data.toList with
      | nil => have := size_list s; rw [h] at this; simp at this; omega
      | cons _ _ => rfl
    go_enter Tryz.func104, Tryz.ntmps104
    go_wp2
    go_loop [8] (fun i => ∃ k : Nat, k ≤ s.size ∧ i = .int .i64 k ∧ Hid (∀ j, j < k → valI (byt s j) < 10)) (fun i => s.size - (intOf i).toNat)
    case atStart => exact ⟨0, Nat.zero_le _, rfl, (fun j hj => by omega : ∀ j, j < 0 → _)⟩
    case round =>
      obtain ⟨k, hk, rfl, hall⟩ := hrel
      by_cases hlt : k < s.size
      · have hby : ((s[k].toNat : Nat) : Int) = byt s k := byt_at s k hlt
        obtain ⟨b0, b1⟩ := byt_bd s k
        by_cases hv : valI (byt s k) < 10
        · have HA : Hid (∀ j, j < k + 1 → valI (byt s j) < 10) := by
            intro j hj
            by_cases hjk : j = k
            · subst hjk; exact hv
            · exact hall.out j (by omega)
          have hd : digI (byt s k) = true := by rw [digI_val]; exact decide_eq_true hv
          go_wp2_with (go_at_call 42; refine (IsDigit_any _ (by omega) (by omega) _).mono ?_; rintro e w' ⟨rfl, rfl⟩)
          go_round
          case rel => exact ⟨k + 1, by omega, by go_num, HA⟩
          case measure => simp [intOf]; omega
        · have HE : Hid (numR 10 s.data.toList most = (0, 11)) := numR_bad 10 most s k hlt (by omega)
          have hd : digI (byt s k) = false := by rw [digI_val]; exact decide_eq_false hv
          go_wp2_with (go_at_call 42; refine (IsDigit_any _ (by omega) (by omega) _).mono ?_; rintro e w' ⟨rfl, rfl⟩)
          go_ret2
          exact ⟨ret_two HE.out, rfl⟩
      · obtain rfl : k = s.size := by omega
        go_wp2
        go_loop [9, 10] (fun nv i => ∃ k : Nat, k ≤ s.size ∧ i = .int .i64 k ∧ ∃ n : Int, nv = .int .i64 n ∧ Hid (n = pre 10 s k) ∧ Hid (n ≤ most ∨ k = 0) ∧ 0 ≤ n ∧ n ≤ 9223372036854775807) (fun _ i => s.size - (intOf i).toNat)
        case atStart => exact ⟨0, Nat.zero_le _, rfl, 0, rfl, (pre_zero 10 s).symm, (.inr rfl : _ ∨ _), by omega, by omega⟩
        case round =>
          obtain ⟨k, hk, rfl, n, rfl, hst, hle, n0, n1⟩ := hrel
          by_cases hlt : k < s.size
          · have hby : ((s[k].toNat : Nat) : Int) = byt s k := byt_at s k hlt
            obtain ⟨b0, b1⟩ := byt_bd s k
            obtain ⟨v0, v1⟩ := valI_bd b0
            have hv := hall.out k hlt
            have HP : Hid (pre 10 s (k + 1) = pre 10 s k * 10 + valI (byt s k)) := pre_succ 10 s k hlt
            have HX : Hid (hexI (byt s k) = true) := hex_of_val (by omega) hv
            have HM : Hid (pre 10 s (k + 1) ≤ pre 10 s s.size) := pre_le 10 (by omega) s _ _ (by omega) (Nat.le_refl _)
            by_cases hm : most < valI (byt s k)
            · have HE : Hid (numR 10 s.data.toList most = (0, 12)) := numR_big 10 most s (by omega) hall.out (by
                have h1 := HP.out; have h2 := HM.out; have h3 := pre_nonneg 10 (by omega) s k hk; omega)
              go_wp2_with (go_at_call 123; refine (value_any _ (by omega) (by omega) HX.out _).mono ?_; rintro e w' ⟨rfl, rfl⟩)
              go_ret2
              exact ⟨ret_two HE.out, rfl⟩
            · have hm' : valI (byt s k) ≤ most := by omega
              by_cases ho : (most - valI (byt s k)) / 10 < n
              · have HE : Hid (numR 10 s.data.toList most = (0, 12)) := numR_big 10 most s (by omega) hall.out (by
                  have h1 := HP.out; have h2 := HM.out; have h3 := over_big10 n0 v0 hm' ho; rw [hst.out] at h3; omega)
                go_wp2_with (go_at_call 123; refine (value_any _ (by omega) (by omega) HX.out _).mono ?_; rintro e w' ⟨rfl, rfl⟩)
                go_ret2
                exact ⟨ret_two HE.out, rfl⟩
              · have hfit := over_fit10 n0 v0 hm' ho
                go_wp2_with (go_at_call 123; refine (value_any _ (by omega) (by omega) HX.out _).mono ?_; rintro e w' ⟨rfl, rfl⟩)
                go_round
                case rel => exact ⟨k + 1, by omega, by go_num, n * 10 + valI (byt s k), rfl, (by rw [HP.out, ← hst.out] : _ = pre 10 s (k + 1)), (.inl hfit : _ ∨ _), by omega, by omega⟩
                case measure => simp [intOf]; omega
          · obtain rfl : k = s.size := by omega
            have hnm : n ≤ most := by rcases hle.out with h | h <;> omega
            have HE : Hid (numR 10 s.data.toList most = (n, 0)) := by
              have h1 := numR_fits 10 most s (by omega) hall.out (by rw [← hst.out]; exact hnm)
              rw [← hst.out] at h1
              exact h1
            go_wp2
            go_ret2
            exact ⟨ret_two HE.out, rfl⟩

theorem over_big16 {most n v : Int} (n0 : 0 ≤ n) (v0 : 0 ≤ v) (hm : v ≤ most) (h : (most - v) / 16 < n) : most < n * 16 + v := by omega
theorem over_fit16 {most n v : Int} (n0 : 0 ≤ n) (v0 : 0 ≤ v) (hm : v ≤ most) (h : ¬ (most - v) / 16 < n) : n * 16 + v ≤ most := by omega

set_option maxRecDepth 100000 in
set_option maxHeartbeats 1000000 in
theorem rnumber16 (s : ByteArray) (hs : s.size ≤ maxLen) (most : Int) (m0 : -9223372036854775808 ≤ most) (m1 : most ≤ 9223372036854775807) (w : World) :
    Calls Tryz.prog 104 #[.string s, .int .i64 16, .int .i64 most] w fun e w' => e = .returned (.tuple #[.int .i64 (numR 16 s.data.toList most).1, .int .i64 (numR 16 s.data.toList most).2]) ∧ w' = w := by
  unfold maxLen at hs
  by_cases hz : s.size = 0
  · have he : s.toList.isEmpty = true := by rw [ByteArray.toList_eq]; simp [List.length_eq_zero_iff.1 ((size_list s).trans hz)]
    have HE : Hid (numR 16 s.data.toList most = (0, 11)) := numR_empty 16 most s hz
    clear hz
    go_enter Tryz.func104, Tryz.ntmps104
    go_wp2
    go_ret2
    exact ⟨ret_two HE.out, rfl⟩
  · have he : s.toList.isEmpty = false := by
      rw [ByteArray.toList_eq]
      cases h : s.data.toList with
      | nil => have := size_list s; rw [h] at this; simp at this; omega
      | cons _ _ => rfl
    go_enter Tryz.func104, Tryz.ntmps104
    go_wp2
    go_loop [8] (fun i => ∃ k : Nat, k ≤ s.size ∧ i = .int .i64 k ∧ Hid (∀ j, j < k → valI (byt s j) < 16)) (fun i => s.size - (intOf i).toNat)
    case atStart => exact ⟨0, Nat.zero_le _, rfl, (fun j hj => by omega : ∀ j, j < 0 → _)⟩
    case round =>
      obtain ⟨k, hk, rfl, hall⟩ := hrel
      by_cases hlt : k < s.size
      · have hby : ((s[k].toNat : Nat) : Int) = byt s k := byt_at s k hlt
        obtain ⟨b0, b1⟩ := byt_bd s k
        by_cases hv : valI (byt s k) < 16
        · have HA : Hid (∀ j, j < k + 1 → valI (byt s j) < 16) := by
            intro j hj
            by_cases hjk : j = k
            · subst hjk; exact hv
            · exact hall.out j (by omega)
          have hd : hexI (byt s k) = true := by rw [hexI_val]; exact decide_eq_true hv
          go_wp2_with (go_at_call 71; refine (IsHex_any _ (by omega) (by omega) _).mono ?_; rintro e w' ⟨rfl, rfl⟩)
          go_round
          case rel => exact ⟨k + 1, by omega, by go_num, HA⟩
          case measure => simp [intOf]; omega
        · have HE : Hid (numR 16 s.data.toList most = (0, 11)) := numR_bad 16 most s k hlt (by omega)
          have hd : hexI (byt s k) = false := by rw [hexI_val]; exact decide_eq_false hv
          go_wp2_with (go_at_call 71; refine (IsHex_any _ (by omega) (by omega) _).mono ?_; rintro e w' ⟨rfl, rfl⟩)
          go_ret2
          exact ⟨ret_two HE.out, rfl⟩
      · obtain rfl : k = s.size := by omega
        go_wp2
        go_loop [9, 10] (fun nv i => ∃ k : Nat, k ≤ s.size ∧ i = .int .i64 k ∧ ∃ n : Int, nv = .int .i64 n ∧ Hid (n = pre 16 s k) ∧ Hid (n ≤ most ∨ k = 0) ∧ 0 ≤ n ∧ n ≤ 9223372036854775807) (fun _ i => s.size - (intOf i).toNat)
        case atStart => exact ⟨0, Nat.zero_le _, rfl, 0, rfl, (pre_zero 16 s).symm, (.inr rfl : _ ∨ _), by omega, by omega⟩
        case round =>
          obtain ⟨k, hk, rfl, n, rfl, hst, hle, n0, n1⟩ := hrel
          by_cases hlt : k < s.size
          · have hby : ((s[k].toNat : Nat) : Int) = byt s k := byt_at s k hlt
            obtain ⟨b0, b1⟩ := byt_bd s k
            obtain ⟨v0, v1⟩ := valI_bd b0
            have hv := hall.out k hlt
            have HP : Hid (pre 16 s (k + 1) = pre 16 s k * 16 + valI (byt s k)) := pre_succ 16 s k hlt
            have HX : Hid (hexI (byt s k) = true) := hex_of_val (by omega) hv
            have HM : Hid (pre 16 s (k + 1) ≤ pre 16 s s.size) := pre_le 16 (by omega) s _ _ (by omega) (Nat.le_refl _)
            by_cases hm : most < valI (byt s k)
            · have HE : Hid (numR 16 s.data.toList most = (0, 12)) := numR_big 16 most s (by omega) hall.out (by
                have h1 := HP.out; have h2 := HM.out; have h3 := pre_nonneg 16 (by omega) s k hk; omega)
              go_wp2_with (go_at_call 123; refine (value_any _ (by omega) (by omega) HX.out _).mono ?_; rintro e w' ⟨rfl, rfl⟩)
              go_ret2
              exact ⟨ret_two HE.out, rfl⟩
            · have hm' : valI (byt s k) ≤ most := by omega
              by_cases ho : (most - valI (byt s k)) / 16 < n
              · have HE : Hid (numR 16 s.data.toList most = (0, 12)) := numR_big 16 most s (by omega) hall.out (by
                  have h1 := HP.out; have h2 := HM.out; have h3 := over_big16 n0 v0 hm' ho; rw [hst.out] at h3; omega)
                go_wp2_with (go_at_call 123; refine (value_any _ (by omega) (by omega) HX.out _).mono ?_; rintro e w' ⟨rfl, rfl⟩)
                go_ret2
                exact ⟨ret_two HE.out, rfl⟩
              · have hfit := over_fit16 n0 v0 hm' ho
                go_wp2_with (go_at_call 123; refine (value_any _ (by omega) (by omega) HX.out _).mono ?_; rintro e w' ⟨rfl, rfl⟩)
                go_round
                case rel => exact ⟨k + 1, by omega, by go_num, n * 16 + valI (byt s k), rfl, (by rw [HP.out, ← hst.out] : _ = pre 16 s (k + 1)), (.inl hfit : _ ∨ _), by omega, by omega⟩
                case measure => simp [intOf]; omega
          · obtain rfl : k = s.size := by omega
            have hnm : n ≤ most := by rcases hle.out with h | h <;> omega
            have HE : Hid (numR 16 s.data.toList most = (n, 0)) := by
              have h1 := numR_fits 16 most s (by omega) hall.out (by rw [← hst.out]; exact hnm)
              rw [← hst.out] at h1
              exact h1
            go_wp2
            go_ret2
            exact ⟨ret_two HE.out, rfl⟩

set_option maxHeartbeats 400000 in
theorem Hex_any (s : ByteArray) (hs : s.size ≤ maxLen) (most : Int) (m0 : -9223372036854775808 ≤ most) (m1 : most ≤ 9223372036854775807) (w : World) :
    Calls Tryz.prog 80 #[.string s, .int .i64 most] w fun e w' => e = .returned (.tuple #[.int .i64 (numR 16 s.data.toList most).1, .int .i64 (numR 16 s.data.toList most).2]) ∧ Below w.heap.size w w' := by
  go_enter Tryz.func80, Tryz.ntmps80
  go_wp2_with fail
  refine (number16 s hs most m0 m1 _).mono ?_
  rintro e w' ⟨rfl, hb⟩
  go_wp2
  go_ret2
  exact ⟨rfl, hb⟩

set_option maxHeartbeats 400000 in
theorem rHex_any (s : ByteArray) (hs : s.size ≤ maxLen) (most : Int) (m0 : -9223372036854775808 ≤ most) (m1 : most ≤ 9223372036854775807) (w : World) :
    Calls Tryz.prog 72 #[.string s, .int .i64 most] w fun e w' => e = .returned (.tuple #[.int .i64 (numR 16 s.data.toList most).1, .int .i64 (numR 16 s.data.toList most).2]) ∧ w' = w := by
  go_enter Tryz.func72, Tryz.ntmps72
  go_wp2_with fail
  refine (rnumber16 s hs most m0 m1 _).mono ?_
  rintro e w' ⟨rfl, rfl⟩
  go_wp2
  go_ret2
  exact ⟨rfl, rfl⟩

end Oc
end Go.Proofs.YtlnlhhobmgiceaaGreatDoor

/-
  Tokens, bytes of fields; the answers that keep the laws awake.
-/
set_option linter.unusedVariables false
set_option linter.unusedSimpArgs false
namespace Go.Proofs.YtlnlhhobmgiceaaGreatDoor
open Go.RowKit
namespace Oc

theorem empty_of {s : ByteArray} (h : s.size = 0) : s.toList.isEmpty = true := by rw [ByteArray.toList_eq]; simp [List.length_eq_zero_iff.1 ((size_list s).trans h)]
theorem nonempty_of {s : ByteArray} (h : ¬ s.size = 0) : s.toList.isEmpty = false := by
  rw [ByteArray.toList_eq]
  cases e : s.data.toList with
  | nil => have := size_list s; rw [e] at this; simp at this; omega
  | cons _ _ => rfl
theorem list_ne {s : ByteArray} (h : ¬ s.size = 0) : s.data.toList ≠ [] := by
  intro e
  have := size_list s
  rw [e] at this
  simp at this
  omega
theorem isTok_empty {s : ByteArray} (h : s.size = 0) : isTok s.data.toList = false := by
  have := List.length_eq_zero_iff.1 ((size_list s).trans h)
  rw [this]; rfl

set_option maxHeartbeats 400000 in
theorem IsToken_any (s : ByteArray) (hs : s.size ≤ maxLen) (w : World) (t : Tab w) :
    Calls Tryz.prog 30 #[.string s] w fun e w' => e = .returned (.bool (isTok s.data.toList)) ∧ Below w.heap.size w w' := by
  by_cases hz : s.size = 0
  · have he := empty_of hz
    have HE : Hid (isTok s.data.toList = false) := isTok_empty hz
    clear hz
    go_enter Tryz.func30, Tryz.ntmps30
    go_wp2
    go_ret
    exact ⟨ret_bool HE.out.symm, Below.refl _ _⟩
  · have he := nonempty_of hz
    have HE : Hid (isTok s.data.toList = decide ((tokLen s.data.toList : Int) = (s.data.toList.length : Int))) := isTok_len _ (list_ne hz)
    have HT : Hid (Tab w) := t
    clear t
    go_enter Tryz.func30, Tryz.ntmps30
    go_wp2_with fail
    refine (tokenLength_any s hs _ HT.out).mono ?_
    rintro e w' ⟨rfl, hb⟩
    go_wp2
    go_ret
    exact ⟨ret_bool (by rw [HE.out, size_list]; rw [Bool.eq_iff_iff, beq_iff_eq, decide_eq_true_iff]), hb⟩

set_option maxHeartbeats 400000 in
theorem IsField_any (s : ByteArray) (hs : s.size ≤ maxLen) (w : World) :
    Calls Tryz.prog 151 #[.string s] w fun e w' => e = .returned (.bool (isFld s.data.toList)) ∧ Below w.heap.size w w' := by
  unfold maxLen at hs
  have hcv := fun w => Lib.run_convert_string_bytes (P := Tryz.prog) w 9 78 5 s Tryz.underlying9 Tryz.underlying78 Tryz.underlying5
  have hb := below_bytes w 5 s
  have hc := bytes_cell w 5 s
  go_enter Tryz.func151, Tryz.ntmps151
  go_wp2
  go_loop [8] (fun i => ∃ k : Nat, k ≤ s.size ∧ i = .int .i64 k ∧ Hid (∀ j, j < k → fieldI (byt s j) = true)) (fun i => s.size - (intOf i).toNat)
  case atStart => exact ⟨0, Nat.zero_le _, rfl, (fun j hj => by omega : ∀ j, j < 0 → _)⟩
  case round =>
    obtain ⟨k, hk, rfl, hall⟩ := hrel
    by_cases hlt : k < s.size
    · have hck := hc k hlt
      obtain ⟨b0, b1⟩ := byt_bd s k
      cases ht : fieldI (byt s k) with
      | true =>
        have HA : Hid (∀ j, j < k + 1 → fieldI (byt s j) = true) := by
          intro j hj
          by_cases hjk : j = k
          · subst hjk; exact ht
          · exact hall.out j (by omega)
        go_wp2_with (go_at_call 142; refine (isFieldByte_any _ b0 b1 _).mono ?_; rintro e w' ⟨rfl, rfl⟩)
        go_round
        case rel => exact ⟨k + 1, by omega, by go_num, HA⟩
        case measure => simp [intOf]; omega
      | false =>
        have HE : Hid (isFld s.data.toList = false) := all_not fieldB 0 _ k (by rw [size_list]; exact hlt) ht
        go_wp2_with (go_at_call 142; refine (isFieldByte_any _ b0 b1 _).mono ?_; rintro e w' ⟨rfl, rfl⟩)
        go_ret
        exact ⟨ret_bool HE.out.symm, hb⟩
    · have HE : Hid (isFld s.data.toList = true) := all_of fieldB 0 _ (fun j hj => hall.out j (by rw [size_list] at hj; omega))
      go_wp2
      go_ret
      exact ⟨ret_bool HE.out.symm, hb⟩

theorem low_ab : lowS ⟨#[97, 66]⟩ = ⟨#[97, 98]⟩ := by decide +kernel
theorem num_12 : numR 10 (⟨#[49, 50]⟩ : ByteArray).data.toList 12 = (12, 0) := by decide +kernel
theorem tok_x : isTok (⟨#[120]⟩ : ByteArray).data.toList = true := by decide +kernel

end Oc
end Go.Proofs.YtlnlhhobmgiceaaGreatDoor

/-
  Quoted texts, plainly: over lists of bytes.
-/
set_option linter.unusedVariables false
set_option linter.unusedSimpArgs false
namespace Go.Proofs.YtlnlhhobmgiceaaGreatDoor
namespace Oc

def qByte (c : UInt8) : List UInt8 := if c = 34 ∨ c = 92 then [92, c] else [c]
def qBody (l : List UInt8) : List UInt8 := l.flatMap qByte
def qText (l : List UInt8) : List UInt8 := 34 :: (qBody l ++ [34])
def quoteR (l : List UInt8) : List UInt8 × Int := if isFld l then (qText l, 0) else ([], 13)

theorem qBody_snoc (l : List UInt8) (c : UInt8) : qBody (l ++ [c]) = qBody l ++ qByte c := by unfold qBody; rw [List.flatMap_append]; simp
theorem qByte_le (c : UInt8) : (qByte c).length ≤ 2 := by unfold qByte; split <;> simp
theorem qBody_le : ∀ l : List UInt8, (qBody l).length ≤ 2 * l.length
  | [] => by simp [qBody]
  | c :: l => by
    have := qBody_le l
    have h := qByte_le c
    unfold qBody at *
    rw [List.flatMap_cons, List.length_append, List.length_cons]
    omega

/-- The rest of a quoted text behind its first sign: how many bytes up to its end. -/
def qscan : Bool → List UInt8 → Option Nat
  | _, [] => none
  | e, c :: l => if fieldB c = false then none else if e then (qscan false l).map (· + 1) else if c = 92 then (qscan true l).map (· + 1) else if c = 34 then some 1 else (qscan false l).map (· + 1)
def plusOne : Option Nat → Nat
  | some k => k + 1
  | none => 0
def qlen : List UInt8 → Nat
  | [] => 0
  | c :: l => if c = 34 then plusOne (qscan false l) else 0
theorem qlen_cons (c : UInt8) (l : List UInt8) : qlen (c :: l) = if c = 34 then plusOne (qscan false l) else 0 := rfl
/-- What parts say. -/
def psay : Bool → List UInt8 → List UInt8
  | _, [] => []
  | e, c :: l => if c = 92 ∧ e = false then psay true l else c :: psay false l
/-- The document's way: what it says, and how many bytes. -/
def ru : Bool → List UInt8 → Option (List UInt8 × Nat)
  | _, [] => none
  | true, c :: l => if fieldB c then (ru false l).map (fun x => (c :: x.1, x.2 + 1)) else none
  | false, c :: l => if c = 34 then some ([], 1) else if c = 92 then (ru true l).map (fun x => (x.1, x.2 + 1)) else if fieldB c then (ru false l).map (fun x => (c :: x.1, x.2 + 1)) else none

theorem field34 : fieldB 34 = true := by decide
theorem field92 : fieldB 92 = true := by decide

theorem qscan_pos : ∀ (l : List UInt8) (e : Bool) (k : Nat), qscan e l = some k → 1 ≤ k ∧ k ≤ l.length
  | [], e, k, h => by simp [qscan] at h
  | c :: l, e, k, h => by
    unfold qscan at h
    split at h
    · cases h
    · split at h
      · obtain ⟨j, hj, rfl⟩ := Option.map_eq_some_iff.1 h
        have := qscan_pos l _ j hj
        simp; omega
      · split at h
        · obtain ⟨j, hj, rfl⟩ := Option.map_eq_some_iff.1 h
          have := qscan_pos l _ j hj
          simp; omega
        · split at h
          · cases h; simp
          · obtain ⟨j, hj, rfl⟩ := Option.map_eq_some_iff.1 h
            have := qscan_pos l _ j hj
            simp; omega

theorem ru_eq : ∀ (l : List UInt8) (e : Bool), ru e l = (qscan e l).map (fun k => (psay e (l.take (k - 1)), k))
  | [], e => by cases e <;> rfl
  | c :: l, true => by
    unfold ru qscan
    cases hf : fieldB c with
    | false => simp
    | true =>
      simp only [if_true, Bool.true_eq_false, if_false]
      rw [ru_eq l false]
      cases hq : qscan false l with
      | none => rfl
      | some k =>
        have hk := qscan_pos l false k hq
        simp only [Option.map_some, Option.some.injEq, Prod.mk.injEq, and_true]
        rw [show k + 1 - 1 = (k - 1) + 1 by omega, List.take_succ_cons, psay]
        simp
  | c :: l, false => by
    unfold ru qscan
    by_cases h34 : c = 34
    · subst h34
      simp [field34, psay]
    · rw [if_neg h34]
      by_cases h92 : c = 92
      · subst h92
        simp only [field92, if_true, Bool.true_eq_false, if_false, Bool.false_eq_true]
        rw [ru_eq l true]
        cases hq : qscan true l with
        | none => rfl
        | some k =>
          have hk := qscan_pos l true k hq
          simp only [Option.map_some, Option.some.injEq, Prod.mk.injEq, and_true]
          rw [show k + 1 - 1 = (k - 1) + 1 by omega, List.take_succ_cons, psay]
          simp
      · rw [if_neg h92]
        cases hf : fieldB c with
        | false => simp
        | true =>
          simp only [if_true, Bool.true_eq_false, if_false, Bool.false_eq_true, if_neg h92, if_neg h34]
          rw [ru_eq l false]
          cases hq : qscan false l with
          | none => rfl
          | some k =>
            have hk := qscan_pos l false k hq
            simp only [Option.map_some, Option.some.injEq, Prod.mk.injEq, and_true]
            rw [show k + 1 - 1 = (k - 1) + 1 by omega, List.take_succ_cons, psay]
            simp [h92]

/-- What Unquote answers. -/
def unqR (l : List UInt8) : List UInt8 × Int × Int :=
  if qlen l = 0 then ([], 0, 13) else (psay false ((l.drop 1).take (qlen l - 2)), (qlen l : Int), 0)

theorem qlen_bd (l : List UInt8) : qlen l ≤ l.length ∧ (qlen l ≠ 0 → 2 ≤ qlen l) := by
  cases l with
  | nil => simp [qlen]
  | cons c l =>
    by_cases hc : c = 34
    · cases hq : qscan false l with
      | none => simp [qlen, plusOne, hc, hq]
      | some k =>
        have := qscan_pos l false k hq
        have e : qlen (c :: l) = k + 1 := by simp [qlen, plusOne, hc, hq]
        rw [e]
        simp
        omega
    · simp [qlen, hc]
theorem psay_le : ∀ (l : List UInt8) (e : Bool), (psay e l).length ≤ l.length
  | [], e => by simp [psay]
  | c :: l, e => by
    unfold psay
    split
    · have := psay_le l true
      simp; omega
    · have := psay_le l false
      simp; omega

/-- By the document's way. -/
theorem unqR_none (l : List UInt8) (h : ru false l = none) : unqR (34 :: l) = ([], 0, 13) := by
  rw [ru_eq] at h
  cases hq : qscan false l with
  | none => simp [unqR, qlen, plusOne, hq]
  | some k => rw [hq] at h; cases h
theorem unqR_some (l : List UInt8) (x : List UInt8 × Nat) (h : ru false l = some x) : unqR (34 :: l) = (x.1, (x.2 : Int) + 1, 0) := by
  rw [ru_eq] at h
  cases hq : qscan false l with
  | none => rw [hq] at h; cases h
  | some k =>
    rw [hq] at h
    simp only [Option.map_some, Option.some.injEq] at h
    have e : qlen (34 :: l) = k + 1 := by simp [qlen, plusOne, hq]
    unfold unqR
    rw [e, if_neg (by omega), ← h]
    simp

/-- What was quoted is read back, whatever stands behind. -/
theorem ru_body : ∀ (l : List UInt8) (r : List UInt8), isFld l = true → ru false (qBody l ++ 34 :: r) = some (l, (qBody l).length + 1)
  | [], r, _ => by simp [qBody, ru]
  | c :: l, r, h => by
    have hc : fieldB c = true ∧ isFld l = true := by simpa [isFld] using h
    have ih := ru_body l r hc.2
    have e : qBody (c :: l) = qByte c ++ qBody l := by unfold qBody; rw [List.flatMap_cons]
    rw [e, List.append_assoc]
    unfold qByte
    by_cases hq : c = 34 ∨ c = 92
    · rw [if_pos hq]
      show ru false (92 :: c :: (qBody l ++ 34 :: r)) = _
      rw [ru, if_neg (by decide), if_pos rfl, ru, if_pos hc.1, ih]
      simp
    · rw [if_neg hq]
      show ru false (c :: (qBody l ++ 34 :: r)) = _
      rw [ru, if_neg (fun h => hq (.inl h)), if_neg (fun h => hq (.inr h)), if_pos hc.1, ih]
      simp
theorem unqR_back (l r : List UInt8) (h : isFld l = true) : unqR (qText l ++ r) = (l, ((qText l).length : Int), 0) := by
  have e : qText l ++ r = 34 :: (qBody l ++ 34 :: r) := by unfold qText; simp
  rw [e, unqR_some _ _ (ru_body l r h)]
  unfold qText
  simp

end Oc
end Go.Proofs.YtlnlhhobmgiceaaGreatDoor
