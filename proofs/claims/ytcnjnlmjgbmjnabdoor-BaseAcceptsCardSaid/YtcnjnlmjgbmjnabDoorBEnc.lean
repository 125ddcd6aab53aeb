/-
  base.Encode.
-/
import Derived.Test.YtcnjnlmjgbmjnabDoorBLeaf
import Derived.Laws.BitsLemmas
import Derived.Lib.EndianBits
set_option linter.unusedVariables false
set_option linter.unusedSimpArgs false
namespace Go.Proofs.YtcnjnlmjgbmjnabDoor
open Go.RowKit
namespace Bs

/-- The bits of the first k bytes, at their places among 24. -/
def acc (l : List UInt8) (k : Nat) : Nat := (if 0 < k then (l.getD 0 0).toNat * 65536 else 0) + (if 1 < k then (l.getD 1 0).toNat * 256 else 0) + (if 2 < k then (l.getD 2 0).toNat else 0)
theorem acc_lt (l : List UInt8) (k : Nat) : acc l k < 16777216 := by
  unfold acc
  have := (l.getD 0 0).toNat_lt
  have := (l.getD 1 0).toNat_lt
  have := (l.getD 2 0).toNat_lt
  (repeat' split) <;> omega
theorem or_u32 (a b : Nat) (i : Nat) (ha : a % 2 ^ i = 0) (hb : b < 2 ^ i) (ha' : a < 4294967296) (hb' : b < 4294967296) : bits .or .u32 (a : Int) (b : Int) = ((a + b : Nat) : Int) := by
  rw [bits_join .u32 32 (by decide) wraps_u32 i (a : Int) (b : Int) (by omega) (by exact_mod_cast ha) (by omega) (by omega) (by exact_mod_cast hb) (by omega)]
  omega
theorem and63_u32 (a : Nat) (h : a < 4294967296) : bits .and .u32 (a : Int) 63 = ((a % 64 : Nat) : Int) := by
  have := bits_mask .u32 32 (by decide) wraps_u32 6 (by decide) (a : Int) (by omega) (by omega)
  rw [show ((2 : Int) ^ 6 - 1) = 63 by decide, show ((2 : Int) ^ 6) = 64 by decide] at this
  rw [this]
  omega
theorem wrap_u32_nat (a : Nat) (h : a < 4294967296) : IntKind.u32.wrap (a : Int) = (a : Int) := by rw [IntKind.wrap_u32]; omega
theorem sg_at (n : Nat) (h : n < (⟨#[65, 66, 67, 68, 69, 70, 71, 72, 73, 74, 75, 76, 77, 78, 79, 80, 81, 82, 83, 84, 85, 86, 87, 88, 89, 90, 97, 98, 99, 100, 101, 102, 103, 104, 105, 106, 107, 108, 109, 110, 111, 112, 113, 114, 115, 116, 117, 118, 119, 120, 121, 122, 48, 49, 50, 51, 52, 53, 54, 55, 56, 57, 43, 47]⟩ : ByteArray).size) :
    (⟨#[65, 66, 67, 68, 69, 70, 71, 72, 73, 74, 75, 76, 77, 78, 79, 80, 81, 82, 83, 84, 85, 86, 87, 88, 89, 90, 97, 98, 99, 100, 101, 102, 103, 104, 105, 106, 107, 108, 109, 110, 111, 112, 113, 114, 115, 116, 117, 118, 119, 120, 121, 122, 48, 49, 50, 51, 52, 53, 54, 55, 56, 57, 43, 47]⟩ : ByteArray)[n] = sgn n := by
  rw [← at_lt _ n h]
  rfl

theorem enc_take (l : List UInt8) (h1 : 1 ≤ l.length) (h3 : l.length ≤ 3) (k : Nat) (hk : k < 4) : (enc l).length = 4 ∧ (enc l).take (k + 1) = (enc l).take k ++ [if l.length < k then 61 else sgn (acc l l.length / 2 ^ (18 - 6 * k) % 64)] := by
  match l, h1, h3 with
  | [a], _, _ =>
    have := a.toNat_lt
    refine ⟨rfl, ?_⟩
    rcases (show k = 0 ∨ k = 1 ∨ k = 2 ∨ k = 3 by omega) with rfl | rfl | rfl | rfl
    · simp [enc, acc]; congr 1; omega
    · simp [enc, acc]; congr 1; omega
    · simp [enc, acc]
    · simp [enc, acc]
  | [a, b], _, _ =>
    have := a.toNat_lt
    have := b.toNat_lt
    refine ⟨rfl, ?_⟩
    rcases (show k = 0 ∨ k = 1 ∨ k = 2 ∨ k = 3 by omega) with rfl | rfl | rfl | rfl
    · simp [enc, acc]; congr 1; omega
    · simp [enc, acc]; congr 1; omega
    · simp [enc, acc]; congr 1; omega
    · simp [enc, acc]
  | [a, b, c], _, _ =>
    have := a.toNat_lt
    have := b.toNat_lt
    have := c.toNat_lt
    refine ⟨rfl, ?_⟩
    rcases (show k = 0 ∨ k = 1 ∨ k = 2 ∨ k = 3 by omega) with rfl | rfl | rfl | rfl
    · simp [enc, acc]; congr 1; omega
    · simp [enc, acc]; congr 1; omega
    · simp [enc, acc]; congr 1; omega
    · simp [enc, acc]; congr 1; omega

theorem acc_0 (l : List UInt8) : bits .or .u32 ((acc l 0 : Nat) : Int) (((l.getD 0 0).toNat : Int) * 65536) = ((acc l 1 : Nat) : Int) := by
  have h := (l.getD 0 0).toNat_lt
  have e := or_u32 (acc l 0) ((l.getD 0 0).toNat * 65536) 24 (by unfold acc; simp) (by omega) (by have := acc_lt l 0; omega) (by omega)
  rw [Int.natCast_mul] at e
  refine Eq.trans e ?_
  unfold acc
  simp
theorem acc_1 (l : List UInt8) : bits .or .u32 ((acc l 1 : Nat) : Int) (((l.getD 1 0).toNat : Int) * 256) = ((acc l 2 : Nat) : Int) := by
  have h := (l.getD 1 0).toNat_lt
  have e := or_u32 (acc l 1) ((l.getD 1 0).toNat * 256) 16 (by unfold acc; simp) (by omega) (by have := acc_lt l 1; omega) (by omega)
  rw [Int.natCast_mul] at e
  refine Eq.trans e ?_
  unfold acc
  simp
theorem acc_2 (l : List UInt8) : bits .or .u32 ((acc l 2 : Nat) : Int) ((l.getD 2 0).toNat : Int) = ((acc l 3 : Nat) : Int) := by
  have h := (l.getD 2 0).toNat_lt
  have e := or_u32 (acc l 2) (l.getD 2 0).toNat 8 (by unfold acc; simp; omega) (by omega) (by have := acc_lt l 2; omega) (by omega)
  refine Eq.trans e ?_
  unfold acc
  simp

set_option maxRecDepth 100000 in
set_option maxHeartbeats 1000000 in
theorem appendGroup_any (B : Nat) (v : Value) (t l : List UInt8) (h1 : 1 ≤ l.length) (h3 : l.length ≤ 3) (w : World) (hown : Own B v t w) (hlen : t.length + 4 ≤ 140737488355328) (hB : B ≤ w.heap.size) :
    Calls Tryd.prog 15 #[v, .string (str l)] w fun e w' => ∃ v', e = .returned v' ∧ Own B v' (t ++ enc l) w' ∧ Below B w w' := by
  have HO : Hid (Own B v t w) := hown
  clear hown
  have hs : (str l).size = l.length := str_size l
  have hby : ∀ (k : Nat) (h : k < (str l).size), ((str l)[k]'h) = l.getD k 0 := fun k h => by rw [← at_lt _ k h, str_list]
  go_enter Tryd.func15, Tryd.ntmps15
  go_wp2
  go_loop [5, 10] (fun b i => ∃ k : Nat, k ≤ l.length ∧ i = .int .i64 k ∧ b = .int .u32 ((acc l k : Nat) : Int)) (fun _ i => l.length - (intOf i).toNat)
  case atStart => exact ⟨0, by omega, rfl, rfl⟩
  case round =>
    obtain ⟨k, hk, rfl, rfl⟩ := hrel
    by_cases hlt : k < l.length
    · have HA : Hid (bits .or .u32 ((acc l 0 : Nat) : Int) (((l.getD 0 0).toNat : Int) * 65536) = ((acc l 1 : Nat) : Int) ∧ bits .or .u32 ((acc l 1 : Nat) : Int) (((l.getD 1 0).toNat : Int) * 256) = ((acc l 2 : Nat) : Int) ∧ bits .or .u32 ((acc l 2 : Nat) : Int) ((l.getD 2 0).toNat : Int) = ((acc l 3 : Nat) : Int)) := ⟨acc_0 l, acc_1 l, acc_2 l⟩
      have hu := (l.getD k 0).toNat_lt
      have hal := acc_lt l k
      have hbk := hby k
      clear hby
      rcases (show k = 0 ∨ k = 1 ∨ k = 2 by omega) with rfl | rfl | rfl
      · generalize l.getD 0 0 = u at *
        generalize acc l 0 = A0 at *
        go_wp2
        exact ⟨⟨1, by omega, rfl, by rw [HA.out.1]⟩, by simp [intOf]; omega⟩
      · generalize l.getD 1 0 = u at *
        generalize acc l 1 = A0 at *
        go_wp2
        exact ⟨⟨2, by omega, rfl, by rw [HA.out.2.1]⟩, by simp [intOf]; omega⟩
      · generalize l.getD 2 0 = u at *
        generalize acc l 2 = A0 at *
        go_wp2
        exact ⟨⟨3, by omega, rfl, by rw [HA.out.2.2]⟩, by simp [intOf]; omega⟩
    · obtain rfl : k = l.length := by omega
      have HE : Hid (∀ k, k < 4 → (enc l).length = 4 ∧ (enc l).take (k + 1) = (enc l).take k ++ [if l.length < k then 61 else sgn (acc l l.length / 2 ^ (18 - 6 * k) % 64)]) := fun k hk => enc_take l h1 h3 k hk
      have hal := acc_lt l l.length
      generalize acc l l.length = A at *
      go_wp2
      go_loopw [0, 24] (fun v i wr => ∃ k : Nat, k ≤ 4 ∧ i = .int .i64 k ∧ Hid (Own B v (t ++ (enc l).take k) wr) ∧ Hid (Below B w wr)) (fun _ i _ => 4 - (intOf i).toNat)
      case atStart => exact ⟨0, by omega, rfl, (by simpa using HO.out : Own B v (t ++ (enc l).take 0) w), Below.refl _ _⟩
      case round =>
        obtain ⟨k, hk4, rfl, HV, HB⟩ := hrel
        by_cases hk5 : k < 4
        · by_cases hg : l.length < k
          · have hsz := HB.out.size
            go_wp2_with (at_builtin; go_must (refine wp_app rfl (.tmp 31) (.tmp 32) rfl B _ (t ++ (enc l).take k) [61] _ _ rfl rfl HV.out rfl ?h1 ?h2 ?_))
            case h1 => have := (HE.out k hk5).1; simp; omega
            case h2 => omega
            intro v' w' ho hb
            go_wp2
            go_roundw
            case rel =>
              have e := (HE.out k hk5).2
              rw [if_pos hg] at e
              exact ⟨k + 1, by omega, by go_num, (by rw [e, ← List.append_assoc]; simpa using ho.out : Own B v' (t ++ (enc l).take (k + 1)) w'), HB.out.trans hb.out⟩
            case measure => simp [intOf]; omega
          · have hsz := HB.out.size
            rcases (show k = 0 ∨ k = 1 ∨ k = 2 ∨ k = 3 by omega) with rfl | rfl | rfl | rfl
            · have hq : bits .and .u32 (((A : Nat) : Int) / 262144) 63 = ((A / 2 ^ (18 - 6 * 0) % 64 : Nat) : Int) := by
                have := and63_u32 (A / 262144) (by omega)
                rw [show ((A / 262144 : Nat) : Int) = ((A : Nat) : Int) / 262144 by omega] at this
                rw [this]
              have hq2 : A / 2 ^ (18 - 6 * 0) % 64 < 64 := Nat.mod_lt _ (by decide)
              have hsg := sg_at (A / 2 ^ (18 - 6 * 0) % 64)
              have HN : Hid ((enc l).take (0 + 1) = (enc l).take 0 ++ [sgn (A / 2 ^ (18 - 6 * 0) % 64)]) := (by have := (HE.out 0 (by omega)).2; rwa [if_neg hg] at this : (enc l).take (0 + 1) = _)
              generalize A / 2 ^ (18 - 6 * 0) % 64 = q at *
              go_wp2_with (at_builtin; go_must (refine wp_app rfl (.tmp 34) (.tmp 42) rfl B _ (t ++ (enc l).take 0) [sgn q] _ _ rfl rfl HV.out rfl ?h1 ?h2 ?_))
              case h1 => have := (HE.out 0 (by omega)).1; simp; omega
              case h2 => omega
              intro v' w' ho hb
              go_wp2
              go_roundw
              case rel => exact ⟨0 + 1, by omega, by go_num, (by rw [HN.out, ← List.append_assoc]; simpa using ho.out : Own B v' (t ++ (enc l).take (0 + 1)) w'), (HB.out.trans hb.out)⟩
              case measure => simp [intOf]
            · have hq : bits .and .u32 (((A : Nat) : Int) / 4096) 63 = ((A / 2 ^ (18 - 6 * 1) % 64 : Nat) : Int) := by
                have := and63_u32 (A / 4096) (by omega)
                rw [show ((A / 4096 : Nat) : Int) = ((A : Nat) : Int) / 4096 by omega] at this
                rw [this]
              have hq2 : A / 2 ^ (18 - 6 * 1) % 64 < 64 := Nat.mod_lt _ (by decide)
              have hsg := sg_at (A / 2 ^ (18 - 6 * 1) % 64)
              have HN : Hid ((enc l).take (1 + 1) = (enc l).take 1 ++ [sgn (A / 2 ^ (18 - 6 * 1) % 64)]) := (by have := (HE.out 1 (by omega)).2; rwa [if_neg hg] at this : (enc l).take (1 + 1) = _)
              generalize A / 2 ^ (18 - 6 * 1) % 64 = q at *
              go_wp2_with (at_builtin; go_must (refine wp_app rfl (.tmp 34) (.tmp 42) rfl B _ (t ++ (enc l).take 1) [sgn q] _ _ rfl rfl HV.out rfl ?h1 ?h2 ?_))
              case h1 => have := (HE.out 1 (by omega)).1; simp; omega
              case h2 => omega
              intro v' w' ho hb
              go_wp2
              go_roundw
              case rel => exact ⟨1 + 1, by omega, by go_num, (by rw [HN.out, ← List.append_assoc]; simpa using ho.out : Own B v' (t ++ (enc l).take (1 + 1)) w'), (HB.out.trans hb.out)⟩
              case measure => simp [intOf]
            · have hq : bits .and .u32 (((A : Nat) : Int) / 64) 63 = ((A / 2 ^ (18 - 6 * 2) % 64 : Nat) : Int) := by
                have := and63_u32 (A / 64) (by omega)
                rw [show ((A / 64 : Nat) : Int) = ((A : Nat) : Int) / 64 by omega] at this
                rw [this]
              have hq2 : A / 2 ^ (18 - 6 * 2) % 64 < 64 := Nat.mod_lt _ (by decide)
              have hsg := sg_at (A / 2 ^ (18 - 6 * 2) % 64)
              have HN : Hid ((enc l).take (2 + 1) = (enc l).take 2 ++ [sgn (A / 2 ^ (18 - 6 * 2) % 64)]) := (by have := (HE.out 2 (by omega)).2; rwa [if_neg hg] at this : (enc l).take (2 + 1) = _)
              generalize A / 2 ^ (18 - 6 * 2) % 64 = q at *
              go_wp2_with (at_builtin; go_must (refine wp_app rfl (.tmp 34) (.tmp 42) rfl B _ (t ++ (enc l).take 2) [sgn q] _ _ rfl rfl HV.out rfl ?h1 ?h2 ?_))
              case h1 => have := (HE.out 2 (by omega)).1; simp; omega
              case h2 => omega
              intro v' w' ho hb
              go_wp2
              go_roundw
              case rel => exact ⟨2 + 1, by omega, by go_num, (by rw [HN.out, ← List.append_assoc]; simpa using ho.out : Own B v' (t ++ (enc l).take (2 + 1)) w'), (HB.out.trans hb.out)⟩
              case measure => simp [intOf]
            · have hq : bits .and .u32 (((A : Nat) : Int)) 63 = ((A / 2 ^ (18 - 6 * 3) % 64 : Nat) : Int) := by
                have := and63_u32 (A / 1) (by omega)
                rw [show ((A / 1 : Nat) : Int) = ((A : Nat) : Int) by omega] at this
                rw [this]
              have hq2 : A / 2 ^ (18 - 6 * 3) % 64 < 64 := Nat.mod_lt _ (by decide)
              have hsg := sg_at (A / 2 ^ (18 - 6 * 3) % 64)
              have HN : Hid ((enc l).take (3 + 1) = (enc l).take 3 ++ [sgn (A / 2 ^ (18 - 6 * 3) % 64)]) := (by have := (HE.out 3 (by omega)).2; rwa [if_neg hg] at this : (enc l).take (3 + 1) = _)
              generalize A / 2 ^ (18 - 6 * 3) % 64 = q at *
              go_wp2_with (at_builtin; go_must (refine wp_app rfl (.tmp 34) (.tmp 42) rfl B _ (t ++ (enc l).take 3) [sgn q] _ _ rfl rfl HV.out rfl ?h1 ?h2 ?_))
              case h1 => have := (HE.out 3 (by omega)).1; simp; omega
              case h2 => omega
              intro v' w' ho hb
              go_wp2
              go_roundw
              case rel => exact ⟨3 + 1, by omega, by go_num, (by rw [HN.out, ← List.append_assoc]; simpa using ho.out : Own B v' (t ++ (enc l).take (3 + 1)) w'), (HB.out.trans hb.out)⟩
              case measure => simp [intOf]
        · obtain rfl : k = 4 := by omega
          go_wp2
          go_ret
          refine ⟨_, rfl, ?_, HB.out⟩
          have := HV.out
          rwa [List.take_of_length_le (by rw [(HE.out 0 (by omega)).1]; omega)] at this

end Bs
end Go.Proofs.YtcnjnlmjgbmjnabDoor
