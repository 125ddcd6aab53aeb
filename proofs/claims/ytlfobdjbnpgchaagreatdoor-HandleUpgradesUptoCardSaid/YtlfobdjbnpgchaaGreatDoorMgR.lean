/- Several texts as one. -/
import Derived.Test.YtlfobdjbnpgchaaGreatDoorMgQ
import Derived.Laws.BitsLemmas
import Derived.Lib.EndianBits
import Derived.Deep.QuietTactic
import Derived.Deep.RegionLaw
import Derived.Deep.DrawnRows
import Derived.Laws.BitsAllLaws
import Derived.Laws.Closers25b
import Derived.Deep.MidRow
import Derived.Deep.RegionHeld3
/-
  base.Encode.
-/
set_option linter.unusedVariables false
set_option linter.unusedSimpArgs false
namespace Go.Proofs.YtlfobdjbnpgchaaGreatDoor
open Go.RowKit
namespace Bs
set_option maxRecDepth 100000

/-- The bits of the first k bytes, at their places among 24. -/
def acc (l : List UInt8) (k : Nat) : Nat := (if 0 < k then (l.getD 0 0).toNat * 65536 else 0) + (if 1 < k then (l.getD 1 0).toNat * 256 else 0) + (if 2 < k then (l.getD 2 0).toNat else 0)
theorem acc_lt (l : List UInt8) (k : Nat) : acc l k < 16777216 := by
  unfold acc
  have := (l.getD 0 0).toNat_lt
  have := (l.getD 1 0).toNat_lt
  have := (l.getD 2 0).toNat_lt
  (repeat' split) <;> omega
theorem or_u32 (a b : Nat) (i : Nat) (ha : a % 2 ^ i = 0) (hb : b < 2 ^ i) (ha' : a < 4294967296) (hb' : b < 4294967296) : bits .or .u32 (a : Int) (b : Int) = ((a + b : Nat) : Int) := by
  rw [bits_join .u32 32 (by decide) wraps_u32 i (a : Int) (b : Int) (by omega) (by exact_mod_cast ha) (by omega) (by omega) (by exact_mod_cast hb) (by omega)]
  omega
theorem and63_u32 (a : Nat) (h : a < 4294967296) : bits .and .u32 (a : Int) 63 = ((a % 64 : Nat) : Int) := by
  have := bits_mask .u32 32 (by decide) wraps_u32 6 (by decide) (a : Int) (by omega) (by omega)
  rw [show ((2 : Int) ^ 6 - 1) = 63 by decide, show ((2 : Int) ^ 6) = 64 by decide] at this
  rw [this]
  omega
theorem wrap_u32_nat (a : Nat) (h : a < 4294967296) : IntKind.u32.wrap (a : Int) = (a : Int) := by rw [IntKind.wrap_u32]; omega
theorem sg_at (n : Nat) (h : n < (⟨#[65, 66, 67, 68, 69, 70, 71, 72, 73, 74, 75, 76, 77, 78, 79, 80, 81, 82, 83, 84, 85, 86, 87, 88, 89, 90, 97, 98, 99, 100, 101, 102, 103, 104, 105, 106, 107, 108, 109, 110, 111, 112, 113, 114, 115, 116, 117, 118, 119, 120, 121, 122, 48, 49, 50, 51, 52, 53, 54, 55, 56, 57, 43, 47]⟩ : ByteArray).size) :
    (⟨#[65, 66, 67, 68, 69, 70, 71, 72, 73, 74, 75, 76, 77, 78, 79, 80, 81, 82, 83, 84, 85, 86, 87, 88, 89, 90, 97, 98, 99, 100, 101, 102, 103, 104, 105, 106, 107, 108, 109, 110, 111, 112, 113, 114, 115, 116, 117, 118, 119, 120, 121, 122, 48, 49, 50, 51, 52, 53, 54, 55, 56, 57, 43, 47]⟩ : ByteArray)[n] = sgn n := by
  rw [← at_lt _ n h]
  rfl

theorem enc_take (l : List UInt8) (h1 : 1 ≤ l.length) (h3 : l.length ≤ 3) (k : Nat) (hk : k < 4) : (enc l).length = 4 ∧ (enc l).take (k + 1) = (enc l).take k ++ [if l.length < k then 61 else sgn (acc l l.length / 2 ^ (18 - 6 * k) % 64)] := by
  match l, h1, h3 with
  | [a], _, _ =>
    have := a.toNat_lt
    refine ⟨rfl, ?_⟩
    rcases (show k = 0 ∨ k = 1 ∨ k = 2 ∨ k = 3 by omega) with rfl | rfl | rfl | rfl
    · simp [enc, acc]; congr 1; omega
    · simp [enc, acc]; congr 1; omega
    · simp [enc, acc]
    · simp [enc, acc]
  | [a, b], _, _ =>
    have := a.toNat_lt
    have := b.toNat_lt
    refine ⟨rfl, ?_⟩
    rcases (show k = 0 ∨ k = 1 ∨ k = 2 ∨ k = 3 by omega) with rfl | rfl | rfl | rfl
    · simp [enc, acc]; congr 1; omega
    · simp [enc, acc]; congr 1; omega
    · simp [enc, acc]; congr 1; omega
    · simp [enc, acc]
  | [a, b, c], _, _ =>
    have := a.toNat_lt
    have := b.toNat_lt
    have := c.toNat_lt
    refine ⟨rfl, ?_⟩
    rcases (show k = 0 ∨ k = 1 ∨ k = 2 ∨ k = 3 by omega) with rfl | rfl | rfl | rfl
    · simp [enc, acc]; congr 1; omega
    · simp [enc, acc]; congr 1; omega
    · simp [enc, acc]; congr 1; omega
    · simp [enc, acc]; congr 1; omega

theorem acc_0 (l : List UInt8) : bits .or .u32 ((acc l 0 : Nat) : Int) (((l.getD 0 0).toNat : Int) * 65536) = ((acc l 1 : Nat) : Int) := by
  have h := (l.getD 0 0).toNat_lt
  have e := or_u32 (acc l 0) ((l.getD 0 0).toNat * 65536) 24 (by unfold acc; simp) (by omega) (by have := acc_lt l 0; omega) (by omega)
  rw [Int.natCast_mul] at e
  refine Eq.trans e ?_
  unfold acc
  simp
theorem acc_1 (l : List UInt8) : bits .or .u32 ((acc l 1 : Nat) : Int) (((l.getD 1 0).toNat : Int) * 256) = ((acc l 2 : Nat) : Int) := by
  have h := (l.getD 1 0).toNat_lt
  have e := or_u32 (acc l 1) ((l.getD 1 0).toNat * 256) 16 (by unfold acc; simp) (by omega) (by have := acc_lt l 1; omega) (by omega)
  rw [Int.natCast_mul] at e
  refine Eq.trans e ?_
  unfold acc
  simp
theorem acc_2 (l : List UInt8) : bits .or .u32 ((acc l 2 : Nat) : Int) ((l.getD 2 0).toNat : Int) = ((acc l 3 : Nat) : Int) := by
  have h := (l.getD 2 0).toNat_lt
  have e := or_u32 (acc l 2) (l.getD 2 0).toNat 8 (by unfold acc; simp; omega) (by omega) (by have := acc_lt l 2; omega) (by omega)
  refine Eq.trans e ?_
  unfold acc
  simp

set_option maxRecDepth 100000 in
set_option maxHeartbeats 1000000 in
theorem appendGroup_any (B : Nat) (v : Value) (t l : List UInt8) (h1 : 1 ≤ l.length) (h3 : l.length ≤ 3) (w : World) (hown : Own B v t w) (hlen : t.length + 4 ≤ 140737488355328) (hB : B ≤ w.heap.size) :
    Calls Tryz.prog 219 #[v, .string (str l)] w fun e w' => ∃ v', e = .returned v' ∧ Own B v' (t ++ enc l) w' ∧ Below B w w' := by
  have HO : Hid (Own B v t w) := hown
  clear hown
  have hs : (str l).size = l.length := str_size l
  have hby : ∀ (k : Nat) (h : k < (str l).size), ((str l)[k]'h) = l.getD k 0 := fun k h => by rw [← at_lt _ k h, str_list]
  go_enter Tryz.func219, Tryz.ntmps219
  go_wp2
  go_loop [5, 10] (fun b i => ∃ k : Nat, k ≤ l.length ∧ i = .int .i64 k ∧ b = .int .u32 ((acc l k : Nat) : Int)) (fun _ i => l.length - (intOf i).toNat)
  case atStart => exact ⟨0, by omega, rfl, rfl⟩
  case round =>
    obtain ⟨k, hk, rfl, rfl⟩ := hrel
    by_cases hlt : k < l.length
    · have HA : Hid (bits .or .u32 ((acc l 0 : Nat) : Int) (((l.getD 0 0).toNat : Int) * 65536) = ((acc l 1 : Nat) : Int) ∧ bits .or .u32 ((acc l 1 : Nat) : Int) (((l.getD 1 0).toNat : Int) * 256) = ((acc l 2 : Nat) : Int) ∧ bits .or .u32 ((acc l 2 : Nat) : Int) ((l.getD 2 0).toNat : Int) = ((acc l 3 : Nat) : Int)) := ⟨acc_0 l, acc_1 l, acc_2 l⟩
      have hu := (l.getD k 0).toNat_lt
      have hal := acc_lt l k
      have hbk := hby k
      clear hby
      rcases (show k = 0 ∨ k = 1 ∨ k = 2 by omega) with rfl | rfl | rfl
      · generalize l.getD 0 0 = u at *
        generalize acc l 0 = A0 at *
        go_wp2
        exact ⟨⟨1, by omega, rfl, by rw [HA.out.1]⟩, by simp [intOf]; omega⟩
      · generalize l.getD 1 0 = u at *
        generalize acc l 1 = A0 at *
        go_wp2
        exact ⟨⟨2, by omega, rfl, by rw [HA.out.2.1]⟩, by simp [intOf]; omega⟩
      · generalize l.getD 2 0 = u at *
        generalize acc l 2 = A0 at *
        go_wp2
        exact ⟨⟨3, by omega, rfl, by rw [HA.out.2.2]⟩, by simp [intOf]; omega⟩
    · obtain rfl : k = l.length := by omega
      have HE : Hid (∀ k, k < 4 → (enc l).length = 4 ∧ (enc l).take (k + 1) = (enc l).take k ++ [if l.length < k then 61 else sgn (acc l l.length / 2 ^ (18 - 6 * k) % 64)]) := fun k hk => enc_take l h1 h3 k hk
      have hal := acc_lt l l.length
      generalize acc l l.length = A at *
      go_wp2
      go_loopw [0, 24] (fun v i wr => ∃ k : Nat, k ≤ 4 ∧ i = .int .i64 k ∧ Hid (Own B v (t ++ (enc l).take k) wr) ∧ Hid (Below B w wr)) (fun _ i _ => 4 - (intOf i).toNat)
      case atStart => exact ⟨0, by omega, rfl, (by simpa using HO.out : Own B v (t ++ (enc l).take 0) w), Below.refl _ _⟩
      case round =>
        obtain ⟨k, hk4, rfl, HV, HB⟩ := hrel
        by_cases hk5 : k < 4
        · by_cases hg : l.length < k
          · have hsz := HB.out.size
            go_wp2_with (at_builtin; go_must (refine wp_app rfl (.tmp 31) (.tmp 32) rfl B _ (t ++ (enc l).take k) [61] _ _ rfl rfl HV.out rfl ?h1 ?h2 ?_))
            case h1 => have := (HE.out k hk5).1; simp; omega
            case h2 => omega
            intro v' w' ho hb
            go_wp2
            go_roundw
            case rel =>
              have e := (HE.out k hk5).2
              rw [if_pos hg] at e
              exact ⟨k + 1, by omega, by go_num, (by rw [e, ← List.append_assoc]; simpa using ho.out : Own B v' (t ++ (enc l).take (k + 1)) w'), HB.out.trans hb.out⟩
            case measure => simp [intOf]; omega
          · have hsz := HB.out.size
            rcases (show k = 0 ∨ k = 1 ∨ k = 2 ∨ k = 3 by omega) with rfl | rfl | rfl | rfl
            · have hq : bits .and .u32 (((A : Nat) : Int) / 262144) 63 = ((A / 2 ^ (18 - 6 * 0) % 64 : Nat) : Int) := by
                have := and63_u32 (A / 262144) (by omega)
                rw [show ((A / 262144 : Nat) : Int) = ((A : Nat) : Int) / 262144 by omega] at this
                rw [this]
              have hq2 : A / 2 ^ (18 - 6 * 0) % 64 < 64 := Nat.mod_lt _ (by decide)
              have hsg := sg_at (A / 2 ^ (18 - 6 * 0) % 64)
              have HN : Hid ((enc l).take (0 + 1) = (enc l).take 0 ++ [sgn (A / 2 ^ (18 - 6 * 0) % 64)]) := (by have := (HE.out 0 (by omega)).2; rwa [if_neg hg] at this : (enc l).take (0 + 1) = _)
              generalize A / 2 ^ (18 - 6 * 0) % 64 = q at *
              go_wp2_with (at_builtin; go_must (refine wp_app rfl (.tmp 34) (.tmp 42) rfl B _ (t ++ (enc l).take 0) [sgn q] _ _ rfl rfl HV.out rfl ?h1 ?h2 ?_))
              case h1 => have := (HE.out 0 (by omega)).1; simp; omega
              case h2 => omega
              intro v' w' ho hb
              go_wp2
              go_roundw
              case rel => exact ⟨0 + 1, by omega, by go_num, (by rw [HN.out, ← List.append_assoc]; simpa using ho.out : Own B v' (t ++ (enc l).take (0 + 1)) w'), (HB.out.trans hb.out)⟩
              case measure => simp [intOf]
            · have hq : bits .and .u32 (((A : Nat) : Int) / 4096) 63 = ((A / 2 ^ (18 - 6 * 1) % 64 : Nat) : Int) := by
                have := and63_u32 (A / 4096) (by omega)
                rw [show ((A / 4096 : Nat) : Int) = ((A : Nat) : Int) / 4096 by omega] at this
                rw [this]
              have hq2 : A / 2 ^ (18 - 6 * 1) % 64 < 64 := Nat.mod_lt _ (by decide)
              have hsg := sg_at (A / 2 ^ (18 - 6 * 1) % 64)
              have HN : Hid ((enc l).take (1 + 1) = (enc l).take 1 ++ [sgn (A / 2 ^ (18 - 6 * 1) % 64)]) := (by have := (HE.out 1 (by omega)).2; rwa [if_neg hg] at this : (enc l).take (1 + 1) = _)
              generalize A / 2 ^ (18 - 6 * 1) % 64 = q at *
              go_wp2_with (at_builtin; go_must (refine wp_app rfl (.tmp 34) (.tmp 42) rfl B _ (t ++ (enc l).take 1) [sgn q] _ _ rfl rfl HV.out rfl ?h1 ?h2 ?_))
              case h1 => have := (HE.out 1 (by omega)).1; simp; omega
              case h2 => omega
              intro v' w' ho hb
              go_wp2
              go_roundw
              case rel => exact ⟨1 + 1, by omega, by go_num, (by rw [HN.out, ← List.append_assoc]; simpa using ho.out : Own B v' (t ++ (enc l).take (1 + 1)) w'), (HB.out.trans hb.out)⟩
              case measure => simp [intOf]
            · have hq : bits .and .u32 (((A : Nat) : Int) / 64) 63 = ((A / 2 ^ (18 - 6 * 2) % 64 : Nat) : Int) := by
                have := and63_u32 (A / 64) (by omega)
                rw [show ((A / 64 : Nat) : Int) = ((A : Nat) : Int) / 64 by omega] at this
                rw [this]
              have hq2 : A / 2 ^ (18 - 6 * 2) % 64 < 64 := Nat.mod_lt _ (by decide)
              have hsg := sg_at (A / 2 ^ (18 - 6 * 2) % 64)
              have HN : Hid ((enc l).take (2 + 1) = (enc l).take 2 ++ [sgn (A / 2 ^ (18 - 6 * 2) % 64)]) := (by have := (HE.out 2 (by omega)).2; rwa [if_neg hg] at this : (enc l).take (2 + 1) = _)
              generalize A / 2 ^ (18 - 6 * 2) % 64 = q at *
              go_wp2_with (at_builtin; go_must (refine wp_app rfl (.tmp 34) (.tmp 42) rfl B _ (t ++ (enc l).take 2) [sgn q] _ _ rfl rfl HV.out rfl ?h1 ?h2 ?_))
              case h1 => have := (HE.out 2 (by omega)).1; simp; omega
              case h2 => omega
              intro v' w' ho hb
              go_wp2
              go_roundw
              case rel => exact ⟨2 + 1, by omega, by go_num, (by rw [HN.out, ← List.append_assoc]; simpa using ho.out : Own B v' (t ++ (enc l).take (2 + 1)) w'), (HB.out.trans hb.out)⟩
              case measure => simp [intOf]
            · have hq : bits .and .u32 (((A : Nat) : Int)) 63 = ((A / 2 ^ (18 - 6 * 3) % 64 : Nat) : Int) := by
                have := and63_u32 (A / 1) (by omega)
                rw [show ((A / 1 : Nat) : Int) = ((A : Nat) : Int) by omega] at this
                rw [this]
              have hq2 : A / 2 ^ (18 - 6 * 3) % 64 < 64 := Nat.mod_lt _ (by decide)
              have hsg := sg_at (A / 2 ^ (18 - 6 * 3) % 64)
              have HN : Hid ((enc l).take (3 + 1) = (enc l).take 3 ++ [sgn (A / 2 ^ (18 - 6 * 3) % 64)]) := (by have := (HE.out 3 (by omega)).2; rwa [if_neg hg] at this : (enc l).take (3 + 1) = _)
              generalize A / 2 ^ (18 - 6 * 3) % 64 = q at *
              go_wp2_with (at_builtin; go_must (refine wp_app rfl (.tmp 34) (.tmp 42) rfl B _ (t ++ (enc l).take 3) [sgn q] _ _ rfl rfl HV.out rfl ?h1 ?h2 ?_))
              case h1 => have := (HE.out 3 (by omega)).1; simp; omega
              case h2 => omega
              intro v' w' ho hb
              go_wp2
              go_roundw
              case rel => exact ⟨3 + 1, by omega, by go_num, (by rw [HN.out, ← List.append_assoc]; simpa using ho.out : Own B v' (t ++ (enc l).take (3 + 1)) w'), (HB.out.trans hb.out)⟩
              case measure => simp [intOf]
        · obtain rfl : k = 4 := by omega
          go_wp2
          go_ret
          refine ⟨_, rfl, ?_, HB.out⟩
          have := HV.out
          rwa [List.take_of_length_le (by rw [(HE.out 0 (by omega)).1]; omega)] at this

end Bs
end Go.Proofs.YtlfobdjbnpgchaaGreatDoor

/-
  base.Encode, base.Hex.
-/
set_option linter.unusedVariables false
set_option linter.unusedSimpArgs false
namespace Go.Proofs.YtlfobdjbnpgchaaGreatDoor
open Go.RowKit
namespace Bs
set_option maxRecDepth 100000

theorem run_mk0 (W : World) (c : Int) (h0 : 0 ≤ c) (hc : c ≤ 281474976710656) : (Instr.makeSlice 67 (.int .i64 0) (.int .i64 c)).run Tryz.prog W = .ok (.slice (some ⟨W.heap.size, 0, none⟩) 0 c.toNat) (W.alloc (.cells (madeCells #[.int .u8 0] c.toNat) 5)) := by
  obtain ⟨i0, hi, hz0, hz1, hz2⟩ := info_parts infoB
  have hr := run_make (P := Tryz.prog) W 67 5 i0 (.int .u8 0) Tryz.underlying67 hi hz0 .i64 .i64 0 c (by omega) h0 (by rw [hz2]; omega) (by omega)
  simp only [Int.toNat_zero, hz1, Nat.mul_one] at hr
  exact hr

theorem enc_len : ∀ l : List UInt8, (enc l).length = (l.length + 2) / 3 * 4
  | [] => rfl
  | [a] => by simp [enc]
  | [a, b] => by simp [enc]
  | a :: b :: c :: r => by
    unfold enc
    simp only [List.length_cons]
    rw [enc_len r]
    omega
theorem enc_three (r : List UInt8) (h : 3 ≤ r.length) : enc r = enc (r.take 3) ++ enc (r.drop 3) := by
  match r, h with
  | a :: b :: c :: r, _ =>
    show enc (a :: b :: c :: r) = enc [a, b, c] ++ enc r
    conv => lhs; unfold enc
    conv => rhs; lhs; unfold enc enc
    rfl

set_option maxRecDepth 100000 in
set_option maxHeartbeats 1000000 in
theorem Encode_any (l : List UInt8) (hl : (l.length + 2) / 3 * 4 ≤ 140737488355328) (w : World) :
    Calls Tryz.prog 163 #[.string (str l)] w fun e w' => e = .returned (.string (str (enc l))) ∧ Below w.heap.size w w' := by
  have hs : (str l).size = l.length := str_size l
  have hmk := run_mk0 w ((((l.length : Nat) : Int) + 2) / 3 * 4) (by omega) (by omega)
  have HL := enc_len l
  have HOw : Hid (Own w.heap.size (.slice (some ⟨w.heap.size, 0, none⟩) 0 ((l.length + 2) / 3 * 4)) [] (w.alloc (.cells (madeCells #[.int .u8 0] ((l.length + 2) / 3 * 4)) 5))) := own_made w _ (by omega) _ (size_madeCells _ _)
  go_enter Tryz.func163, Tryz.ntmps163
  go_wp2
  go_loopw [0, 3] (fun s v wr => ∃ r t : List UInt8, s = .string (str r) ∧ Hid (t ++ enc r = enc l) ∧ r.length ≤ l.length ∧ Hid (Own w.heap.size v t wr) ∧ Hid (Below w.heap.size w wr)) (fun s _ _ => match s with | .string s => s.size | _ => 0)
  case atStart => exact ⟨l, [], rfl, rfl, Nat.le_refl _, HOw.out, (Below.refl _ w).alloc (Nat.le_refl _) _⟩
  case round =>
    obtain ⟨r, t, rfl, HE, hr, HO, HB⟩ := hrel
    have hsr : (str r).size = r.length := str_size r
    have hsz := HB.out.size
    have htl : t.length + (r.length + 2) / 3 * 4 ≤ 140737488355328 := by
      have := congrArg List.length HE.out
      rw [List.length_append, enc_len, enc_len] at this
      omega
    by_cases h3 : 3 < r.length
    · have HX : Hid ((str r).extract 0 3 = str (r.take 3)) := (by rw [str_extract]; rfl : (str r).extract 0 3 = str (r.take 3))
      have HY : Hid ((str r).extract 3 r.length = str (r.drop 3)) := (by rw [str_extract, List.take_length] : (str r).extract 3 r.length = str (r.drop 3))
      go_wp2_with fail
      rw [HX.out]
      refine (appendGroup_any w.heap.size _ t (r.take 3) (by rw [List.length_take]; omega) (by rw [List.length_take]; omega) wr HO.out (by omega) hsz).mono ?_
      rintro e w2 ⟨v2, rfl, ho, hb⟩
      have HO2 : Hid (Own w.heap.size v2 (t ++ enc (r.take 3)) w2) := ho
      have HB2 : Hid (Below w.heap.size w w2) := HB.out.trans hb
      clear ho hb
      go_wp2
      rw [HY.out]
      go_roundw
      case rel => exact ⟨r.drop 3, t ++ enc (r.take 3), rfl, (by rw [List.append_assoc, ← enc_three r (by omega)]; exact HE.out : t ++ enc (r.take 3) ++ enc (r.drop 3) = enc l), by rw [List.length_drop]; omega, HO2.out, HB2.out⟩
      case measure => show (str (r.drop 3)).size < (str r).size; rw [hsr, str_size, List.length_drop]; omega
    · by_cases h0 : r = []
      · subst h0
        have HE' : Hid (t = enc l) := (by simpa [enc] using HE.out : t = enc l)
        have hemp : (str []).toList.isEmpty = true := by rw [ByteArray.toList_eq]; rfl
        have hbk := back wr _ t HO.out.rd
        rw [HE'.out] at hbk
        go_wp2
        go_ret
        exact ⟨rfl, HB.out⟩
      · have hne : (str r).toList.isEmpty = false := by
          rw [ByteArray.toList_eq, str_list]
          cases r with
          | nil => exact absurd rfl h0
          | cons a r => rfl
        have hpos : 0 < r.length := List.length_pos_iff.2 h0
        go_wp2_with fail
        refine (appendGroup_any w.heap.size _ t r (by omega) (by omega) wr HO.out (by omega) hsz).mono ?_
        rintro e w2 ⟨v2, rfl, ho, hb⟩
        have hbk := back w2 _ _ ho.rd
        have HB2 : Hid (Below w.heap.size w w2) := HB.out.trans hb
        clear ho hb
        rw [HE.out] at hbk
        go_wp2
        go_ret
        exact ⟨rfl, HB2.out⟩

theorem rd_built (W : World) (cs : Array Value) (u : List UInt8) (n : Nat) (hn : n = u.length) (hc : cs.toList = bv u) : RdB (W.alloc (.cells cs 5)) (.slice (some ⟨W.heap.size, 0, none⟩) n n) u := by
  subst hn
  refine ⟨_, _, rfl, Nat.le_refl _, (fun e => by cases e), .inr ⟨W.heap.size, 0, rfl, fun j y hj => ?_⟩⟩
  have h1 : cs[j]? = some (.int .u8 (y.toNat : Int)) := by
    rw [← Array.getElem?_toList, hc, bv_get, hj]
    rfl
  rw [Nat.zero_add]
  have h2 := heap_alloc_new W (.cells cs 5)
  unfold World.cell?
  rw [show (⟨W.heap.size, j, none⟩ : Addr).block = W.heap.size from rfl, h2]
  exact h1
/-- Bytes that were just built, appended within a region that draws its order. -/
theorem step_app {ops : Array Oper} {o : Oper} {a : Act} {K : Act → World → Prop} {Q : Exit → Act → World → Prop} {E : Prop} (hgd : o.guard = none) (s x : Operand)
    (ho : o.op = .call { callee := .builtin .append, args := #[s, x], argTypes := #[67, 67] }) (B : Nat) (v : Value) (l u : List UInt8) (n : Nat) (hn : n = u.length) (W : World) (cs : Array Value) (hc : cs.toList = bv u)
    (hs : a.eval s = v) (hown : Own B v l W) (hx : a.eval x = .slice (some ⟨W.heap.size, 0, none⟩) n n) (hlen : l.length + u.length ≤ 140737488355328) (hB : B ≤ W.heap.size)
    (h : ∀ v' w', Hid (Own B v' (l ++ u) w') → Hid (Below B W w') → K (a.put o.dst v') w') : if Region.wanted o (yielded ops a.tmps) = true then Oper.wp Tryz.prog o a (W.alloc (.cells cs 5)) K Q else E := by
  refine step_appB hgd s x ho B v _ l u hs (hown.alloc _) hx (rd_built W cs u n hn hc) hlen (by simp; omega) ?_
  intro v' w' h1 h2
  exact h v' w' h1.out (((Below.refl B W).alloc hB _).grown h2.out (by simp; omega) (fun k hk => (World.ownsRow.lt hown k hk).1))

theorem hx_at (n : Nat) (h : n < (⟨#[48, 49, 50, 51, 52, 53, 54, 55, 56, 57, 97, 98, 99, 100, 101, 102]⟩ : ByteArray).size) : (⟨#[48, 49, 50, 51, 52, 53, 54, 55, 56, 57, 97, 98, 99, 100, 101, 102]⟩ : ByteArray)[n] = hx n := by
  rw [← at_lt _ n h]
  rfl
theorem hexL_append : ∀ a b : List UInt8, hexL (a ++ b) = hexL a ++ hexL b
  | [], b => rfl
  | x :: a, b => by
    show hx (x.toNat / 16) :: hx (x.toNat % 16) :: hexL (a ++ b) = (hx (x.toNat / 16) :: hx (x.toNat % 16) :: hexL a) ++ hexL b
    rw [hexL_append a b]
    rfl
theorem take_snoc (l : List UInt8) (k : Nat) (h : k < l.length) : l.take (k + 1) = l.take k ++ [l.getD k 0] := by
  rw [List.take_add_one, List.getD_eq_getElem?_getD, List.getElem?_eq_getElem h]
  rfl
theorem hex_take (l : List UInt8) (k : Nat) (h : k < l.length) : hexL (l.take (k + 1)) = hexL (l.take k) ++ [hx ((l.getD k 0).toNat / 16), hx ((l.getD k 0).toNat % 16)] := by
  rw [take_snoc l k h, hexL_append]
  rfl

attribute [local go_sem ↓] Go.wp_at_zero Go.wp_at_succ
set_option maxRecDepth 100000 in
set_option maxHeartbeats 1000000 in
theorem Hex_any (l : List UInt8) (hl : 2 * l.length ≤ 140737488355328) (w : World) :
    Calls Tryz.prog 252 #[.string (str l)] w fun e w' => e = .returned (.string (str (hexL l))) ∧ Below w.heap.size w w' := by
  have hs : (str l).size = l.length := str_size l
  have hmk := run_mk0 w (2 * ((l.length : Nat) : Int)) (by omega) (by omega)
  have HOw : Hid (Own w.heap.size (.slice (some ⟨w.heap.size, 0, none⟩) 0 (2 * l.length)) [] (w.alloc (.cells (madeCells #[.int .u8 0] (2 * l.length)) 5))) := own_made w _ (by omega) _ (size_madeCells _ _)
  have hby : ∀ (k : Nat) (h : k < (str l).size), ((str l)[k]'h) = l.getD k 0 := fun k h => by rw [← at_lt _ k h, str_list]
  go_enter Tryz.func252, Tryz.ntmps252
  go_wp2
  go_loopw [3, 11] (fun v i wr => ∃ k : Nat, k ≤ l.length ∧ i = .int .i64 k ∧ Hid (Own w.heap.size v (hexL (l.take k)) wr) ∧ Hid (Below w.heap.size w wr)) (fun _ i _ => l.length - (intOf i).toNat)
  case atStart => exact ⟨0, by omega, rfl, HOw.out, (Below.refl _ w).alloc (Nat.le_refl _) _⟩
  case round =>
    obtain ⟨k, hk, rfl, HO, HB⟩ := hrel
    have hsz := HB.out.size
    by_cases hlt : k < l.length
    · have HN : Hid (hexL (l.take (k + 1)) = hexL (l.take k) ++ [hx ((l.getD k 0).toNat / 16), hx ((l.getD k 0).toNat % 16)]) := hex_take l k hlt
      have HT : Hid ((hexL (l.take k)).length + 2 ≤ 140737488355328) := (by rw [hexL_length, List.length_take]; omega : (hexL (l.take k)).length + 2 ≤ 140737488355328)
      have hbk := hby k
      clear hby
      have hu := (l.getD k 0).toNat_lt
      generalize l.getD k 0 = u at *
      generalize hexL (l.take k) = t at *
      have ha : bits .and .u8 ((u.toNat : Nat) : Int) 15 = ((u.toNat % 16 : Nat) : Int) := by rw [u8_and15 _ (by omega) (by omega)]; omega
      have hd : ((u.toNat : Nat) : Int) / 16 = ((u.toNat / 16 : Nat) : Int) := by omega
      have h1 := hx_at (u.toNat / 16)
      have h2 := hx_at (u.toNat % 16)
      have l1 : u.toNat / 16 < 16 := by omega
      have l2 : u.toNat % 16 < 16 := by omega
      generalize u.toNat / 16 = p at *
      generalize u.toNat % 16 = q at *
      have l1' : (p : Int) < 16 := by omega
      have l2' : (q : Int) < 16 := by omega
      have HOd : Hid (Own w.heap.size u3 t wr.drew) := HO.out
      have hcs : (#[Value.int .u8 ((hx p).toNat : Int), Value.int .u8 ((hx q).toNat : Int)] : Array Value).toList = bv [hx p, hx q] := rfl
      go_wp2
      go_region_law (refine step_app rfl (.tmp 14) (.tmp 25) rfl w.heap.size u3 t [hx p, hx q] 2 rfl wr.drew _ hcs (by simp [Act.eval, Act.put]) HOd.out (by simp [Act.eval, Act.put]) HT.out hsz ?_; intro v2 w2 HO2 HB2)
      all_goals go_wp2
      all_goals exact ⟨⟨k + 1, by omega, by go_num, (by rw [HN.out]; exact HO2.out : Own w.heap.size _ (hexL (l.take (k + 1))) _), HB.out.drew.trans HB2.out⟩, by simp [intOf]; omega⟩
    · obtain rfl : k = l.length := by omega
      have hbk := back wr _ _ HO.out.rd
      rw [List.take_length] at hbk
      go_wp2
      go_ret
      exact ⟨rfl, HB.out⟩

end Bs
end Go.Proofs.YtlfobdjbnpgchaaGreatDoor

/-
  The law's own awake.
-/
set_option linter.unusedVariables false
set_option linter.unusedSimpArgs false
namespace Go.Proofs.YtlfobdjbnpgchaaGreatDoor
open Go.RowKit
namespace Bs

theorem bel_trans' {a b c : World} (h : Below a.heap.size a b) (k : Below b.heap.size b c) : Below a.heap.size a c := h.trans (k.mono h.size)

end Bs
end Go.Proofs.YtlfobdjbnpgchaaGreatDoor

/-
  SHA-1: turning, the eighty words, one piece: over the model's own numbers.
-/
set_option linter.unusedVariables false
set_option linter.unusedSimpArgs false
namespace Go.Proofs.YtlfobdjbnpgchaaGreatDoor
open Go.RowKit
namespace Bs

def U32 (x : Int) : Prop := 0 ≤ x ∧ x ≤ 4294967295
def rl1 (x : Int) : Int := bits .or .u32 (x * 2 % 4294967296) (x / 2147483648)
def rl5 (x : Int) : Int := bits .or .u32 (x * 32 % 4294967296) (x / 134217728)
def rl30 (x : Int) : Int := bits .or .u32 (x * 1073741824 % 4294967296) (x / 4)
theorem bits_u32 (op : BinOp) (a b : Int) : U32 (bits op .u32 a b) := ⟨bits_lo_u32 op a b, bits_hi_u32 op a b⟩
theorem rl1_u (x : Int) : U32 (rl1 x) := bits_u32 _ _ _
theorem rl5_u (x : Int) : U32 (rl5 x) := bits_u32 _ _ _
theorem rl30_u (x : Int) : U32 (rl30 x) := bits_u32 _ _ _

set_option maxRecDepth 100000 in
set_option maxHeartbeats 400000 in
theorem Rot1_any (x : Int) (hx : U32 x) (w : World) : Calls Tryz.prog 322 #[.int .u32 x, .int .i64 1] w fun e w' => e = .returned (.int .u32 (rl1 x)) ∧ w' = w := by
  obtain ⟨h0, h1⟩ := hx
  have hb : bits .and .u64 1 31 = 1 := by decide
  go_enter Tryz.func322, Tryz.ntmps322
  go_wp2
  go_ret
  exact ⟨rfl, rfl⟩

set_option maxRecDepth 100000 in
set_option maxHeartbeats 400000 in
theorem Rot5_any (x : Int) (hx : U32 x) (w : World) : Calls Tryz.prog 322 #[.int .u32 x, .int .i64 5] w fun e w' => e = .returned (.int .u32 (rl5 x)) ∧ w' = w := by
  obtain ⟨h0, h1⟩ := hx
  have hb : bits .and .u64 5 31 = 5 := by decide
  go_enter Tryz.func322, Tryz.ntmps322
  go_wp2
  go_ret
  exact ⟨rfl, rfl⟩

set_option maxRecDepth 100000 in
set_option maxHeartbeats 400000 in
theorem Rot30_any (x : Int) (hx : U32 x) (w : World) : Calls Tryz.prog 322 #[.int .u32 x, .int .i64 30] w fun e w' => e = .returned (.int .u32 (rl30 x)) ∧ w' = w := by
  obtain ⟨h0, h1⟩ := hx
  have hb : bits .and .u64 30 31 = 30 := by decide
  go_enter Tryz.func322, Tryz.ntmps322
  go_wp2
  go_ret
  exact ⟨rfl, rfl⟩

/- The words of a piece. -/
def n256 (l : List UInt8) : Nat := l.foldl (fun a b => a * 256 + b.toNat) 0
theorem n256_snoc (l : List UInt8) (b : UInt8) : n256 (l ++ [b]) = n256 l * 256 + b.toNat := by unfold n256; rw [List.foldl_append]; rfl
theorem n256_lt : ∀ (l : List UInt8), l.length ≤ 3 → n256 l < 16777216
  | [], _ => by decide
  | [a], _ => by have := a.toNat_lt; show 0 * 256 + a.toNat < _; omega
  | [a, b], _ => by have := a.toNat_lt; have := b.toNat_lt; simp [n256]; omega
  | [a, b, c], _ => by have := a.toNat_lt; have := b.toNat_lt; have := c.toNat_lt; simp [n256]; omega
  | _ :: _ :: _ :: _ :: _, h => by simp at h
/-- The word j, when i bytes have come. -/
def pw (p : List UInt8) (i j : Nat) : Nat := n256 (((p.take i).drop (4 * j)).take 4)
theorem pw_lt (p : List UInt8) (i j : Nat) : pw p i j < 4294967296 := by
  unfold pw
  have hl : (((p.take i).drop (4 * j)).take 4).length ≤ 4 := by rw [List.length_take]; omega
  generalize ((p.take i).drop (4 * j)).take 4 = l at hl
  match l, hl with
  | [], _ => decide
  | a :: l, h =>
    have := n256_lt ((a :: l).dropLast) (by simp at h ⊢; omega)
    have e := List.dropLast_concat_getLast (l := a :: l) (by simp)
    rw [← e, n256_snoc]
    have := ((a :: l).getLast (by simp)).toNat_lt
    omega
theorem pw_zero (p : List UInt8) (j : Nat) : pw p 0 j = 0 := by unfold pw; simp [n256]
theorem pw_else (p : List UInt8) (i j : Nat) (hi : i < p.length) (h : j ≠ i / 4) : pw p (i + 1) j = pw p i j := by
  unfold pw
  congr 1
  rw [take_snoc p i hi]
  rcases Nat.lt_or_gt_of_ne h with h | h
  · rw [List.drop_append_of_le_length (by simp; omega), List.take_append_of_le_length (by simp; omega)]
  · rw [List.drop_of_length_le (by simp; omega), List.drop_of_length_le (by simp; omega)]
theorem pw_step (p : List UInt8) (i : Nat) (hi : i < p.length) : pw p (i + 1) (i / 4) = pw p i (i / 4) * 256 + (p.getD i 0).toNat ∧ pw p i (i / 4) < 16777216 := by
  have e0 : (p.take i).length = i := by simp; omega
  have e1 : ((p.take i).drop (4 * (i / 4))).length = i % 4 := by simp; omega
  have e2 : (((p.take i).drop (4 * (i / 4))).take 4) = (p.take i).drop (4 * (i / 4)) := List.take_of_length_le (by omega)
  refine ⟨?_, ?_⟩
  · unfold pw
    rw [take_snoc p i hi, List.drop_append_of_le_length (by omega), List.take_of_length_le (by simp; omega), n256_snoc, e2]
  · unfold pw
    rw [e2]
    exact n256_lt _ (by omega)

/-- The eighty words. -/
def wsch (p : List UInt8) (t : Nat) : Int :=
  if h : t < 16 then ((pw p 64 t : Nat) : Int) else rl1 (bits .xor .u32 (bits .xor .u32 (bits .xor .u32 (wsch p (t - 3)) (wsch p (t - 8))) (wsch p (t - 14))) (wsch p (t - 16)))
termination_by t
decreasing_by all_goals omega
theorem wsch_lt (p : List UInt8) (t : Nat) (h : t < 16) : wsch p t = ((pw p 64 t : Nat) : Int) := by rw [wsch, dif_pos h]
theorem wsch_ge (p : List UInt8) (t : Nat) (h : 16 ≤ t) : wsch p t = rl1 (bits .xor .u32 (bits .xor .u32 (bits .xor .u32 (wsch p (t - 3)) (wsch p (t - 8))) (wsch p (t - 14))) (wsch p (t - 16))) := by rw [wsch, dif_neg (by omega)]
theorem wsch_u (p : List UInt8) (t : Nat) : U32 (wsch p t) := by
  by_cases h : t < 16
  · rw [wsch_lt p t h]
    have := pw_lt p 64 t
    exact ⟨by omega, by omega⟩
  · rw [wsch_ge p t (by omega)]
    exact rl1_u _
/-- What word j holds when the words below t are made. -/
def wst (p : List UInt8) (t j : Nat) : Int := if j < t then wsch p j else 0

end Bs
end Go.Proofs.YtlfobdjbnpgchaaGreatDoor
