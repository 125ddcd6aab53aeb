/-
  The document's IsMark.
-/
import Derived.Test.YthdfgepnadgkjaaDoorZzP
import Derived.BigQuiet
set_option linter.unusedVariables false
set_option linter.unusedSimpArgs false
namespace Go.Proofs.YthdfgepnadgkjaaDoor
open Go.RowKit Go.Shelf
namespace Sn
open Oc Tg Ac

def okK (c : UInt8) (j : Nat) : Bool := (lettI (c.toNat : Int) || digI (c.toNat : Int)) || (noM.take j).contains c
theorem okK_all (c : UInt8) : okK c 12 = markB c := by
  have h : ∀ n : Nat, n < 256 → okK (UInt8.ofNat n) 12 = markB (UInt8.ofNat n) := by decide +kernel
  have := h c.toNat c.toNat_lt
  rwa [UInt8.ofNat_toNat] at this
theorem okK_next (c : UInt8) (j : Nat) (h : j < 12) : okK c (j + 1) = (okK c j || decide ((c.toNat : Int) = ((noM.getD j 0).toNat : Int))) := by
  have k : ∀ j : Nat, j < 12 → ∀ n : Nat, n < 256 → okK (UInt8.ofNat n) (j + 1) = (okK (UInt8.ofNat n) j || decide (((UInt8.ofNat n).toNat : Int) = ((noM.getD j 0).toNat : Int))) := by decide +kernel
  have := k j h c.toNat c.toNat_lt
  rwa [UInt8.ofNat_toNat] at this
theorem noM_at (j : Nat) (h : j < (⟨#[39, 40, 41, 43, 95, 44, 45, 46, 47, 58, 61, 63]⟩ : ByteArray).size) : (((⟨#[39, 40, 41, 43, 95, 44, 45, 46, 47, 58, 61, 63]⟩ : ByteArray)[j].toNat : Nat) : Int) = ((noM.getD j 0).toNat : Int) := byt_at _ j h

set_option maxRecDepth 100000 in
set_option maxHeartbeats 1000000 in
theorem rIsMark_any (s : ByteArray) (hs : s.size ≤ 16777216) (w : World) :
    Calls Tryd.prog 12 #[.string s] w fun e w' => e = .returned (.bool (bndR s.data.toList)) ∧ Below w.heap.size w w' := by
  have HY : Hid (∀ k, k < s.size → markB (s.data.toList.getD k 0) = false → bndR s.data.toList = false) := fun k hk h => bnd_bad (by rw [size_list]; exact hk) h
  have HN : Hid ((∀ j, j < s.size → markB (s.data.toList.getD j 0) = true) → bndR s.data.toList = (decide (1 ≤ s.size) && decide (s.size ≤ 70))) := fun h => by
    have := bnd_ok (l := s.data.toList) (fun j hj => h j (by rw [size_list] at hj; exact hj))
    rw [size_list] at this
    rw [this]
    congr 1
    rw [decide_eq_decide, ← size_list]
    cases s.data.toList <;> simp
  generalize bndR s.data.toList = M at *
  go_enter Tryd.func12, Tryd.ntmps12
  go_wp2
  go_loopw [3] (fun i wr => ∃ k : Nat, k ≤ s.size ∧ i = .int .i64 k ∧ Hid (∀ j, j < k → markB (s.data.toList.getD j 0) = true) ∧ Hid (Below w.heap.size w wr)) (fun i _ => s.size - (intOf i).toNat)
  case atStart => exact ⟨0, Nat.zero_le _, rfl, (fun j hj => absurd hj (Nat.not_lt_zero _) : ∀ j, j < 0 → _), Below.refl _ _⟩
  case round =>
    obtain ⟨wo, rfl⟩ : ∃ wo, wo = wr := ⟨_, rfl⟩
    obtain ⟨k, hk, rfl, hA, hbl⟩ := hrel
    by_cases hlt : k < s.size
    · have hby : ((s[k].toNat : Nat) : Int) = ((s.data.toList.getD k 0).toNat : Int) := byt_at s k hlt
      have HYk : Hid (markB (s.data.toList.getD k 0) = false → M = false) := HY.out k hlt
      have HAn : Hid (markB (s.data.toList.getD k 0) = true → ∀ j, j < k + 1 → markB (s.data.toList.getD j 0) = true) := fun h j hj => by
        by_cases e : j = k
        · rw [e]; exact h
        · exact hA.out j (by omega)
      generalize s.data.toList.getD k 0 = u at HYk HAn hby
      have b0 : (0 : Int) ≤ (u.toNat : Int) := by omega
      have b1 : (u.toNat : Int) ≤ 255 := by have := u.toNat_lt; omega
      have HLe : Hid (∀ W, Calls Tryd.prog 22 #[.int .u8 ((s[k].toNat : Nat) : Int)] W fun e w' => e = .returned (.bool (lettI (u.toNat : Int))) ∧ w' = W) := fun W => by rw [hby]; exact IsLetter_any _ b0 b1 W
      have HDi : Hid (∀ W, Calls Tryd.prog 23 #[.int .u8 ((s[k].toNat : Nat) : Int)] W fun e w' => e = .returned (.bool (digI (u.toNat : Int))) ∧ w' = W) := fun W => by rw [hby]; exact IsDigit_any _ b0 b1 W
      have HK0 : Hid (okK u 0 = (lettI (u.toNat : Int) || digI (u.toNat : Int))) := (by simp [okK] : _ = _)
      have HKn : Hid (∀ j, j < 12 → okK u (j + 1) = (okK u j || (((s[k].toNat : Nat) : Int) == ((noM.getD j 0).toNat : Int)))) := fun j hj => by
        rw [okK_next u j hj, hby]
        first | rfl | (congr 1; rw [Bool.eq_iff_iff, decide_eq_true_iff, beq_iff_eq])
      have HKa : Hid (okK u 12 = markB u) := okK_all u
      clear hby b0 b1
      generalize markB u = mb at HYk HAn HKa
      cases hl : lettI (u.toNat : Int) with
      | true =>
        rw [hl] at HLe HK0
        have HK0' : Hid (okK u 0 = true) := HK0.out
        clear HK0 hl HDi
        have HK0 := HK0'
        clear HK0'
        go_wp2_with fail
        refine (HLe.out _).mono ?_
        rintro e w2 ⟨rfl, hw2⟩
        rw [hw2]
        clear hw2
        have HB2 : Hid (Below w.heap.size w wo) := hbl
        go_wp2
        go_loopw [4, 5] (fun ov jv wr => ∃ j : Nat, j ≤ 12 ∧ jv = .int .i64 j ∧ ov = .bool (okK u j) ∧ Hid (Below w.heap.size w wr)) (fun _ jv _ => 12 - (intOf jv).toNat)
        case atStart => exact ⟨0, by omega, rfl, by rw [HK0.out], HB2⟩
        case round =>
          obtain ⟨j, hj, rfl, rfl, hbj⟩ := hrel
          by_cases hjt : j < 12
          · have HKj : Hid (okK u (j + 1) = (okK u j || (((s[k].toNat : Nat) : Int) == ((noM.getD j 0).toNat : Int)))) := HKn.out j hjt
            have hj12 : j < (⟨#[39, 40, 41, 43, 95, 44, 45, 46, 47, 58, 61, 63]⟩ : ByteArray).size := hjt
            have hnm := noM_at j hj12
            have HBd : Hid (Below w.heap.size w wr.drew) := below_drewN hbj.out 1
            cases hB : okK u j with
            | true =>
              have HO : Hid (okK u (j + 1) = true) := (by rw [HKj.out, hB]; rfl : _ = _)
              clear HKj hB
              go_wp2_with fail
              go_quiet (fail)
              all_goals
                go_wp2
                go_roundw
                case rel => exact ⟨j + 1, by omega, by go_num, by rw [HO.out], below_drewN hbj.out _⟩
                case measure => simp [intOf]; omega
            | false =>
              have HO : Hid (okK u (j + 1) = (((s[k].toNat : Nat) : Int) == ((noM.getD j 0).toNat : Int))) := (by rw [HKj.out, hB]; rfl : _ = _)
              clear HKj hB
              go_wp2_with fail
              go_quiet (fail)
              all_goals
                go_wp2
                go_roundw
                case rel => exact ⟨j + 1, by omega, by go_num, by rw [HO.out, List.getD_eq_getElem?_getD], below_drewN hbj.out _⟩
                case measure => simp [intOf]; omega
          · obtain rfl : j = 12 := by omega
            rw [HKa.out]
            cases mb with
            | false =>
              have hM : Hid (M = false) := HYk.out rfl
              go_wp2
              go_ret
              rw [hM.out]
              exact ⟨rfl, hbj.out⟩
            | true =>
              have HAk : Hid (∀ j, j < k + 1 → markB (s.data.toList.getD j 0) = true) := HAn.out rfl
              go_wp2
              go_roundw
              case rel => exact ⟨k + 1, by omega, by go_num, HAk, hbj⟩
              case measure => simp [intOf]; omega
      | false =>
        rw [hl] at HLe HK0
        have HK0' : Hid (okK u 0 = digI (u.toNat : Int)) := HK0.out
        clear HK0 hl
        generalize digI (u.toNat : Int) = dg at *
        have HK0 := HK0'
        clear HK0'
        go_wp2_with fail
        refine (HLe.out _).mono ?_
        rintro e w2 ⟨rfl, hw2⟩
        rw [hw2]
        clear hw2
        go_wp2_with fail
        refine (HDi.out _).mono ?_
        rintro e w3 ⟨rfl, hw3⟩
        rw [hw3]
        clear hw3
        have HB2 : Hid (Below w.heap.size w wo) := hbl
        go_wp2
        go_loopw [4, 5] (fun ov jv wr => ∃ j : Nat, j ≤ 12 ∧ jv = .int .i64 j ∧ ov = .bool (okK u j) ∧ Hid (Below w.heap.size w wr)) (fun _ jv _ => 12 - (intOf jv).toNat)
        case atStart => exact ⟨0, by omega, rfl, by rw [HK0.out], HB2⟩
        case round =>
          obtain ⟨j, hj, rfl, rfl, hbj⟩ := hrel
          by_cases hjt : j < 12
          · have HKj : Hid (okK u (j + 1) = (okK u j || (((s[k].toNat : Nat) : Int) == ((noM.getD j 0).toNat : Int)))) := HKn.out j hjt
            have hj12 : j < (⟨#[39, 40, 41, 43, 95, 44, 45, 46, 47, 58, 61, 63]⟩ : ByteArray).size := hjt
            have hnm := noM_at j hj12
            have HBd : Hid (Below w.heap.size w wr.drew) := below_drewN hbj.out 1
            cases hB : okK u j with
            | true =>
              have HO : Hid (okK u (j + 1) = true) := (by rw [HKj.out, hB]; rfl : _ = _)
              clear HKj hB
              go_wp2_with fail
              go_quiet (fail)
              all_goals
                go_wp2
                go_roundw
                case rel => exact ⟨j + 1, by omega, by go_num, by rw [HO.out], below_drewN hbj.out _⟩
                case measure => simp [intOf]; omega
            | false =>
              have HO : Hid (okK u (j + 1) = (((s[k].toNat : Nat) : Int) == ((noM.getD j 0).toNat : Int))) := (by rw [HKj.out, hB]; rfl : _ = _)
              clear HKj hB
              go_wp2_with fail
              go_quiet (fail)
              all_goals
                go_wp2
                go_roundw
                case rel => exact ⟨j + 1, by omega, by go_num, by rw [HO.out, List.getD_eq_getElem?_getD], below_drewN hbj.out _⟩
                case measure => simp [intOf]; omega
          · obtain rfl : j = 12 := by omega
            rw [HKa.out]
            cases mb with
            | false =>
              have hM : Hid (M = false) := HYk.out rfl
              go_wp2
              go_ret
              rw [hM.out]
              exact ⟨rfl, hbj.out⟩
            | true =>
              have HAk : Hid (∀ j, j < k + 1 → markB (s.data.toList.getD j 0) = true) := HAn.out rfl
              go_wp2
              go_roundw
              case rel => exact ⟨k + 1, by omega, by go_num, HAk, hbj⟩
              case measure => simp [intOf]; omega
    · obtain rfl : k = s.size := by omega
      have hM : Hid (M = (decide (1 ≤ s.size) && decide (s.size ≤ 70))) := HN.out hA.out
      go_wp2
      all_goals
        go_ret
        refine ⟨ret_bool ?_, hbl.out⟩
        rw [hM.out]
        first
        | (simp; done)
        | (simp; omega)
        | (rw [Bool.eq_iff_iff]; simp; omega)

end Sn
end Go.Proofs.YthdfgepnadgkjaaDoor
