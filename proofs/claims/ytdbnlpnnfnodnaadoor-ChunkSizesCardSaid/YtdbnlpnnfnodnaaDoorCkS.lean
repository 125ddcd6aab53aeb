/-
  Of the document: past, sign, said.
-/
import Derived.Test.YtdbnlpnnfnodnaaDoorCkM
set_option linter.unusedVariables false
set_option linter.unusedSimpArgs false
set_option maxRecDepth 100000
namespace Go.Proofs.YtdbnlpnnfnodnaaDoor
open Go.RowKit Go.Shelf
namespace Ck
open Oc Tg _root_.Go.Proofs.YtdbnlpnnfnodnaaDoor.Fd

theorem bl_cons (c : UInt8) (l : List UInt8) : bl (c :: l) = if blankB c then bl l + 1 else 0 := by
  unfold bl
  rw [List.takeWhile_cons]
  split <;> simp
theorem tok_cons (c : UInt8) (l : List UInt8) : tokLen (c :: l) = if tokB c then tokLen l + 1 else 0 := by
  unfold tokLen
  rw [List.takeWhile_cons]
  split <;> simp

set_option maxHeartbeats 1000000 in
theorem rpast_any (s : ByteArray) (hs : s.size ≤ 4000000) (a : Nat) (ha : a ≤ s.size) (w : World) :
    Calls Tryd.prog 37 #[.string s, .int .i64 a] w fun e w' => e = .returned (.int .i64 ((a + bl (s.data.toList.drop a) : Nat) : Int)) ∧ w' = w := by
  go_enter Tryd.func37, Tryd.ntmps37
  go_wp2
  go_loop [1] (fun v => ∃ k : Nat, k ≤ s.size ∧ v = .int .i64 k ∧ Hid (a + bl (s.data.toList.drop a) = k + bl (s.data.toList.drop k))) (fun v => s.size - (intOf v).toNat)
  case atStart => exact ⟨a, ha, rfl, rfl⟩
  case round =>
    obtain ⟨k, hk, rfl, he⟩ := hrel
    by_cases hlt : k < s.size
    · have hby : ((s[k].toNat : Nat) : Int) = byt s k := byt_at s k hlt
      obtain ⟨b0, b1⟩ := byt_bd s k
      have HD : Hid (s.data.toList.drop k = s.data.toList.getD k 0 :: s.data.toList.drop (k + 1)) := drop_cons _ k (by rw [size_list]; exact hlt)
      have HB : Hid (blankB (s.data.toList.getD k 0) = blankI (byt s k)) := rfl
      cases hbk : blankI (byt s k) with
      | true =>
        have HN : Hid (a + bl (s.data.toList.drop a) = (k + 1) + bl (s.data.toList.drop (k + 1))) := by
          show _ = _
          rw [he.out, HD.out, bl_cons, HB.out, hbk]
          simp; omega
        go_wp2_with fail
        refine (rBlank_any (byt s k) b0 (by omega) _).mono ?_
        rintro e w2 ⟨rfl, hw⟩
        rw [hw, hbk]
        go_wp2
        go_round
        case rel => exact ⟨k + 1, by omega, by go_num, HN⟩
        case measure => simp [intOf]; omega
      | false =>
        have HN : Hid (a + bl (s.data.toList.drop a) = k) := by
          show _ = _
          rw [he.out, HD.out, bl_cons, HB.out, hbk]
          simp
        go_wp2_with fail
        refine (rBlank_any (byt s k) b0 (by omega) _).mono ?_
        rintro e w2 ⟨rfl, hw⟩
        rw [hw, hbk]
        go_wp2
        go_ret
        exact ⟨ret_int (by have := HN.out; omega), rfl⟩
    · have HN : Hid (a + bl (s.data.toList.drop a) = k) := by
        show _ = _
        rw [he.out, List.drop_eq_nil_of_le (by rw [size_list]; omega)]
        rfl
      go_wp2
      go_ret
      exact ⟨ret_int (by have := HN.out; omega), rfl⟩

set_option maxHeartbeats 1000000 in
theorem rsign_any (s : ByteArray) (hs : s.size ≤ 4000000) (a : Nat) (ha : a ≤ s.size) (w : World) :
    Calls Tryd.prog 38 #[.string s, .int .i64 a] w fun e w' => e = .returned (.int .i64 ((tokLen (s.data.toList.drop a) : Nat) : Int)) ∧ w' = w := by
  go_enter Tryd.func38, Tryd.ntmps38
  go_wp2
  go_loop [5] (fun v => ∃ k : Nat, a + k ≤ s.size ∧ v = .int .i64 k ∧ Hid (tokLen (s.data.toList.drop a) = k + tokLen (s.data.toList.drop (a + k)))) (fun v => s.size - (intOf v).toNat)
  case atStart => exact ⟨0, ha, rfl, (by simp : tokLen (s.data.toList.drop a) = 0 + tokLen (s.data.toList.drop (a + 0)))⟩
  case round =>
    obtain ⟨k, hk, rfl, he⟩ := hrel
    by_cases hlt : a + k < s.size
    · have hlt' : (a : Int) + (k : Int) < (s.size : Int) := by omega
      have hnn : (0 : Int) ≤ (a : Int) + (k : Int) := by omega
      have htn : ((a : Int) + (k : Int)).toNat = a + k := by omega
      have hby : ((s[a + k].toNat : Nat) : Int) = byt s (a + k) := byt_at s (a + k) hlt
      obtain ⟨b0, b1⟩ := byt_bd s (a + k)
      have HD : Hid (s.data.toList.drop (a + k) = s.data.toList.getD (a + k) 0 :: s.data.toList.drop (a + k + 1)) := drop_cons _ (a + k) (by rw [size_list]; exact hlt)
      have HB : Hid (tokB (s.data.toList.getD (a + k) 0) = tokI (byt s (a + k))) := rfl
      cases hbk : tokI (byt s (a + k)) with
      | true =>
        have HN : Hid (tokLen (s.data.toList.drop a) = (k + 1) + tokLen (s.data.toList.drop (a + (k + 1)))) := by
          show _ = _
          rw [he.out, HD.out, tok_cons, HB.out, hbk, show a + (k + 1) = a + k + 1 by omega]
          simp; omega
        go_wp2_with fail
        refine (rSign_any (byt s (a + k)) b0 (by omega) _).mono ?_
        rintro e w2 ⟨rfl, hw⟩
        rw [hw, hbk]
        go_wp2
        go_round
        case rel => exact ⟨k + 1, by omega, by go_num, HN⟩
        case measure => simp [intOf]; omega
      | false =>
        have HN : Hid (tokLen (s.data.toList.drop a) = k) := by
          show _ = _
          rw [he.out, HD.out, tok_cons, HB.out, hbk]
          simp
        go_wp2_with fail
        refine (rSign_any (byt s (a + k)) b0 (by omega) _).mono ?_
        rintro e w2 ⟨rfl, hw⟩
        rw [hw, hbk]
        go_wp2
        go_ret
        exact ⟨ret_int (by have := HN.out; omega), rfl⟩
    · have HN : Hid (tokLen (s.data.toList.drop a) = k) := by
        show _ = _
        rw [he.out, List.drop_eq_nil_of_le (by rw [size_list]; omega)]
        rfl
      have hlt' : ¬ ((a : Int) + (k : Int) < (s.size : Int)) := by omega
      go_wp2
      go_ret
      exact ⟨ret_int (by have := HN.out; omega), rfl⟩

end Ck
end Go.Proofs.YtdbnlpnnfnodnaaDoor
