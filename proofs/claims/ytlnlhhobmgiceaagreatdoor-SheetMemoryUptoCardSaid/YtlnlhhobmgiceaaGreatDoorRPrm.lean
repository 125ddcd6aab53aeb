/-
  The document's blanks, signs, Params.
-/
import Derived.Test.YtlnlhhobmgiceaaGreatDoorMgU
import Derived.Test.YtlnlhhobmgiceaaGreatDoorMgH
set_option linter.unusedVariables false
set_option linter.unusedSimpArgs false
namespace Go.Proofs.YtlnlhhobmgiceaaGreatDoor
open Go.RowKit Go.Shelf
namespace Oc

theorem drop_getD (l : List UInt8) (a j : Nat) : (l.drop a).getD j 0 = l.getD (a + j) 0 := by
  rw [List.getD_eq_getElem?_getD, List.getD_eq_getElem?_getD, List.getElem?_drop]
theorem ext_take (s : ByteArray) (i n : Nat) : s.extract i (i + n) = str ((s.data.toList.drop i).take n) := by
  apply eq_list
  rw [str_list, Lib.extract_data, show i + n - i = n by omega]

set_option maxRecDepth 100000 in
set_option maxHeartbeats 1000000 in
theorem blanks_any (s : ByteArray) (hs : s.size ≤ 134217728) (a : Nat) (ha : a ≤ s.size) (w : World) :
    Calls Tryz.prog 44 #[.string s, .int .i64 (a : Int)] w fun e w' => e = .returned (.int .i64 (bl (s.data.toList.drop a))) ∧ w' = w := by
  have HL : Hid ((s.data.toList.drop a).length = s.size - a) := (by simp : (s.data.toList.drop a).length = s.size - a)
  go_enter Tryz.func44, Tryz.ntmps44
  go_wp2
  go_loop [5] (fun nv => ∃ k : Nat, k ≤ s.size - a ∧ nv = .int .i64 k ∧ Hid (∀ j, j < k → blankB ((s.data.toList.drop a).getD j 0) = true)) (fun nv => s.size - a - (intOf nv).toNat)
  case atStart => exact ⟨0, Nat.zero_le _, rfl, (fun j hj => by omega : ∀ j, j < 0 → _)⟩
  case round =>
    obtain ⟨k, hk, rfl, hall⟩ := hrel
    by_cases hlt : k < s.size - a
    · have hlt2 : a + k < s.size := by omega
      have hby : ((s[a + k].toNat : Nat) : Int) = byt s (a + k) := byt_at s (a + k) hlt2
      obtain ⟨b0, b1⟩ := byt_bd s (a + k)
      have HC : Hid (blankB ((s.data.toList.drop a).getD k 0) = blankI (byt s (a + k))) := (by rw [drop_getD]; rfl : blankB _ = _)
      cases hb : blankI (byt s (a + k)) with
      | true =>
        have HA : Hid (∀ j, j < k + 1 → blankB ((s.data.toList.drop a).getD j 0) = true) := by
          intro j hj
          by_cases hjk : j = k
          · subst hjk; rw [HC.out]; exact hb
          · exact hall.out j (by omega)
        go_wp2_with (go_at_call 41; refine (IsBlank_any _ (by omega) (by omega) _).mono ?_; rintro e w' ⟨rfl, rfl⟩)
        go_round
        case rel => exact ⟨k + 1, by omega, by go_num, HA⟩
        case measure => simp [intOf]; omega
      | false =>
        have HN : Hid (bl (s.data.toList.drop a) = k) := tw_stop blankB 0 _ k (by rw [HL.out]; exact hlt) hall.out (by rw [HC.out]; exact hb)
        go_wp2_with (go_at_call 41; refine (IsBlank_any _ (by omega) (by omega) _).mono ?_; rintro e w' ⟨rfl, rfl⟩)
        go_ret
        exact ⟨ret_int (by rw [HN.out]), rfl⟩
    · have HN : Hid (bl (s.data.toList.drop a) = k) := (tw_all blankB 0 _ (fun j hj => hall.out j (by rw [HL.out] at hj; omega))).trans (by rw [HL.out]; omega)
      have hge : ¬ ((a : Int) + (k : Int) < (s.size : Int)) := by omega
      go_wp2
      go_ret
      exact ⟨ret_int (by rw [HN.out]), rfl⟩

set_option maxRecDepth 100000 in
set_option maxHeartbeats 1000000 in
theorem signs_any (s : ByteArray) (hs : s.size ≤ 134217728) (a : Nat) (ha : a ≤ s.size) (w : World) :
    Calls Tryz.prog 45 #[.string s, .int .i64 (a : Int)] w fun e w' => e = .returned (.int .i64 (tokLen (s.data.toList.drop a))) ∧ w' = w := by
  have HL : Hid ((s.data.toList.drop a).length = s.size - a) := (by simp : (s.data.toList.drop a).length = s.size - a)
  go_enter Tryz.func45, Tryz.ntmps45
  go_wp2
  go_loop [5] (fun nv => ∃ k : Nat, k ≤ s.size - a ∧ nv = .int .i64 k ∧ Hid (∀ j, j < k → tokB ((s.data.toList.drop a).getD j 0) = true)) (fun nv => s.size - a - (intOf nv).toNat)
  case atStart => exact ⟨0, Nat.zero_le _, rfl, (fun j hj => by omega : ∀ j, j < 0 → _)⟩
  case round =>
    obtain ⟨k, hk, rfl, hall⟩ := hrel
    by_cases hlt : k < s.size - a
    · have hlt2 : a + k < s.size := by omega
      have hby : ((s[a + k].toNat : Nat) : Int) = byt s (a + k) := byt_at s (a + k) hlt2
      obtain ⟨b0, b1⟩ := byt_bd s (a + k)
      have HC : Hid (tokB ((s.data.toList.drop a).getD k 0) = tokI (byt s (a + k))) := (by rw [drop_getD]; rfl : tokB _ = _)
      cases hb : tokI (byt s (a + k)) with
      | true =>
        have HA : Hid (∀ j, j < k + 1 → tokB ((s.data.toList.drop a).getD j 0) = true) := by
          intro j hj
          by_cases hjk : j = k
          · subst hjk; rw [HC.out]; exact hb
          · exact hall.out j (by omega)
        go_wp2_with (go_at_call 17; refine (IsSign_any _ (by omega) (by omega) _).mono ?_; rintro e w' ⟨rfl, rfl⟩)
        go_round
        case rel => exact ⟨k + 1, by omega, by go_num, HA⟩
        case measure => simp [intOf]; omega
      | false =>
        have HN : Hid (tokLen (s.data.toList.drop a) = k) := tw_stop tokB 0 _ k (by rw [HL.out]; exact hlt) hall.out (by rw [HC.out]; exact hb)
        go_wp2_with (go_at_call 17; refine (IsSign_any _ (by omega) (by omega) _).mono ?_; rintro e w' ⟨rfl, rfl⟩)
        go_ret
        exact ⟨ret_int (by rw [HN.out]), rfl⟩
    · have HN : Hid (tokLen (s.data.toList.drop a) = k) := (tw_all tokB 0 _ (fun j hj => hall.out j (by rw [HL.out] at hj; omega))).trans (by rw [HL.out]; omega)
      have hge : ¬ ((a : Int) + (k : Int) < (s.size : Int)) := by omega
      go_wp2
      go_ret
      exact ⟨ret_int (by rw [HN.out]), rfl⟩

end Oc
end Go.Proofs.YtlnlhhobmgiceaaGreatDoor
