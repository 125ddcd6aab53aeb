import Derived.Test.YtdcfhnbagldilaaGreatDoorMgB
import Derived.Test.YtdcfhnbagldilaaGreatDoorMgE
set_option linter.unusedVariables false
set_option linter.unusedSimpArgs false
namespace Go.Proofs.YtdcfhnbagldilaaGreatDoor
open Go.RowKit Go.Shelf
namespace Fd
open Oc
theorem byt_list (s : ByteArray) (k : Nat) (c : UInt8) (h : s.data.toList.getD k 0 = c) : byt s k = (c.toNat : Int) := by unfold byt; rw [h]
theorem list_byt (s : ByteArray) (k : Nat) (c : UInt8) (h : byt s k = (c.toNat : Int)) : s.data.toList.getD k 0 = c := by unfold byt at h; exact UInt8.toNat_inj.1 (by omega)
theorem mapk (o : Option Nat) (a b : Nat) : (o.map (· + a)).map (· + b) = o.map (· + (a + b)) := by cases o <;> simp [Nat.add_assoc]
set_option maxRecDepth 100000 in
set_option maxHeartbeats 2000000 in
theorem rQuoted_any (s : ByteArray) (hs : s.size ≤ 134217728) (h0 : 0 < s.size) (hq : byt s 0 = 34) (w : World) :
    Calls Tryz.prog 122 #[.string s] w fun e w' => e = .returned (.int .i64 (qlen s.data.toList : Nat)) ∧ w' = w := by
  have HQ : Hid (qlen s.data.toList = plusOne (qscan false (s.data.toList.drop 1))) := qlen_some s h0 hq
  clear hq
  go_enter Tryz.func122, Tryz.ntmps122
  go_wp2
  go_loop [3] (fun i => ∃ k : Nat, 1 ≤ k ∧ k ≤ s.size ∧ i = .int .i64 k ∧ Hid (qscan false (s.data.toList.drop 1) = (qscan false (s.data.toList.drop k)).map (· + (k - 1)))) (fun i => s.size - (intOf i).toNat)
  case atStart => exact ⟨1, Nat.le_refl _, h0, rfl, (by simp : qscan false (s.data.toList.drop 1) = (qscan false (s.data.toList.drop 1)).map (· + (1 - 1)))⟩
  case round =>
    obtain ⟨k, hk1, hk, rfl, hst⟩ := hrel
    by_cases hlt : k < s.size
    · have hby : ((s[k].toNat : Nat) : Int) = byt s k := byt_at s k hlt
      obtain ⟨b0, b1⟩ := byt_bd s k
      have HD : Hid (s.data.toList.drop k = s.data.toList.getD k 0 :: s.data.toList.drop (k + 1)) := drop_cons _ k (by rw [size_list]; exact hlt)
      by_cases h34 : byt s k = 34
      · have HE : Hid (qlen s.data.toList = k + 1) := by
          show _ = _
          rw [HQ.out, hst.out, HD.out, scan_end _ _ (list_byt s k 34 h34)]
          show 1 + (k - 1) + 1 = k + 1
          omega
        have q34 : ((s[k].toNat : Int) == 34) = true := by rw [hby, h34]; rfl
        go_wp2
        go_ret
        exact ⟨ret_int (by rw [HE.out]; omega), rfl⟩
      · have q34 : ((s[k].toNat : Int) == 34) = false := by rw [hby]; simpa using h34
        by_cases h92 : byt s k = 92
        · have q92 : ((s[k].toNat : Int) == 92) = true := by rw [hby, h92]; rfl
          have HB : Hid (qscan false (s.data.toList.drop 1) = (qscan true (s.data.toList.drop (k + 1))).map (· + (1 + (k - 1)))) := by
            show _ = _
            rw [hst.out, HD.out, scan_back _ _ (list_byt s k 92 h92), mapk]
          by_cases hl1 : k + 1 < s.size
          · have hby1 : ((s[k + 1].toNat : Nat) : Int) = byt s (k + 1) := byt_at s (k + 1) hl1
            have qn : (((k : Int) + 1) == (s.size : Int)) = false := by simp; omega
            obtain ⟨d0, d1⟩ := byt_bd s (k + 1)
            have HD1 : Hid (s.data.toList.drop (k + 1) = s.data.toList.getD (k + 1) 0 :: s.data.toList.drop (k + 2)) := drop_cons _ (k + 1) (by rw [size_list]; exact hl1)
            cases hf : fieldI (byt s (k + 1)) with
            | true =>
              have HN : Hid (qscan false (s.data.toList.drop 1) = (qscan false (s.data.toList.drop (k + 2))).map (· + (k + 2 - 1))) := by
                show _ = _
                rw [HB.out, HD1.out, scan_esc _ _ hf, mapk, show 1 + (1 + (k - 1)) = k + 2 - 1 by omega]
              go_wp2_with (go_at_call 28; refine (rInside_any _ (by omega) (by omega) _).mono ?_; rintro e w' ⟨rfl, rfl⟩)
              go_round
              case rel => exact ⟨k + 2, by omega, by omega, by go_num, HN⟩
              case measure => simp [intOf]; omega
            | false =>
              have HE : Hid (qlen s.data.toList = 0) := by
                show _ = _
                rw [HQ.out, HB.out, HD1.out, scan_field _ _ _ hf]
                rfl
              go_wp2_with (go_at_call 28; refine (rInside_any _ (by omega) (by omega) _).mono ?_; rintro e w' ⟨rfl, rfl⟩)
              go_ret
              exact ⟨ret_int (by rw [HE.out]; rfl), rfl⟩
          · have HE : Hid (qlen s.data.toList = 0) := by
              show _ = _
              rw [HQ.out, HB.out, List.drop_eq_nil_of_le (by rw [size_list]; omega)]
              rfl
            have qn : (((k : Int) + 1) == (s.size : Int)) = true := by simp; omega
            go_wp2
            go_ret
            exact ⟨ret_int (by rw [HE.out]; rfl), rfl⟩
        · have q92 : ((s[k].toNat : Int) == 92) = false := by rw [hby]; simpa using h92
          cases hf : fieldI (byt s k) with
          | true =>
            have HN : Hid (qscan false (s.data.toList.drop 1) = (qscan false (s.data.toList.drop (k + 1))).map (· + (k + 1 - 1))) := by
              show _ = _
              rw [hst.out, HD.out, scan_on _ _ hf (fun e => h92 (byt_list s k _ e)) (fun e => h34 (byt_list s k _ e)), mapk, show 1 + (k - 1) = k + 1 - 1 by omega]
            go_wp2_with (go_at_call 28; refine (rInside_any _ (by omega) (by omega) _).mono ?_; rintro e w' ⟨rfl, rfl⟩)
            go_round
            case rel => exact ⟨k + 1, by omega, by omega, by go_num, HN⟩
            case measure => simp [intOf]; omega
          | false =>
            have HE : Hid (qlen s.data.toList = 0) := by
              show _ = _
              rw [HQ.out, hst.out, HD.out, scan_field _ _ _ hf]
              rfl
            go_wp2_with (go_at_call 28; refine (rInside_any _ (by omega) (by omega) _).mono ?_; rintro e w' ⟨rfl, rfl⟩)
            go_ret
            exact ⟨ret_int (by rw [HE.out]; rfl), rfl⟩
    · have HE : Hid (qlen s.data.toList = 0) := by
        show _ = _
        rw [HQ.out, hst.out, List.drop_eq_nil_of_le (by rw [size_list]; omega)]
        rfl
      go_wp2
      go_ret
      exact ⟨ret_int (by rw [HE.out]; rfl), rfl⟩
end Fd
end Go.Proofs.YtdcfhnbagldilaaGreatDoor
