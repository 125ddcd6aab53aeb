/-
  The walk of BaseOnce.
-/
import Derived.Test.YtcnjnlmjgbmjnaaDoorBDec2
import Derived.Test.YtcnjnlmjgbmjnaaDoorBUnhex
import Derived.Test.YtcnjnlmjgbmjnaaDoorBAwake
set_option linter.unusedVariables false
set_option linter.unusedSimpArgs false
namespace Go.Proofs.YtcnjnlmjgbmjnaaDoor
open Go.RowKit
namespace Bs

theorem decR_cases (l : List UInt8) : (∃ x, decR l = (x, 0, 0) ∧ enc x = l) ∨ ∃ k : Nat, decR l = ([], (k : Int), 30) := by
  cases h : dec l with
  | ok x => exact .inl ⟨x, decR_ok h, enc_dec l x h⟩
  | error k => exact .inr ⟨k, decR_err h⟩
theorem unhexR_cases (l : List UInt8) : (∃ x, unhexR l = (x, 0, 0) ∧ hexL x = l) ∨ ∃ k : Nat, unhexR l = ([], (k : Int), 31) := by
  by_cases h : hbad l < l.length
  · exact .inr ⟨hbad l, by unfold unhexR; rw [if_pos h]⟩
  · by_cases h2 : l.length % 2 = 0
    · have e : unhexR l = (prs l, 0, 0) := by unfold unhexR; rw [if_neg h, if_pos h2]
      exact .inl ⟨_, e, unhexR_once l _ _ e⟩
    · exact .inr ⟨l.length, by unfold unhexR; rw [if_neg h, if_neg h2]⟩

set_option maxRecDepth 100000 in
set_option maxHeartbeats 1000000 in
theorem walk_BaseOnce (l m : List UInt8) (w : World) (hl : l.length ≤ 140737488351232) (hm : m.length ≤ 140737488351232) :
    Calls Tryd.prog 5 #[.string (str l), .string (str m)] w fun e w' => e = .returned (.bool true) ∧ Below w.heap.size w w' := by
  go_enter Tryd.func5, Tryd.ntmps5
  go_wp2_with fail
  refine (Decode_any l (by omega) w).mono ?_
  rintro e w2 ⟨rfl, hb2⟩
  have HB2 : Hid (Below w.heap.size w w2) := hb2
  clear hb2
  rcases decR_cases l with ⟨x, h1, h2⟩ | ⟨k, h1⟩
  · rw [h1]
    have HX : Hid (enc x = l) := h2
    have hxl : (x.length + 2) / 3 * 4 ≤ 140737488355328 := by rw [← enc_len, h2]; omega
    clear h1 h2
    go_wp2_with fail
    refine (Unhex_any m (by omega) w2).mono ?_
    rintro e w3 ⟨rfl, hb3⟩
    have HB3 : Hid (Below w.heap.size w w3) := bel_trans' HB2.out hb3
    clear hb3
    rcases unhexR_cases m with ⟨y, h1, h2⟩ | ⟨j, h1⟩
    · rw [h1]
      have HY : Hid (hexL y = m) := h2
      have hyl : 2 * y.length ≤ 140737488355328 := by rw [← hexL_length, h2]; omega
      clear h1 h2
      go_wp2_with fail
      refine (Encode_any x hxl w3).mono ?_
      rintro e w4 ⟨rfl, hb4⟩
      have HB4 : Hid (Below w.heap.size w w4) := bel_trans' HB3.out hb4
      clear hb4
      rw [HX.out]
      go_wp2_with fail
      refine (Hex_any y hyl w4).mono ?_
      rintro e w5 ⟨rfl, hb5⟩
      have HB5 : Hid (Below w.heap.size w w5) := bel_trans' HB4.out hb5
      clear hb5
      rw [HY.out]
      go_wp2_with fail
      refine (awake_any w5).mono ?_
      rintro e w6 ⟨rfl, hb6⟩
      go_wp2
      go_ret
      exact ⟨rfl, bel_trans' HB5.out hb6⟩
    · rw [h1]
      clear h1
      go_wp2_with fail
      refine (Encode_any x hxl w3).mono ?_
      rintro e w4 ⟨rfl, hb4⟩
      have HB4 : Hid (Below w.heap.size w w4) := bel_trans' HB3.out hb4
      clear hb4
      rw [HX.out]
      go_wp2_with fail
      refine (awake_any w4).mono ?_
      rintro e w6 ⟨rfl, hb6⟩
      go_wp2
      go_ret
      exact ⟨rfl, bel_trans' HB4.out hb6⟩
  · rw [h1]
    clear h1
    go_wp2_with fail
    refine (Unhex_any m (by omega) w2).mono ?_
    rintro e w3 ⟨rfl, hb3⟩
    have HB3 : Hid (Below w.heap.size w w3) := bel_trans' HB2.out hb3
    clear hb3
    rcases unhexR_cases m with ⟨y, h1, h2⟩ | ⟨j, h1⟩
    · rw [h1]
      have HY : Hid (hexL y = m) := h2
      have hyl : 2 * y.length ≤ 140737488355328 := by rw [← hexL_length, h2]; omega
      clear h1 h2
      go_wp2_with fail
      refine (Hex_any y hyl w3).mono ?_
      rintro e w5 ⟨rfl, hb5⟩
      have HB5 : Hid (Below w.heap.size w w5) := bel_trans' HB3.out hb5
      clear hb5
      rw [HY.out]
      go_wp2_with fail
      refine (awake_any w5).mono ?_
      rintro e w6 ⟨rfl, hb6⟩
      go_wp2
      go_ret
      exact ⟨rfl, bel_trans' HB5.out hb6⟩
    · rw [h1]
      clear h1
      go_wp2_with fail
      refine (awake_any w3).mono ?_
      rintro e w6 ⟨rfl, hb6⟩
      go_wp2
      go_ret
      exact ⟨rfl, bel_trans' HB3.out hb6⟩

end Bs
end Go.Proofs.YtcnjnlmjgbmjnaaDoor
