/-
  TargetCodes, TargetDecodes: the walks.
-/
import Derived.Test.YtodgpcohdaejkaaDoorGAw
import Derived.Test.YtodgpcohdaejkaaDoorGRd2
import Derived.Test.YtodgpcohdaejkaaDoorGRe
set_option linter.unusedVariables false
set_option linter.unusedSimpArgs false
namespace Go.Proofs.YtodgpcohdaejkaaDoor
open Go.RowKit Go.Shelf
namespace Tg
open Oc

set_option maxRecDepth 100000 in
set_option maxHeartbeats 4000000 in
theorem walk_TargetCodes (s : ByteArray) (hs : s.size ≤ 1048576) (w : World) (hm : ML w) :
    Calls Tryd.prog 3 #[.string s] w fun e w' => e = .returned (.bool true) ∧ Below w.heap.size w w' := by
  have HA : Hid (∀ w, ML w → _) := fun w h => awake_any w h
  have HD : Hid (∀ w, _) := fun w => Decode_any s (by omega) w
  have HR : Hid (∀ w, _) := fun w => rDecode_any s (by omega) w
  have HE : Hid (∀ w, _) := fun w => Encode_any s (by omega) w
  have HF : Hid (∀ w, _) := fun w => rEncode_any s (by omega) w
  generalize decR s.data.toList = R at *
  obtain ⟨r1, r2, r3⟩ := R
  dsimp only at HD HR
  generalize str r1 = R1 at *
  generalize str (enc s.data.toList) = R4 at *
  have HM : Hid (ML w) := hm
  clear hm
  go_enter Tryd.func3, Tryd.ntmps3
  go_wp2_with fail
  refine (HD.out _).mono ?_
  rintro e w1 ⟨rfl, h1⟩
  have H1 : Hid (Below w.heap.size w w1) := h1
  clear h1
  go_wp2_with fail
  refine (HR.out _).mono ?_
  rintro e w2 ⟨rfl, h2⟩
  have H2 : Hid (Below w.heap.size w w2) := H1.out.trans (h2.mono H1.out.size)
  clear h2
  go_wp2_with fail
  refine (HA.out _ (HM.out.below H2.out)).mono ?_
  rintro e w3 ⟨rfl, h3⟩
  have H3 : Hid (Below w.heap.size w w3) := H2.out.trans (h3.mono H2.out.size)
  clear h3
  go_wp2_with fail
  refine (HE.out _).mono ?_
  rintro e w4 ⟨rfl, h4⟩
  have H4 : Hid (Below w.heap.size w w4) := H3.out.trans (h4.mono H3.out.size)
  clear h4
  go_wp2_with fail
  refine (HF.out _).mono ?_
  rintro e w5 ⟨rfl, h5⟩
  have H5 : Hid (Below w.heap.size w w5) := H4.out.trans (h5.mono H4.out.size)
  clear h5
  go_wp2
  go_ret
  exact ⟨rfl, H5.out⟩

set_option maxRecDepth 100000 in
set_option maxHeartbeats 4000000 in
theorem walk_TargetDecodes (s : ByteArray) (hs : s.size ≤ 1048576) (w : World) (hm : ML w) :
    Calls Tryd.prog 4 #[.string s] w fun e w' => e = .returned (.bool true) ∧ Below w.heap.size w w' := by
  have HA : Hid (∀ w, ML w → _) := fun w h => awake_any w h
  have HE : Hid (∀ w, _) := fun w => Encode_any s (by omega) w
  have hel : (enc s.data.toList).length ≤ 3 * s.size := by have := enc_len s.data.toList; rw [size_list] at this; exact this
  have HD : Hid (∀ w, Calls Tryd.prog 5 #[.string (str (enc s.data.toList))] w fun e w' => e = .returned (.tuple #[.string s, .int .i64 0, .int .i64 0]) ∧ Below w.heap.size w w') := fun w => by
    have h := Decode_any (str (enc s.data.toList)) (by rw [str_size]; omega) w
    rw [str_list, dec_enc, str_self] at h
    exact h
  have hmem : ∀ k, k < (str (enc s.data.toList)).size → ((str (enc s.data.toList)).data.toList.getD k 0) = 37 ∨ unr ((str (enc s.data.toList)).data.toList.getD k 0) = true := by
    intro k hk
    refine enc_mem s.data.toList _ ?_
    rw [str_list, List.getD_eq_getElem?_getD, List.getElem?_eq_getElem (by rw [str_size] at hk; exact hk)]
    exact List.getElem_mem _
  have hzs : (str (enc s.data.toList)).size ≤ 3145728 := by rw [str_size]; omega
  generalize str (enc s.data.toList) = t at *
  have HM : Hid (ML w) := hm
  have HMem : Hid (_) := hmem
  clear hm hmem hel
  go_enter Tryd.func4, Tryd.ntmps4
  go_wp2_with fail
  refine (HE.out _).mono ?_
  rintro e w1 ⟨rfl, h1⟩
  have H1 : Hid (Below w.heap.size w w1) := h1
  clear h1
  go_wp2_with fail
  refine (HD.out _).mono ?_
  rintro e w2 ⟨rfl, h2⟩
  have H2 : Hid (Below w.heap.size w w2) := H1.out.trans (h2.mono H1.out.size)
  clear h2
  go_wp2
  go_loop [7] (fun i => ∃ k : Nat, k ≤ t.size ∧ i = .int .i64 k) (fun i => t.size - (intOf i).toNat)
  case atStart => exact ⟨0, Nat.zero_le _, rfl⟩
  case round =>
    obtain ⟨k, hk, rfl⟩ := hrel
    by_cases hlt : k < t.size
    · have hc := HMem.out k hlt
      have h0 : ((t[k].toNat : Nat) : Int) = ((t.data.toList.getD k 0).toNat : Int) := by rw [getD_of t k hlt]
      generalize t.data.toList.getD k 0 = c at *
      have HU : Hid (∀ w, _) := fun w => rUnr_any c w
      by_cases hp : c = 37
      · have hp2 : ((c.toNat : Int) != 37) = false := by rw [hp]; rfl
        clear hp hc
        go_wp2
        go_round
        case rel => exact ⟨k + 1, by omega, by go_num⟩
        case measure => simp [intOf]; omega
      · have hp2 : ((c.toNat : Int) != 37) = true := by
          simp
          intro e
          exact hp (UInt8.toNat_inj.1 (by show _ = 37; omega))
        have hu : unr c = true := by rcases hc with h | h; exact absurd h hp; exact h
        rw [hu] at HU
        clear hp hc hu
        go_wp2_with (go_at_call 10; refine (HU.out _).mono ?_; rintro e w3 ⟨rfl, rfl⟩)
        go_round
        case rel => exact ⟨k + 1, by omega, by go_num⟩
        case measure => simp [intOf]; omega
    · go_wp2_with fail
      refine (HA.out _ (HM.out.below H2.out)).mono ?_
      rintro e w3 ⟨rfl, h3⟩
      have H3 : Hid (Below w.heap.size w w3) := H2.out.trans (h3.mono H2.out.size)
      clear h3
      go_wp2
      go_ret
      exact ⟨rfl, H3.out⟩

end Tg
end Go.Proofs.YtodgpcohdaejkaaDoor
