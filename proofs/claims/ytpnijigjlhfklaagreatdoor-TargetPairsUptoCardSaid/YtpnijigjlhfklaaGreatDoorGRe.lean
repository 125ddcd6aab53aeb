/-
  The document's Encode.
-/
import Derived.Test.YtpnijigjlhfklaaGreatDoorGRd
set_option linter.unusedVariables false
set_option linter.unusedSimpArgs false
namespace Go.Proofs.YtpnijigjlhfklaaGreatDoor
open Go.RowKit Go.Shelf
namespace Tg
open Oc

set_option maxRecDepth 100000 in
set_option maxHeartbeats 400000 in
theorem rEncode_any (s : ByteArray) (hs : s.size ≤ 4000000000) (w : World) :
    Calls Tryz.prog 32 #[.string s] w fun e w' => e = .returned (.string (str (enc s.data.toList))) ∧ Below w.heap.size w w' := by
  have HN : Hid (_) := Ow.none w
  go_enter Tryz.func32, Tryz.ntmps32
  go_wp2
  go_loopw [3, 4] (fun ov i wr => ∃ k : Nat, k ≤ s.size ∧ i = .int .i64 k ∧ Hid (Ow w.heap.size ov (enc (s.data.toList.take k)) wr) ∧ Hid (Below w.heap.size w wr)) (fun _ i _ => s.size - (intOf i).toNat)
  case atStart => exact ⟨0, Nat.zero_le _, rfl, HN.out, (Below.refl _ w).alloc (Nat.le_refl _) _⟩
  case round =>
    obtain ⟨k, hk, rfl, hown, hbl⟩ := hrel
    have hsz := hbl.out.size
    by_cases hlt : k < s.size
    · have h0 : ((s[k].toNat : Nat) : Int) = ((s.data.toList.getD k 0).toNat : Int) := by rw [getD_of s k hlt]
      have HT : Hid (_) := take_enc s k hlt
      have HL : Hid ((enc (s.data.toList.take k)).length + 3 ≤ 140737488355328) := by
        have h1 := enc_len (s.data.toList.take k)
        have h2 : (s.data.toList.take k).length ≤ s.size := by rw [List.length_take, size_list]; omega
        show _ ≤ _
        omega
      generalize s.data.toList.getD k 0 = c at *
      generalize enc (s.data.toList.take k) = t at *
      have HU : Hid (∀ w, _) := fun w => rUnr_any c w
      have HP : Hid (Calls Tryz.prog 56 #[u3, .int .u8 (c.toNat : Int), .bool (unr c)] wr.drew fun e w' => ∃ v', e = .returned v' ∧ Ow w.heap.size v' (t ++ encB c) w' ∧ Below w.heap.size wr.drew w') := put_any w.heap.size u3 t c (unr c) wr.drew hown.out HL.out hsz
      generalize unr c = pl at *
      generalize encB c = ec at *
      go_wp2
      go_region_with (first | (go_at_call 57; refine (HU.out _).mono ?_; rintro e w2 ⟨rfl, rfl⟩) | (go_at_call 56; refine HP.out.mono ?_; rintro e w2 ⟨v2, rfl, o1, o2⟩))
      all_goals go_wp2
      all_goals exact ⟨⟨k + 1, by omega, by go_num, (by rw [HT.out]; exact o1 : Ow w.heap.size _ (enc (s.data.toList.take (k + 1))) _), hbl.out.drew.trans o2⟩, by simp [intOf]; omega⟩
    · obtain rfl : k = s.size := by omega
      have hall : s.data.toList.take s.size = s.data.toList := List.take_of_length_le (by rw [size_list]; exact Nat.le_refl _)
      have hback := hown.out.back
      rw [hall] at hback
      have HE : Hid (_ = _) := hall
      obtain ⟨R, hR⟩ : ∃ R, R = enc s.data.toList := ⟨_, rfl⟩
      rw [← hR] at hback
      have HE : Hid (_ = _) := hR
      clear hall hR
      go_wp2
      go_ret
      exact ⟨by rw [← HE.out]; rfl, hbl.out⟩

end Tg
end Go.Proofs.YtpnijigjlhfklaaGreatDoor
