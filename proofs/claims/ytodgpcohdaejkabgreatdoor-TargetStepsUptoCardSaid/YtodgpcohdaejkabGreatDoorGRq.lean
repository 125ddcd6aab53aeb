/-
  The document's plain.
-/
import Derived.Test.YtodgpcohdaejkabGreatDoorGRs
import Derived.Test.YtodgpcohdaejkabGreatDoorGNt
set_option linter.unusedVariables false
set_option linter.unusedSimpArgs false
namespace Go.Proofs.YtodgpcohdaejkabGreatDoor
open Go.RowKit Go.Shelf
namespace Tg
open Oc

set_option maxRecDepth 100000 in
set_option maxHeartbeats 4000000 in
theorem plain_any (s : ByteArray) (hs : s.size ≤ 40000000000) (w : World) :
    Calls Tryz.prog 26 #[.string s] w fun e w' => e = .returned (.string (str (ntr s.data.toList))) ∧ Below w.heap.size w w' := by
  have HN : Hid (_) := Ow.none w
  have HT : Hid (∀ k, k ≤ s.size → ∀ w, _) := fun k hk w => triple_any s (by omega) k hk w
  have HS : Hid (∀ k, k + 2 < s.size → trip (s.data.toList.drop k) = true → ∀ w, _) := fun k h1 h2 w => says_any s (by omega) k h1 h2 w
  go_enter Tryz.func26, Tryz.ntmps26
  go_wp2
  go_loopw [3, 4] (fun ov i wr => ∃ k : Nat, k ≤ s.size ∧ i = .int .i64 k ∧ ∃ pre, Hid (pre ++ sg k (s.data.toList.drop k) = sg 0 s.data.toList) ∧ Hid (pre.length ≤ k) ∧ Hid (Ow w.heap.size ov (pre.flatMap nt) wr) ∧ Hid (Below w.heap.size w wr)) (fun _ i _ => s.size - (intOf i).toNat)
  case atStart => exact ⟨0, Nat.zero_le _, rfl, [], (rfl : [] ++ sg 0 (s.data.toList.drop 0) = _), (Nat.le_refl 0 : _ ≤ 0), HN.out, (Below.refl _ w).alloc (Nat.le_refl _) _⟩
  case round =>
    obtain ⟨k, hk, rfl, pre, hpre, hpl, hown, hbl⟩ := hrel
    have hsz := hbl.out.size
    by_cases hlt : k < s.size
    · have hvl : (pre.flatMap nt).length + 3 ≤ 140737488355328 := by have := nts_len pre; have := hpl.out; omega
      have HT' : Hid (∀ w, _) := HT.out k hk
      cases ht : trip (s.data.toList.drop k) with
      | true =>
        obtain ⟨x, hx, hxa, hxz, hk3⟩ := nxt3 s k ht
        have HS' : Hid (∀ w, _) := HS.out k hk3 ht
        rw [ht] at HT'
        have hv : nt x = encB (byteOf (s.data.toList.getD (k + 1) 0) (s.data.toList.getD (k + 2) 0)) := by rw [nt_three hxz]; simp [enc]
        generalize byteOf (s.data.toList.getD (k + 1) 0) (s.data.toList.getD (k + 2) 0) = u at *
        have HV : Hid (_) := hv
        have HX : Hid (_) := hx
        have HU : Hid (∀ w, _) := fun w => rUnr_any u w
        have HP : Hid (∀ (w' : World), w' = wr → Calls Tryz.prog 35 #[u3, .int .u8 (u.toNat : Int), .bool (unr u)] w' fun e w2 => ∃ v', e = .returned v' ∧ Ow w.heap.size v' (pre.flatMap nt ++ encB u) w2 ∧ Below w.heap.size w' w2) := fun w' e => by
          subst e
          exact put_any w.heap.size u3 (pre.flatMap nt) u (unr u) w' hown.out hvl hsz
        generalize unr u = pl at *
        clear hv hx hxz ht hvl
        go_wp2_with fail
        refine (HT'.out _).mono ?_
        rintro e w1 ⟨rfl, rfl⟩
        go_wp2_with fail
        refine (HS'.out _).mono ?_
        rintro e w1 ⟨rfl, rfl⟩
        go_wp2_with fail
        refine (HU.out _).mono ?_
        rintro e w1 ⟨rfl, rfl⟩
        go_wp2_with fail
        refine (HP.out _ rfl).mono ?_
        rintro e w2 ⟨v2, rfl, o1, o2⟩
        go_wp2
        go_roundw
        case rel => exact ⟨k + 3, by omega, by go_num, pre ++ [x], (by rw [List.append_assoc]; exact (congrArg (pre ++ ·) HX.out).symm.trans hpre.out : (pre ++ [x]) ++ sg (k + 3) (s.data.toList.drop (k + 3)) = _), (by have := hpl.out; rw [List.length_append, List.length_singleton]; omega : (pre ++ [x]).length ≤ k + 3), (by rw [List.flatMap_append, List.flatMap_cons, HV.out, List.flatMap_nil, List.append_nil]; exact o1 : Ow _ _ _ _), hbl.out.trans o2⟩
        case measure => simp [intOf]; omega
      | false =>
        obtain ⟨x, hx, hxa, hxz⟩ := nxt1 s k hlt ht
        rw [ht] at HT'
        have h0 : ((s[k].toNat : Nat) : Int) = ((s.data.toList.getD k 0).toNat : Int) := by rw [getD_of s k hlt]
        have hv := nt_one hxz
        generalize s.data.toList.getD k 0 = u at *
        have HV : Hid (_) := hv
        have HX : Hid (_) := hx
        have HVL : Hid ((pre.flatMap nt).length + [u].length ≤ 140737488355328) := (by simp at hvl ⊢; omega : _ ≤ _)
        clear hv hx hxz ht hvl
        go_wp2_with (first | (go_at_call 50; refine (HT'.out _).mono ?_; rintro e w1 ⟨rfl, rfl⟩) | (at_builtin; go_must (refine wp_ap rfl (.tmp 24) (.tmp 28) rfl w.heap.size _ (pre.flatMap nt) [u] _ _ rfl rfl hown.out rfl HVL.out hsz ?_); intro v' w' o1 o2))
        go_roundw
        case rel => exact ⟨k + 1, by omega, by go_num, pre ++ [x], (by rw [List.append_assoc]; exact (congrArg (pre ++ ·) HX.out).symm.trans hpre.out : (pre ++ [x]) ++ sg (k + 1) (s.data.toList.drop (k + 1)) = _), (by have := hpl.out; rw [List.length_append, List.length_singleton]; omega : (pre ++ [x]).length ≤ k + 1), (by rw [List.flatMap_append, List.flatMap_cons, HV.out]; exact o1 : Ow _ _ _ _), hbl.out.trans o2⟩
        case measure => simp [intOf]; omega
    · obtain rfl : k = s.size := by omega
      have hfin : pre = sg 0 s.data.toList := by
        have := hpre.out
        rw [List.drop_of_length_le (by rw [size_list]; exact Nat.le_refl _), sg_nil, List.append_nil] at this
        exact this
      have hback := hown.out.back
      have HR : Hid (ntr s.data.toList = pre.flatMap nt) := by show _ = _; rw [hfin]; rfl
      generalize pre.flatMap nt = out at *
      clear hfin
      go_wp2
      go_ret
      exact ⟨by rw [HR.out]; rfl, hbl.out⟩

end Tg
end Go.Proofs.YtodgpcohdaejkabGreatDoor
