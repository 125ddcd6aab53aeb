/-
  base.Decode.
-/
import Derived.Test.YtcnjnlmjgbmjnabDoorBDec
set_option linter.unusedVariables false
set_option linter.unusedSimpArgs false
namespace Go.Proofs.YtcnjnlmjgbmjnabDoor
open Go.RowKit
namespace Bs

theorem dec_step {r x : List UInt8} (h : dec r = .ok x) : r = [] ∧ x = [] ∨ ∃ a b c d r' x', r = a :: b :: c :: d :: r' ∧ Four a b c d ∧ dec r' = .ok x' ∧ x = g4 a b c d ++ x' := by
  obtain ⟨hf, hm⟩ := dec_ok_fit r x h
  match r, h, hf, hm with
  | [], h, _, _ =>
    unfold dec at h
    cases h
    exact .inl ⟨rfl, rfl⟩
  | [a], h, _, hm => simp at hm
  | [a, b], h, _, hm => simp at hm
  | [a, b, c], h, _, hm => simp at hm
  | a :: b :: c :: d :: r, h, hf, hm =>
    have F := four_of (r := r) (fun k hk => hf k (by simp; omega))
    refine .inr ⟨a, b, c, d, r, ?_⟩
    by_cases hd : d = 61
    · have hr : r = [] := by
        cases r with
        | nil => rfl
        | cons e r =>
          have := hf 4 (by simp)
          rw [fit4_no a b c d _ hd] at this
          cases this
      subst hr
      rw [dec_end [] F hd, if_pos rfl] at h
      cases h
      exact ⟨[], rfl, F, by unfold dec; rfl, by simp⟩
    · rw [dec_on r F hd] at h
      cases hx : dec r with
      | ok x' =>
        rw [hx] at h
        cases h
        exact ⟨x', rfl, F, rfl, rfl⟩
      | error k => rw [hx] at h; cases h
theorem dec_ok_len : ∀ {r x : List UInt8}, dec r = .ok x → x.length ≤ r.length / 4 * 3
  | [], x, h => by unfold dec at h; cases h; simp
  | [a], x, h => by unfold dec at h; cases h
  | [a, b], x, h => by unfold dec at h; cases h
  | [a, b, c], x, h => by unfold dec at h; cases h
  | a :: b :: c :: d :: r, x, h => by
    rcases dec_step h with ⟨h1, _⟩ | ⟨a', b', c', d', r', x', e, F, hx, rfl⟩
    · cases h1
    · cases e
      have := dec_ok_len hx
      have : (g4 a b c d).length ≤ 3 := by unfold g4; split <;> (try split) <;> simp
      simp only [List.length_append, List.length_cons]
      omega

set_option maxRecDepth 100000 in
set_option maxHeartbeats 1000000 in
theorem Decode_any (l : List UInt8) (hl : l.length ≤ 140737488355328) (w : World) :
    Calls Tryd.prog 9 #[.string (str l)] w fun e w' => e = .returned (.tuple #[.string (str (decR l).1), .int .i64 (decR l).2.1, .int .i64 (decR l).2.2]) ∧ Below w.heap.size w w' := by
  have hs : (str l).size = l.length := str_size l
  go_enter Tryd.func9, Tryd.ntmps9
  go_wp2
  go_loop [9] (fun i => ∃ k : Nat, k ≤ l.length ∧ i = .int .i64 k ∧ Hid (∀ j, j < k → fitB l j = true)) (fun i => l.length - (intOf i).toNat)
  case atStart => exact ⟨0, by omega, rfl, fun j hj => by omega⟩
  case round =>
    obtain ⟨k, hk, rfl, HK⟩ := hrel
    by_cases hlt : k < l.length
    · cases hf : fitB l k with
      | true =>
        have HF : Hid (fitB l k = true) := hf
        clear hf
        go_wp2_with fail
        refine (fits_any l k hlt hl w).mono ?_
        rintro e w2 ⟨rfl, hw2⟩
        rw [hw2, HF.out]
        clear hw2 w2
        go_wp2
        go_round
        case rel =>
          refine ⟨k + 1, by omega, by go_num, fun j hj => ?_⟩
          by_cases e : j = k
          · subst e; exact HF.out
          · exact HK.out j (by omega)
        case measure => simp [intOf]; omega
      | false =>
        have HF : Hid (fitB l k = false) := hf
        clear hf
        have HR : Hid (decR l = ([], (k : Int), 30)) := decR_err (fit_bad l k hlt HK.out HF.out)
        go_wp2_with fail
        refine (fits_any l k hlt hl w).mono ?_
        rintro e w2 ⟨rfl, hw2⟩
        rw [hw2, HF.out]
        clear hw2 w2
        go_wp2
        go_ret3
        rw [HR.out]
        exact ⟨rfl, Below.refl _ _⟩
    · obtain rfl : k = l.length := by omega
      have HA : Hid (dec l = if l.length % 4 = 0 then .ok (grps l) else .error l.length) := fit_all l HK.out
      have hmi : ((l.length : Nat) : Int) % 4 = ((l.length % 4 : Nat) : Int) := by omega
      by_cases hm : l.length % 4 = 0
      · have HX : Hid (dec l = .ok (grps l)) := (by rw [HA.out, if_pos hm] : dec l = .ok (grps l))
        have HR : Hid (decR l = (grps l, 0, 0)) := decR_ok HX.out
        rw [hm] at hmi
        generalize grps l = X at *
        have hmk := run_mk0 w (((l.length : Nat) : Int) / 4 * 3) (by omega) (by omega)
        have HOw : Hid (Own w.heap.size (.slice (some ⟨w.heap.size, 0, none⟩) 0 (l.length / 4 * 3)) [] (w.alloc (.cells (madeCells #[.int .u8 0] (l.length / 4 * 3)) 5))) := own_made w _ (by omega) _ (size_madeCells _ _)
        have HXl : Hid (X.length ≤ l.length / 4 * 3) := dec_ok_len HX.out
        go_wp2
        go_loopw [0, 6] (fun s v wr => ∃ r t x : List UInt8, s = .string (str r) ∧ Hid (dec r = .ok x) ∧ Hid (t ++ x = X) ∧ r.length ≤ l.length ∧ Hid (Own w.heap.size v t wr) ∧ Hid (Below w.heap.size w wr)) (fun s _ _ => match s with | .string s => s.size | _ => 0)
        case atStart => exact ⟨l, [], X, rfl, HX.out, rfl, Nat.le_refl _, HOw.out, (Below.refl _ w).alloc (Nat.le_refl _) _⟩
        case round =>
          obtain ⟨r, t, x, rfl, HD, HE, hr, HO, HB⟩ := hrel
          have hsr : (str r).size = r.length := str_size r
          have hsz := HB.out.size
          rcases dec_step HD.out with ⟨rfl, rfl⟩ | ⟨a, b, c, d, r', x', rfl, F4, hd', rfl⟩
          · have HE' : Hid (t = X) := (by simpa using HE.out : t = X)
            have hemp : (str []).toList.isEmpty = true := by rw [ByteArray.toList_eq]; rfl
            have hbk := back wr _ t HO.out.rd
            rw [HE'.out] at hbk
            go_wp2
            go_ret3
            rw [HR.out]
            exact ⟨rfl, HB.out⟩
          · have HF4 : Hid (Four a b c d) := F4
            have HD' : Hid (dec r' = .ok x') := hd'
            clear F4 hd'
            have hne : (str (a :: b :: c :: d :: r')).toList.isEmpty = false := by rw [ByteArray.toList_eq, str_list]; rfl
            have HX1 : Hid ((str (a :: b :: c :: d :: r')).extract 0 4 = str [a, b, c, d]) := (by rw [str_extract]; rfl : (str (a :: b :: c :: d :: r')).extract 0 4 = str [a, b, c, d])
            have HY1 : Hid ((str (a :: b :: c :: d :: r')).extract 4 (r'.length + 4) = str r') := (by rw [str_extract, show r'.length + 4 = (a :: b :: c :: d :: r').length by simp, List.take_length]; rfl : (str (a :: b :: c :: d :: r')).extract 4 (r'.length + 4) = str r')
            have hsr' : (str (a :: b :: c :: d :: r')).size = r'.length + 4 := by rw [hsr]; simp
            clear hsr
            have hr' : r'.length + 4 ≤ l.length := by simpa using hr
            have HTl : Hid (t.length + 3 ≤ 140737488355328) := (by
              have h1 := congrArg List.length HE.out
              have h2 := HXl.out
              simp only [List.length_append] at h1
              have : 0 < (g4 a b c d).length := by unfold g4; split <;> (try split) <;> simp
              omega : t.length + 3 ≤ 140737488355328)
            have HE2 : Hid ((t ++ g4 a b c d) ++ x' = X) := (by rw [List.append_assoc]; exact HE.out : (t ++ g4 a b c d) ++ x' = X)
            have hms : (str r').size < (str (a :: b :: c :: d :: r')).size := by rw [hsr', str_size]; omega
            generalize hG : str (a :: b :: c :: d :: r') = G at *
            go_wp2_with fail
            rw [HX1.out]
            refine (appendBytes_any w.heap.size _ t a b c d HF4.out wr HO.out HTl.out hsz).mono ?_
            rintro e w2 ⟨v2, rfl, ho, hb⟩
            have HO2 : Hid (Own w.heap.size v2 (t ++ g4 a b c d) w2) := ho
            have HB2 : Hid (Below w.heap.size w w2) := HB.out.trans hb
            clear ho hb
            go_wp2
            rw [HY1.out]
            go_roundw
            case rel => exact ⟨r', t ++ g4 a b c d, x', rfl, HD'.out, HE2.out, by omega, HO2.out, HB2.out⟩
            case measure => exact hms
      · have HR : Hid (decR l = ([], (l.length : Int), 30)) := decR_err (by rw [HA.out, if_neg hm])
        have hmn : ((((l.length % 4 : Nat) : Int)) != 0) = true := by simp; omega
        generalize l.length % 4 = m at *
        go_wp2
        go_ret3
        rw [HR.out]
        exact ⟨rfl, Below.refl _ _⟩

end Bs
end Go.Proofs.YtcnjnlmjgbmjnabDoor
