/-
  The document's Hex, Digit, Unhex.
-/
import Derived.Test.YtcnjnlmjgbmjnaaBUnhex
set_option linter.unusedVariables false
set_option linter.unusedSimpArgs false
namespace Go.Proofs.Ytcnjnlmjgbmjnaa
open Go.RowKit
namespace Bs

attribute [local go_sem ↓] Go.wp_at_zero Go.wp_at_succ

theorem own_empty (w : World) : Own w.heap.size (.slice (some ⟨w.heap.size, 0, none⟩) 0 0) [] (w.alloc (.cells #[] 5)) := own_made w 0 (by omega) #[] rfl

set_option maxRecDepth 100000 in
set_option maxHeartbeats 1000000 in
theorem rHex_any (l : List UInt8) (hl : 2 * l.length ≤ 140737488355328) (w : World) :
    Calls Try.prog 9 #[.string (str l)] w fun e w' => e = .returned (.string (str (hexL l))) ∧ Below w.heap.size w w' := by
  have hs : (str l).size = l.length := str_size l
  have HOw : Hid (Own w.heap.size (.slice (some ⟨w.heap.size, 0, none⟩) 0 0) [] (w.alloc (.cells #[] 5))) := own_empty w
  have hby : ∀ (k : Nat) (h : k < (str l).size), ((str l)[k]'h) = l.getD k 0 := fun k h => by rw [← at_lt _ k h, str_list]
  go_enter Try.func9, Try.ntmps9
  go_wp2
  go_loopw [3, 4] (fun v i wr => ∃ k : Nat, k ≤ l.length ∧ i = .int .i64 k ∧ Hid (Own w.heap.size v (hexL (l.take k)) wr) ∧ Hid (Below w.heap.size w wr)) (fun _ i _ => l.length - (intOf i).toNat)
  case atStart => exact ⟨0, by omega, rfl, HOw.out, (Below.refl _ w).alloc (Nat.le_refl _) _⟩
  case round =>
    obtain ⟨k, hk, rfl, HO, HB⟩ := hrel
    have hsz := HB.out.size
    by_cases hlt : k < l.length
    · have HN : Hid (hexL (l.take (k + 1)) = hexL (l.take k) ++ [hx ((l.getD k 0).toNat / 16), hx ((l.getD k 0).toNat % 16)]) := hex_take l k hlt
      have HT : Hid ((hexL (l.take k)).length + 2 ≤ 140737488355328) := (by rw [hexL_length, List.length_take]; omega : (hexL (l.take k)).length + 2 ≤ 140737488355328)
      have hbk := hby k
      clear hby
      have hu := (l.getD k 0).toNat_lt
      generalize l.getD k 0 = u at *
      generalize hexL (l.take k) = t at *
      have ha : ((u.toNat : Nat) : Int) % 16 = ((u.toNat % 16 : Nat) : Int) := by omega
      have hd : ((u.toNat : Nat) : Int) / 16 = ((u.toNat / 16 : Nat) : Int) := by omega
      have h1 := hx_at (u.toNat / 16)
      have h2 := hx_at (u.toNat % 16)
      have l1 : u.toNat / 16 < 16 := by omega
      have l2 : u.toNat % 16 < 16 := by omega
      generalize u.toNat / 16 = p at *
      generalize u.toNat % 16 = q at *
      have l1' : (p : Int) < 16 := by omega
      have l2' : (q : Int) < 16 := by omega
      have ht : (((u.toNat : Nat) : Int)).tmod 16 = (q : Int) := by rw [Int.tmod_eq_emod_of_nonneg (by omega)]; exact ha
      have wp : IntKind.u8.wrap (p : Int) = (p : Int) := by rw [IntKind.wrap_u8]; omega
      have wq : IntKind.u8.wrap (q : Int) = (q : Int) := by rw [IntKind.wrap_u8]; omega
      have HOd : Hid (Own w.heap.size u3 t wr.drew) := HO.out
      have hcs : (#[Value.int .u8 ((hx p).toNat : Int), Value.int .u8 ((hx q).toNat : Int)] : Array Value).toList = bv [hx p, hx q] := rfl
      go_wp2
      go_region_law (refine step_app rfl (.tmp 12) (.tmp 23) rfl w.heap.size u3 t [hx p, hx q] 2 rfl wr.drew _ hcs (by simp [Act.eval, Act.put]) HOd.out (by simp [Act.eval, Act.put]) HT.out hsz ?_; intro v2 w2 HO2 HB2)
      all_goals go_wp2
      all_goals exact ⟨⟨k + 1, by omega, by go_num, (by rw [HN.out]; exact HO2.out : Own w.heap.size _ (hexL (l.take (k + 1))) _), HB.out.drew.trans HB2.out⟩, by simp [intOf]; omega⟩
    · obtain rfl : k = l.length := by omega
      have hbk := back wr _ _ HO.out.rd
      rw [List.take_length] at hbk
      go_wp2
      go_ret
      exact ⟨rfl, HB.out⟩

set_option maxRecDepth 100000 in
set_option maxHeartbeats 400000 in
theorem Digit_any (c : UInt8) (w : World) : Calls Try.prog 15 #[.int .u8 (c.toNat : Int)] w fun e w' => e = .returned (.int .i64 (hv c)) ∧ w' = w := by
  have hc := c.toNat_lt
  have HV : Hid (hv c = if 48 ≤ c.toNat ∧ c.toNat ≤ 57 then (c.toNat : Int) - 48 else if 97 ≤ c.toNat ∧ c.toNat ≤ 102 then (c.toNat : Int) - 87 else -1) := rfl
  generalize c.toNat = n at *
  rcases (show n < 48 ∨ (48 ≤ n ∧ n ≤ 57) ∨ (57 < n ∧ n < 97) ∨ (97 ≤ n ∧ n ≤ 102) ∨ 102 < n by omega) with h | ⟨h, h'⟩ | ⟨h, h'⟩ | ⟨h, h'⟩ | h
  · have HW : Hid (hv c = -1) := (by rw [HV.out, if_neg (by omega), if_neg (by omega)] : hv c = -1)
    have g1 : decide ((48 : Int) ≤ (n : Int)) = false := by rw [decide_eq_false_iff_not]; omega
    have g2 : decide ((97 : Int) ≤ (n : Int)) = false := by rw [decide_eq_false_iff_not]; omega
    go_enter Try.func15, Try.ntmps15
    go_wp2
    go_ret
    exact ⟨ret_int HW.out.symm, rfl⟩
  · have HW : Hid (hv c = (n : Int) - 48) := (by rw [HV.out, if_pos ⟨h, h'⟩] : hv c = (n : Int) - 48)
    go_enter Try.func15, Try.ntmps15
    go_wp2
    go_ret
    exact ⟨ret_int HW.out.symm, rfl⟩
  · have HW : Hid (hv c = -1) := (by rw [HV.out, if_neg (by omega), if_neg (by omega)] : hv c = -1)
    have g1 : decide ((n : Int) ≤ 57) = false := by rw [decide_eq_false_iff_not]; omega
    have g2 : decide ((97 : Int) ≤ (n : Int)) = false := by rw [decide_eq_false_iff_not]; omega
    go_enter Try.func15, Try.ntmps15
    go_wp2
    go_ret
    exact ⟨ret_int HW.out.symm, rfl⟩
  · have HW : Hid (hv c = (n : Int) - 97 + 10) := (by rw [HV.out, if_neg (by omega), if_pos ⟨h, h'⟩]; omega : hv c = (n : Int) - 97 + 10)
    have g1 : decide ((n : Int) ≤ 57) = false := by rw [decide_eq_false_iff_not]; omega
    go_enter Try.func15, Try.ntmps15
    go_wp2
    go_ret
    exact ⟨ret_int HW.out.symm, rfl⟩
  · have HW : Hid (hv c = -1) := (by rw [HV.out, if_neg (by omega), if_neg (by omega)] : hv c = -1)
    have g1 : decide ((n : Int) ≤ 57) = false := by rw [decide_eq_false_iff_not]; omega
    have g2 : decide ((n : Int) ≤ 102) = false := by rw [decide_eq_false_iff_not]; omega
    go_enter Try.func15, Try.ntmps15
    go_wp2
    go_ret
    exact ⟨ret_int HW.out.symm, rfl⟩

theorem prs_take (l : List UInt8) (k : Nat) (h : 2 * k + 1 < l.length) : (prs l).take (k + 1) = (prs l).take k ++ [UInt8.ofNat (hd l (2 * k) * 16 + hd l (2 * k + 1))] := by
  rw [take_snoc _ k (by rw [prs_length]; omega), prs_get l k h]

set_option maxRecDepth 100000 in
set_option maxHeartbeats 1000000 in
theorem rUnhex_any (l : List UInt8) (hl : l.length ≤ 140737488355328) (w : World) :
    Calls Try.prog 11 #[.string (str l)] w fun e w' => e = .returned (.tuple #[.string (str (unhexR l).1), .int .i64 (unhexR l).2.1, .int .i64 (unhexR l).2.2]) ∧ Below w.heap.size w w' := by
  have hs : (str l).size = l.length := str_size l
  have hby : ∀ (k : Nat) (h : k < (str l).size), ((str l)[k]'h) = l.getD k 0 := fun k h => by rw [← at_lt _ k h, str_list]
  go_enter Try.func11, Try.ntmps11
  go_wp2
  go_loop [5] (fun i => ∃ k : Nat, k ≤ l.length ∧ i = .int .i64 k ∧ Hid (∀ j, j < k → 0 ≤ hv (l.getD j 0))) (fun i => l.length - (intOf i).toNat)
  case atStart => exact ⟨0, by omega, rfl, fun j hj => by omega⟩
  case round =>
    obtain ⟨k, hk, rfl, HK⟩ := hrel
    by_cases hlt : k < l.length
    · have hbk := hby k
      clear hby
      by_cases hneg : hv (l.getD k 0) < 0
      · have HU : Hid (unhexR l = ([], (k : Int), 31)) := unhexR_bad l k hlt HK.out hneg
        generalize l.getD k 0 = u at *
        go_wp2_with fail
        refine (Digit_any u _).mono ?_
        rintro e w2 ⟨rfl, hw2⟩
        rw [hw2]
        clear hw2 w2
        go_wp2
        go_ret3
        rw [HU.out]
        exact ⟨rfl, Below.refl _ _⟩
      · have HK2 : Hid (∀ j, j < k + 1 → 0 ≤ hv (l.getD j 0)) := fun j hj => by
          by_cases e : j = k
          · subst e; omega
          · exact HK.out j (by omega)
        generalize l.getD k 0 = u at *
        go_wp2_with fail
        refine (Digit_any u _).mono ?_
        rintro e w2 ⟨rfl, hw2⟩
        rw [hw2]
        clear hw2 w2
        generalize hv u = V at *
        go_wp2
        go_round
        case rel => exact ⟨k + 1, by omega, by go_num, HK2.out⟩
        case measure => simp [intOf]; omega
    · obtain rfl : k = l.length := by omega
      have hmi : ((l.length : Nat) : Int) % 2 = ((l.length % 2 : Nat) : Int) := by omega
      rcases Nat.mod_two_eq_zero_or_one l.length with hm | hm
      · have HU : Hid (unhexR l = (prs l, 0, 0)) := unhexR_ok l HK.out hm
        have HOw : Hid (Own w.heap.size (.slice (some ⟨w.heap.size, 0, none⟩) 0 0) [] (w.alloc (.cells #[] 5))) := own_empty w
        rw [hm] at hmi
        have HM : Hid (l.length % 2 = 0) := hm
        clear hm
        go_wp2
        go_loopw [6, 7] (fun v i wr => ∃ k J : Nat, Hid (J = 2 * k) ∧ J ≤ l.length ∧ i = .int .i64 (J : Int) ∧ Hid (Own w.heap.size v ((prs l).take k) wr) ∧ Hid (Below w.heap.size w wr)) (fun _ i _ => l.length - (intOf i).toNat)
        case atStart => exact ⟨0, 0, rfl, by omega, rfl, HOw.out, (Below.refl _ w).alloc (Nat.le_refl _) _⟩
        case round =>
          obtain ⟨k, J, HJ, hk2, rfl, HO, HB⟩ := hrel
          have hsz := HB.out.size
          have hm := HM.out
          have hJ := HJ.out
          by_cases hlt2 : J < l.length
          · have hlt3 : J + 1 < l.length := by omega
            have HN : Hid ((prs l).take (k + 1) = (prs l).take k ++ [UInt8.ofNat (hd l J * 16 + hd l (J + 1))]) := by
              have := prs_take l k (by omega)
              rwa [← hJ] at this
            have HT : Hid (((prs l).take k).length + 1 ≤ 140737488355328) := (by rw [List.length_take, prs_length]; omega : ((prs l).take k).length + 1 ≤ 140737488355328)
            have b0 := hby J
            have b1 := hby (J + 1)
            have e0 : hv (l.getD J 0) = (hd l J : Int) := by have := HK.out J (by omega); unfold hd; omega
            have e1 : hv (l.getD (J + 1) 0) = (hd l (J + 1) : Int) := by have := HK.out (J + 1) (by omega); unfold hd; omega
            have l0 := hd_lt l J
            have l1 := hd_lt l (J + 1)
            have hq : 16 * (hd l J : Int) + (hd l (J + 1) : Int) = ((UInt8.ofNat (hd l J * 16 + hd l (J + 1))).toNat : Int) := by rw [ofNat_lt (by omega)]; omega
            have HJ2 : Hid (J + 2 = 2 * (k + 1) ∧ J + 2 ≤ l.length) := (by omega : J + 2 = 2 * (k + 1) ∧ J + 2 ≤ l.length)
            clear hby HK hm hJ
            generalize UInt8.ofNat (hd l J * 16 + hd l (J + 1)) = Y at *
            generalize hd l J = A at *
            generalize hd l (J + 1) = B at *
            generalize l.getD J 0 = ca at *
            generalize l.getD (J + 1) 0 = cb at *
            generalize (prs l).take k = t at *
            have j1 : (0 : Int) ≤ (J : Int) := by omega
            have j2 : (J : Int) < ((l.length : Nat) : Int) := by omega
            have j3 : (0 : Int) ≤ (J : Int) + 1 := by omega
            have j4 : (J : Int) + 1 < ((l.length : Nat) : Int) := by omega
            have j5 : ((J : Int) + 1).toNat = J + 1 := by omega
            have j6 : IntKind.i64.wrap ((J : Int) + 1) = (J : Int) + 1 := by rw [IntKind.wrap_i64]; omega
            have j7 : IntKind.i64.wrap (16 * (A : Int)) = 16 * (A : Int) := by rw [IntKind.wrap_i64]; omega
            have j8 : IntKind.i64.wrap (Y.toNat : Int) = (Y.toNat : Int) := by have := Y.toNat_lt; rw [IntKind.wrap_i64]; omega
            have j9 : IntKind.u8.wrap (Y.toNat : Int) = (Y.toNat : Int) := by have := Y.toNat_lt; rw [IntKind.wrap_u8]; omega
            have HOd : Hid (Own w.heap.size u6 t wr.drew) := HO.out
            have HCS : Hid ((#[Value.int .u8 (Y.toNat : Int)] : Array Value).toList = bv [Y]) := (rfl : (#[Value.int .u8 (Y.toNat : Int)] : Array Value).toList = bv [Y])
            go_wp2
            go_region_law (first | (go_simp; go_at_call 15; refine (Digit_any _ _).mono ?_; rintro e w2 ⟨rfl, rfl⟩; dsimp only) | (refine step_app rfl (.tmp 33) (.tmp 46) rfl w.heap.size u6 t [Y] 1 rfl wr.drew _ HCS.out (by simp [Act.eval, Act.put]) HOd.out (by simp [Act.eval, Act.put]) HT.out hsz ?_; intro v2 w2 HO2 HB2))
            all_goals go_wp2
            all_goals exact ⟨⟨k + 1, J + 2, HJ2.out.1, HJ2.out.2, by go_num, (by rw [HN.out]; exact HO2.out : Own w.heap.size _ ((prs l).take (k + 1)) _), HB.out.drew.trans HB2.out⟩, by have := HJ2.out.2; simp [intOf]; omega⟩
          · have hbk := back wr _ _ HO.out.rd
            rw [List.take_of_length_le (by rw [prs_length]; omega)] at hbk
            clear hm hJ hby
            go_wp2
            go_ret3
            rw [HU.out]
            exact ⟨rfl, HB.out⟩
      · have HU : Hid (unhexR l = ([], (l.length : Int), 31)) := unhexR_odd l HK.out hm
        rw [hm] at hmi
        clear hby
        go_wp2
        go_ret3
        rw [HU.out]
        exact ⟨rfl, Below.refl _ _⟩

end Bs
end Go.Proofs.Ytcnjnlmjgbmjnaa
