/-
  PrintQuality, and the document's.
-/
import Derived.Test.YthaokkdcebmcpaaDoorAQp
import Derived.Test.YthaokkdcebmcpaaDoorAAw
import Derived.Test.YthaokkdcebmcpaaDoorARq
set_option linter.unusedVariables false
set_option linter.unusedSimpArgs false
namespace Go.Proofs.YthaokkdcebmcpaaDoor
open Go.RowKit Go.Shelf
namespace Ac
open Oc Tg

set_option maxRecDepth 100000 in
set_option maxHeartbeats 1000000 in
theorem PrintQuality_bad (q : Int) (hq : q < 0 ∨ 1000 < q) (w : World) :
    Calls Tryd.prog 18 #[.int .i64 q] w fun e w' => e = .returned (.tuple #[.string ⟨#[]⟩, .int .i64 71]) ∧ w' = w := by
  by_cases h0 : q < 0
  · have d0 : decide (q < 0) = true := decide_eq_true h0
    go_enter Tryd.func18, Tryd.ntmps18
    go_wp2
    go_ret2
    exact ⟨rfl, rfl⟩
  · have d0 : decide (q < 0) = false := decide_eq_false h0
    have d1 : decide ((1000 : Int) < q) = true := decide_eq_true (by omega)
    go_enter Tryd.func18, Tryd.ntmps18
    go_wp2
    go_ret2
    exact ⟨rfl, rfl⟩

set_option maxRecDepth 100000 in
set_option maxHeartbeats 1000000 in
theorem rPrintQuality_bad (q : Int) (hq : q < 0 ∨ 1000 < q) (w : World) :
    Calls Tryd.prog 19 #[.int .i64 q] w fun e w' => e = .returned (.tuple #[.string ⟨#[]⟩, .int .i64 71]) ∧ w' = w := by
  by_cases h0 : q < 0
  · have d0 : decide (q < 0) = true := decide_eq_true h0
    go_enter Tryd.func19, Tryd.ntmps19
    go_wp2
    go_ret2
    exact ⟨rfl, rfl⟩
  · have d0 : decide (q < 0) = false := decide_eq_false h0
    have d1 : decide ((1000 : Int) < q) = true := decide_eq_true (by omega)
    go_enter Tryd.func19, Tryd.ntmps19
    go_wp2
    go_ret2
    exact ⟨rfl, rfl⟩

set_option maxRecDepth 100000 in
set_option maxHeartbeats 1000000 in
theorem PrintQuality_any (q : Nat) (hq : q ≤ 1000) (w : World) (hw : Pow w) :
    Calls Tryd.prog 18 #[.int .i64 (q : Int)] w fun e w' => e = .returned (.tuple #[.string (str (pq q)), .int .i64 0]) ∧ Below w.heap.size w w' := by
  have d0 : decide ((q : Int) < 0) = false := decide_eq_false (by omega)
  have d1 : decide ((1000 : Int) < (q : Int)) = false := decide_eq_false (by omega)
  have hm : (q : Int) % 1000 = ((q % 1000 : Nat) : Int) := by omega
  have hd : (q : Int) / 1000 = ((q / 1000 : Nat) : Int) := by omega
  have HP : Hid (Pow w) := hw
  clear hw
  have D1 : Hid (∀ w, Pow w → Calls Tryd.prog 42 #[.int .i64 (1000 + (q : Int) % 1000)] w fun e w' => e = .returned (.string (str (49 :: three q))) ∧ Below w.heap.size w w') := fun w h => by
    have := Digits_any (1000 + ((q % 1000 : Nat) : Int)) (by omega) (by omega) w h
    rw [itoa_four (q % 1000) (by omega), ← hm] at this
    exact this
  have D2 : Hid (∀ w, Pow w → Calls Tryd.prog 42 #[.int .i64 ((q : Int) / 1000)] w fun e w' => e = .returned (.string (str [dgt (q / 1000)])) ∧ Below w.heap.size w w') := fun w h => by
    have := Digits_any ((q / 1000 : Nat) : Int) (by omega) (by omega) w h
    rw [itoa_one (q / 1000) (by omega), ← hd] at this
    exact this
  have hz4 : (str (49 :: three q)).size = 4 := by rw [str_size]; rfl
  have hx : (str (49 :: three q)).extract 1 4 = str (three q) := by
    apply eq_list
    rw [str_list]
    simp [str, three]
  have D3 : Hid (∀ w, Calls Tryd.prog 43 #[.string (str (three q)), .string ⟨#[48]⟩] w fun e w' => e = .returned (.string (str (Lib.trimRightB (three q) 48))) ∧ w' = w) := fun w => by
    have := Tryd.strings_TrimRight_one (str (three q)) 48 (by decide) w (by rw [str_size]; show 3 ≤ _; omega)
    rw [str_list] at this
    exact this
  have hs1 : (str [dgt (q / 1000)] ++ (⟨#[46]⟩ : ByteArray)) ++ str (Lib.trimRightB (three q) 48) = str ([dgt (q / 1000)] ++ [46] ++ Lib.trimRightB (three q) 48) := by
    apply eq_list
    simp [str]
  have tl : (Lib.trimRightB (three q) 48).length ≤ 3 := by
    unfold Lib.trimRightB
    rw [List.length_reverse]
    have := (List.dropWhile_sublist (· == (48 : UInt8)) (l := (three q).reverse)).length_le
    rw [List.length_reverse] at this
    exact this
  have D4 : Hid (∀ w, Calls Tryd.prog 44 #[.string (str ([dgt (q / 1000)] ++ [46] ++ Lib.trimRightB (three q) 48)), .string ⟨#[46]⟩] w fun e w' => e = .returned (.string (str (pq q))) ∧ w' = w) := fun w => by
    have := Tryd.strings_TrimSuffix (str ([dgt (q / 1000)] ++ [46] ++ Lib.trimRightB (three q) 48)) ⟨#[46]⟩ w (by rw [str_size]; simp; omega)
    rw [str_list] at this
    exact this
  have s1 : (str [dgt (q / 1000)]).size = 1 := by rw [str_size]; rfl
  have s2 : (str (Lib.trimRightB (three q) 48)).size ≤ 3 := by rw [str_size]; exact tl
  generalize str ([dgt (q / 1000)] ++ [46] ++ Lib.trimRightB (three q) 48) = S4 at *
  generalize str (Lib.trimRightB (three q) 48) = S3 at *
  generalize str [dgt (q / 1000)] = S2 at *
  generalize str (three q) = S1 at *
  generalize str (49 :: three q) = S0 at *
  generalize str (pq q) = R at *
  clear hm hd
  go_enter Tryd.func18, Tryd.ntmps18
  go_wp2_with fail
  refine (D1.out _ HP.out).mono ?_
  rintro e w2 ⟨rfl, hb2⟩
  have HB2 : Hid (Below w.heap.size w w2) := hb2
  have HP2 : Hid (Pow w2) := HP.out.below hb2 (Nat.le_refl _)
  clear hb2
  go_wp2_with fail
  refine (D2.out _ HP2.out).mono ?_
  rintro e w3 ⟨rfl, hb3⟩
  have HB3 : Hid (Below w.heap.size w w3) := bel_trans HB2.out hb3
  clear hb3
  go_wp2_with (first | (go_at_call 43; refine (D3.out _).mono ?_; rintro e w4 ⟨rfl, rfl⟩) | (go_at_call 44; refine (D4.out _).mono ?_; rintro e w4 ⟨rfl, rfl⟩))
  go_ret2
  exact ⟨rfl, HB3.out⟩

set_option maxRecDepth 100000 in
set_option maxHeartbeats 1000000 in
theorem rPrintQuality_any (q : Nat) (hq : q ≤ 1000) (w : World) :
    Calls Tryd.prog 19 #[.int .i64 (q : Int)] w fun e w' => e = .returned (.tuple #[.string (str (pq q)), .int .i64 0]) ∧ Below w.heap.size w w' := by
  have d0 : decide ((q : Int) < 0) = false := decide_eq_false (by omega)
  have d1 : decide ((1000 : Int) < (q : Int)) = false := decide_eq_false (by omega)
  obtain ⟨_, _, _, f0, f1, _⟩ := pq_facts q hq
  by_cases h0 : q % 1000 = 0
  · have HF := f0 h0
    have e0 : ((q : Int) % 1000 == 0) = true := by simp; omega
    rcases (show q = 0 ∨ q = 1000 by omega) with rfl | rfl
    · have HF' : Hid (str (pq 0) = ⟨#[48]⟩) := (by rw [HF]; rfl : str (pq 0) = ⟨#[48]⟩)
      clear HF f0 f1
      go_enter Tryd.func19, Tryd.ntmps19
      go_wp2
      go_ret2
      rw [HF'.out]
      exact ⟨rfl, (Below.refl _ w).alloc (Nat.le_refl _) _⟩
    · have HF' : Hid (str (pq 1000) = ⟨#[49]⟩) := (by rw [HF]; rfl : str (pq 1000) = ⟨#[49]⟩)
      clear HF f0 f1
      go_enter Tryd.func19, Tryd.ntmps19
      go_wp2
      go_ret2
      rw [HF'.out]
      exact ⟨rfl, (Below.refl _ w).alloc (Nat.le_refl _) _⟩
  · have HF : Hid (pq q = Lib.trimRightB (five q) 48) := f1 h0
    have e0 : ((q : Int) % 1000 == 0) = false := by simp; omega
    clear f0 f1
    obtain ⟨m2, m5, mt, mz, me⟩ := mq_facts q hq h0
    have hcv : (convert 83 9 (.slice (some ⟨w.heap.size + 1, 0, none⟩) 3 3)).run Tryd.prog ((w.alloc (.cells #[.string ⟨#[48]⟩, .string ⟨#[49]⟩] 9)).alloc (.cells #[.int .u8 (48 + (q : Int) / 100), .int .u8 (48 + (q : Int) / 10 % 10), .int .u8 (48 + (q : Int) % 10)] 5)) = .ok (.string (str [dgt (q / 100), dgt (q / 10 % 10), dgt (q % 10)])) ((w.alloc (.cells #[.string ⟨#[48]⟩, .string ⟨#[49]⟩] 9)).alloc (.cells #[.int .u8 (48 + (q : Int) / 100), .int .u8 (48 + (q : Int) / 10 % 10), .int .u8 (48 + (q : Int) % 10)] 5)) := by
      refine run_convert_bytes_back _ 83 9 5 ⟨w.heap.size + 1, 0, none⟩ 3 [dgt (q / 100), dgt (q / 10 % 10), dgt (q % 10)] Tryd.underlying83 Tryd.underlying5 Tryd.underlying9 (fun j hj => ?_)
      have hdg : ∀ d, d < 10 → ((dgt d).toNat : Int) = 48 + (d : Int) := fun d hd => by unfold dgt; rw [UInt8.toNat_ofNat']; omega
      have e1 := hdg (q / 100) (by omega)
      have e2 := hdg (q / 10 % 10) (by omega)
      have e3 := hdg (q % 10) (by omega)
      match j, hj with
      | 0, _ => simp [Addr.add, e1]
      | 1, _ => simp [Addr.add, e2]
      | 2, _ => simp [Addr.add, e3]
    have hcat : (⟨#[48, 46]⟩ : ByteArray) ++ str [dgt (q / 100), dgt (q / 10 % 10), dgt (q % 10)] = str (five q) := by
      apply eq_list
      simp [str, five]
    have hsz3 : (str [dgt (q / 100), dgt (q / 10 % 10), dgt (q % 10)]).size = 3 := by rw [str_size]; rfl
    have hl5 : (five q).length = 5 := rfl
    have MZ : Hid (∀ j, mq q ≤ j → j < 5 → (five q).getD j 0 = 48) := mz
    have MT : Hid (str (pq q) = str ((five q).take (mq q))) := (by rw [HF.out, mt] : str (pq q) = _)
    have HB : Hid (Below w.heap.size w ((w.alloc (.cells #[.string ⟨#[48]⟩, .string ⟨#[49]⟩] 9)).alloc (.cells #[.int .u8 (48 + (q : Int) / 100), .int .u8 (48 + (q : Int) / 10 % 10), .int .u8 (48 + (q : Int) % 10)] 5))) := ((Below.refl _ w).alloc (Nat.le_refl _) _).alloc (by simp) _
    have ME : Hid ((five q).getD (mq q - 1) 0 ≠ 48) := me
    have HFv : Hid (∀ n, n ≤ 5 → (str ((five q).take n)).size = n ∧ (str ((five q).take n)).data.toList = (five q).take n) := (fun n hn => ⟨by rw [str_size, List.length_take, hl5]; omega, str_list _⟩ : ∀ n, _)
    have H5 : Hid (str (five q) = str ((five q).take 5)) := rfl
    clear mz me mt HF
    generalize str [dgt (q / 100), dgt (q / 10 % 10), dgt (q % 10)] = T3 at *
    rw [H5.out] at hcat
    clear H5
    generalize five q = F at *
    generalize mq q = m at *
    go_enter Tryd.func19, Tryd.ntmps19
    go_wp2
    generalize ((w.alloc (.cells #[.string ⟨#[48]⟩, .string ⟨#[49]⟩] 9)).alloc (.cells #[.int .u8 (48 + (q : Int) / 100), .int .u8 (48 + (q : Int) / 10 % 10), .int .u8 (48 + (q : Int) % 10)] 5)) = W at *
    go_loopw [5] (fun sv wr => ∃ n : Nat, m ≤ n ∧ n ≤ 5 ∧ sv = .string (str (F.take n)) ∧ W = wr) (fun sv _ => match sv with | .string b => b.size | _ => 0)
    case atStart => exact ⟨5, m5, Nat.le_refl _, rfl, rfl⟩
    case round =>
      obtain ⟨n, hn, hn5, rfl, rfl⟩ := hrel
      obtain ⟨z1, z2⟩ := HFv.out n hn5
      have hbyt : byt (str (F.take n)) (n - 1) = ((F.getD (n - 1) 0).toNat : Int) := by
        unfold byt
        rw [z2, List.getD_eq_getElem?_getD, List.getElem?_take, if_pos (by omega), ← List.getD_eq_getElem?_getD]
      by_cases hlt : m < n
      · have hx : (str (F.take n)).extract 0 (n - 1) = str (F.take (n - 1)) := by
          apply eq_list
          rw [str_list]
          simp [str, List.take_take]
        have hb48 : byt (str (F.take n)) (n - 1) = 48 := by rw [hbyt, MZ.out (n - 1) (by omega) (by omega)]; rfl
        clear hbyt z2
        have Hz : Hid ((str (F.take (n - 1))).size = n - 1) := (HFv.out (n - 1) (by omega)).1
        generalize hS : str (F.take n) = S at *
        generalize hS' : str (F.take (n - 1)) = S' at *
        have hlts : n - 1 < S.size := by omega
        have hby : ((S[n - 1]'hlts).toNat : Int) = 48 := (byt_at S (n - 1) hlts).trans hb48
        have hsub : (S.size : Int) - 1 = ((n - 1 : Nat) : Int) := by omega
        have HS' : Hid (S' = str (F.take (n - 1))) := hS'.symm
        clear hS hS' hb48
        go_wp2
        go_roundw
        case rel => exact ⟨n - 1, by omega, by omega, by rw [HS'.out], trivial⟩
        case measure => simp; have := Hz.out; omega
      · obtain rfl : n = m := by omega
        have hb48 : byt (str (F.take n)) (n - 1) ≠ 48 := by
          rw [hbyt]
          intro e
          exact ME.out (UInt8.toNat_inj.1 (by show _ = 48; omega))
        clear hbyt z2
        generalize str (F.take n) = S at *
        have hlts : n - 1 < S.size := by omega
        have hby : ((S[n - 1]'hlts).toNat : Int) = byt S (n - 1) := byt_at S (n - 1) hlts
        have hne : (byt S (n - 1) == 48) = false := by simp [hb48]
        have hsub : (S.size : Int) - 1 = ((n - 1 : Nat) : Int) := by omega
        go_wp2
        go_ret2
        rw [MT.out]
        exact ⟨rfl, HB.out⟩

end Ac
end Go.Proofs.YthaokkdcebmcpaaDoor
