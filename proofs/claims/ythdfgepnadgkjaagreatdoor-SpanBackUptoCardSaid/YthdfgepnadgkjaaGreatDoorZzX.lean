/- Several texts as one. -/
import Derived.Test.YthdfgepnadgkjaaGreatDoorZzI
import Derived.Test.YthdfgepnadgkjaaGreatDoorZzW
import Derived.Deep.Cut
import Derived.Deep.CutRange
/-
  span: the document's number, one, Parse.
-/
set_option linter.unusedVariables false
set_option linter.unusedSimpArgs false
namespace Go.Proofs.YthdfgepnadgkjaaGreatDoor
open Go.RowKit Go.Shelf
namespace Sn
open Oc Tg Ac

set_option maxHeartbeats 400000 in
theorem rnumber_any (s : ByteArray) (hs : s.size ≤ 4000000000) (w : World) :
    Calls Tryz.prog 43 #[.string s] w fun e w' => e = .returned (.tuple #[.int .i64 (cnt s.data.toList).1, .bool (cnt s.data.toList).2]) ∧ w' = w := by
  have HD : Hid (Calls _ _ _ _ _) := rDecimal_any s (by unfold maxLen; omega) 4611686018427387904 (by omega) (by omega) w
  unfold cnt
  generalize numR 10 s.data.toList 4611686018427387904 = R at *
  obtain ⟨n, er⟩ := R
  dsimp only at *
  by_cases h : er = 12
  · rw [if_pos h]
    subst h
    go_enter Tryz.func43, Tryz.ntmps43
    go_wp2_with fail
    refine HD.out.mono ?_
    rintro e w2 ⟨rfl, hb⟩
    rw [hb]
    go_wp2
    go_ret2
    exact ⟨rfl, rfl⟩
  · rw [if_neg h]
    have he : (er == 12) = false := by simp [h]
    have hq : decide (er = 0) = (er == 0) := by rw [Bool.eq_iff_iff]; simp
    dsimp only
    rw [hq]
    clear hq h
    go_enter Tryz.func43, Tryz.ntmps43
    go_wp2_with fail
    refine HD.out.mono ?_
    rintro e w2 ⟨rfl, hb⟩
    rw [hb]
    go_wp2
    go_ret2
    exact ⟨rfl, rfl⟩

set_option maxRecDepth 100000 in
set_option maxHeartbeats 4000000 in
theorem rone_any (s : ByteArray) (hs : s.size ≤ 4000000000) (size : Int) (z0 : 0 ≤ size) (z1 : size ≤ 9223372036854775807) (w : World) :
    Calls Tryz.prog 18 #[.string s, .int .i64 size] w fun e w' => e = .returned (.tuple #[.agg #[.int .i64 (oneR s.data.toList size).1.1, .int .i64 (oneR s.data.toList size).1.2], .bool (oneR s.data.toList size).2.1, .bool (oneR s.data.toList size).2.2]) ∧ Below w.heap.size w w' := by
  have hlen : s.data.toList.length = s.size := size_list s
  have HAT : Hid (∀ k (h : k < s.size), ((s[k].toNat : Nat) : Int) = ((s.data.toList.getD k 0).toNat : Int)) := fun k h => byt_at s k h
  have HXA : Hid (∀ k, k ≤ s.size → s.extract 0 k = str (s.data.toList.take k)) := fun k _ => by
    apply eq_list
    rw [Lib.extract_data, str_list]
    simp
  have HXB : Hid (∀ k, s.extract k s.size = str (s.data.toList.drop k)) := fun k => by
    apply eq_list
    rw [Lib.extract_data, str_list, List.take_of_length_le]
    rw [List.length_drop, size_list]
    omega
  generalize s.data.toList = L at *
  obtain ⟨w1, hw1⟩ : ∃ w1, w1 = w.alloc (.cells #[.int .i64 0, .int .i64 0] 52) := ⟨_, rfl⟩
  have HA : Hid (PB 52 w1 w.heap.size (0, 0)) := (by rw [hw1]; exact heap_alloc_new w _ : PB _ _ _ _)
  have HB : Hid (Below w.heap.size w w1) := (by rw [hw1]; exact (Below.refl _ w).alloc (Nat.le_refl _) _ : Below _ _ _)
  go_enter Tryz.func18, Tryz.ntmps18
  go_wp2
  rw [← hw1]
  clear hw1
  have q0 := HA.out.c0
  have q1 := HA.out.c1
  have g0 := HA.out.f 0
  have g1 := HA.out.f 1
  go_loop [7, 8] (fun av iv => ∃ (k : Nat) (a : Int), k ≤ s.size ∧ iv = .int .i64 k ∧ av = .int .i64 a ∧ ((a = -1 ∧ Hid (∀ i, i < k → L.getD i 0 ≠ 45)) ∨ (0 ≤ a ∧ a < s.size ∧ Hid (L.getD a.toNat 0 = 45 ∧ ∀ i, i < a.toNat → L.getD i 0 ≠ 45)))) (fun _ iv => s.size - (intOf iv).toNat)
  case atStart => exact ⟨0, -1, Nat.zero_le _, rfl, rfl, .inl ⟨rfl, (fun i hi => by omega : ∀ i, i < 0 → _)⟩⟩
  case round =>
    obtain ⟨k, a, hk, rfl, rfl, hcase⟩ := hrel
    rcases hcase with ⟨rfl, hno⟩ | ⟨ha0, ha1, hyes⟩
    · by_cases hlt : k < s.size
      · have hby := HAT.out k hlt
        have hcb := (L.getD k 0).toNat_lt
        generalize hci : ((L.getD k 0).toNat : Int) = ci at hby
        have HCI : Hid (((L.getD k 0).toNat : Int) = ci) := hci
        clear hci
        by_cases h45 : ci = 45
        · subst h45
          have HY : Hid (L.getD k 0 = 45 ∧ ∀ i, i < k → L.getD i 0 ≠ 45) := (⟨byte_eq (n := 45) (by omega) (by rw [HCI.out]; rfl), hno.out⟩ : _ ∧ _)
          clear HCI hno
          go_wp2
          go_round
          case rel => exact ⟨k + 1, k, by omega, by go_num, rfl, .inr ⟨by omega, by omega, (by simpa using HY.out : _ ∧ _)⟩⟩
          case measure => simp [intOf]; omega
        · have q : (ci == 45) = false := by simp [h45]
          have HN : Hid (∀ i, i < k + 1 → L.getD i 0 ≠ 45) := by
            intro i hi
            by_cases hik : i = k
            · subst hik
              exact byte_ne (n := 45) (by omega) (by rw [HCI.out]; exact_mod_cast h45)
            · exact hno.out i (by omega)
          clear HCI hno
          go_wp2
          go_round
          case rel => exact ⟨k + 1, -1, by omega, by go_num, rfl, .inl ⟨rfl, HN⟩⟩
          case measure => simp [intOf]; omega
      · obtain rfl : k = s.size := by omega
        have HE : Hid (oneR L size = ((0, 0), false, false)) := (by
          unfold oneR
          rw [if_pos (none_at 45 L (by rw [hlen]; exact hno.out))] : oneR L size = _)
        clear hno
        go_wp2
        refine bodyPost_ret (v := .tuple #[.agg #[.int .i64 0, .int .i64 0], .bool false, .bool false]) (by simp [results, Tryz.results18, go_sem, q0, q1]) rfl ?_
        rw [HE.out]
        refine ⟨rfl, ?_⟩
        repeat (first | exact HB.out | refine Below.setCell ?_ (by simp) _)
    · obtain ⟨j, rfl⟩ := Int.eq_ofNat_of_zero_le ha0
      have hj : j < s.size := by omega
      have hy : L.getD j 0 = 45 ∧ ∀ i, i < j → L.getD i 0 ≠ 45 := by simpa using hyes.out
      obtain ⟨f1, f2, f3⟩ := first_at 45 L j (by omega) hy.1 hy.2
      have eA : s.extract 0 j = str (cutA 45 L) := by rw [f2]; exact HXA.out j (by omega)
      have eB : s.extract (j + 1) s.size = str (cutB 45 L) := by rw [f3]; exact HXB.out _
      have zA : cutA 45 L = [] ↔ j = 0 := by rw [f2, ← List.length_eq_zero_iff, List.length_take]; omega
      have zB : cutB 45 L = [] ↔ ¬ j + 1 < s.size := by rw [f3, ← List.length_eq_zero_iff, List.length_drop]; omega
      have lA := cutA_len 45 L
      have lB := cutB_len 45 L
      rw [hlen] at lA lB
      have HNA : Hid (∀ W, Calls Tryz.prog 43 #[.string (s.extract 0 j)] W fun e w' => e = .returned (.tuple #[.int .i64 (cnt (cutA 45 L)).1, .bool (cnt (cutA 45 L)).2]) ∧ w' = W) := fun W => by
        have := rnumber_any (str (cutA 45 L)) (by rw [str_size]; omega) W
        rw [str_list] at this
        rw [eA]
        exact this
      have HNB : Hid (∀ W, Calls Tryz.prog 43 #[.string (s.extract (j + 1) s.size)] W fun e w' => e = .returned (.tuple #[.int .i64 (cnt (cutB 45 L)).1, .bool (cnt (cutB 45 L)).2]) ∧ w' = W) := fun W => by
        have := rnumber_any (str (cutB 45 L)) (by rw [str_size]; omega) W
        rw [str_list] at this
        rw [eB]
        exact this
      have HO : Hid (oneR L size = if cutA 45 L = [] then (if (cnt (cutB 45 L)).2 = false then ((0, 0), false, false) else ((if size - (cnt (cutB 45 L)).1 < 0 then 0 else size - (cnt (cutB 45 L)).1, size), decide (0 < size) && decide (0 < (cnt (cutB 45 L)).1), true))
          else if (cnt (cutA 45 L)).2 = false ∨ (cutB 45 L ≠ [] ∧ ((cnt (cutB 45 L)).2 = false ∨ (cnt (cutB 45 L)).1 < (cnt (cutA 45 L)).1)) then ((0, 0), false, false)
          else (((cnt (cutA 45 L)).1, if cutB 45 L ≠ [] ∧ (cnt (cutB 45 L)).1 < size then (cnt (cutB 45 L)).1 + 1 else size), decide ((cnt (cutA 45 L)).1 < size), true)) := (by
        unfold oneR
        rw [if_neg (by rw [f1]; simp)] : oneR L size = _)
      obtain ⟨a0, a1⟩ := cnt_bd (cutA 45 L)
      obtain ⟨b0, b1⟩ := cnt_bd (cutB 45 L)
      generalize cnt (cutA 45 L) = NA at *
      generalize cnt (cutB 45 L) = NB at *
      generalize cutA 45 L = LA at *
      generalize cutB 45 L = LB at *
      obtain ⟨na, oa⟩ := NA
      obtain ⟨nb, ob⟩ := NB
      dsimp only at *
      clear eA eB f1 f2 f3 hy hyes lA lB HXA HXB HAT ha0 ha1
      have hjz : decide ((j : Int) < 0) = false := by simp
      rcases Nat.lt_or_ge k s.size with hks | hks
      all_goals
        go_wp2_with fail
        refine (HNA.out _).mono ?_
        rintro e w3 ⟨rfl, hw3⟩
        rw [hw3]
        clear hw3
        go_wp2_with fail
        refine (HNB.out _).mono ?_
        rintro e w4 ⟨rfl, hw4⟩
        rw [hw4]
        clear hw4
        by_cases hj0 : j = 0
        · rw [if_pos (zA.2 hj0)] at HO
          have hjn : ((j : Int) == 0) = true := by simp [hj0]
          clear zA zB hj0
          cases ob with
          | false =>
            rw [if_pos rfl] at HO
            go_wp2
            refine bodyPost_ret (v := .tuple #[.agg #[.int .i64 0, .int .i64 0], .bool false, .bool false]) (by simp [results, Tryz.results18, go_sem, q0, q1]) rfl ?_
            rw [HO.out]
            refine ⟨rfl, ?_⟩
            repeat (first | exact HB.out | refine Below.setCell ?_ (by simp) _)
          | true =>
            rw [if_neg (by simp)] at HO
            by_cases hsb : size - nb < 0
            · rw [if_pos hsb] at HO
              by_cases hs0 : 0 < size
              · go_wp2
                refine bodyPost_ret (v := .tuple #[.agg #[.int .i64 0, .int .i64 size], .bool (decide (0 < nb)), .bool true]) (by simp [results, Tryz.results18, go_sem, q0, q1]) rfl ?_
                rw [HO.out]
                refine ⟨by simp [hs0], ?_⟩
                repeat (first | exact HB.out | refine Below.setCell ?_ (by simp) _)
              · go_wp2
                refine bodyPost_ret (v := .tuple #[.agg #[.int .i64 0, .int .i64 size], .bool false, .bool true]) (by simp [results, Tryz.results18, go_sem, q0, q1]) rfl ?_
                rw [HO.out]
                refine ⟨by simp; omega, ?_⟩
                repeat (first | exact HB.out | refine Below.setCell ?_ (by simp) _)
            · rw [if_neg hsb] at HO
              by_cases hs0 : 0 < size
              · go_wp2
                refine bodyPost_ret (v := .tuple #[.agg #[.int .i64 (size - nb), .int .i64 size], .bool (decide (0 < nb)), .bool true]) (by simp [results, Tryz.results18, go_sem, q0, q1]) rfl ?_
                rw [HO.out]
                refine ⟨by simp [hs0], ?_⟩
                repeat (first | exact HB.out | refine Below.setCell ?_ (by simp) _)
              · go_wp2
                refine bodyPost_ret (v := .tuple #[.agg #[.int .i64 (size - nb), .int .i64 size], .bool false, .bool true]) (by simp [results, Tryz.results18, go_sem, q0, q1]) rfl ?_
                rw [HO.out]
                refine ⟨by simp; omega, ?_⟩
                repeat (first | exact HB.out | refine Below.setCell ?_ (by simp) _)
        · rw [if_neg (fun h => hj0 (zA.1 h))] at HO
          have hjn : ((j : Int) == 0) = false := by simp [hj0]
          clear zA
          rcases (show (oa = false ∨ (oa = true ∧ j + 1 < s.size ∧ ob = false) ∨ (oa = true ∧ j + 1 < s.size ∧ ob = true ∧ nb < na)) ∨ (oa = true ∧ ¬ j + 1 < s.size) ∨ (oa = true ∧ j + 1 < s.size ∧ ob = true ∧ na ≤ nb ∧ nb < size) ∨ (oa = true ∧ j + 1 < s.size ∧ ob = true ∧ na ≤ nb ∧ size ≤ nb) by
            cases oa <;> cases ob <;> simp <;> omega) with hbad | ⟨rfl, hend⟩ | ⟨rfl, hin, rfl, hab, hbs⟩ | ⟨rfl, hin, rfl, hab, hbs⟩
          · rw [if_pos (by
              rcases hbad with h | ⟨_, h, h'⟩ | ⟨_, h, _, h'⟩
              · exact .inl h
              · exact .inr ⟨fun hc => zB.1 hc h, .inl h'⟩
              · exact .inr ⟨fun hc => zB.1 hc h, .inr h'⟩)] at HO
            clear zB
            rcases hbad with rfl | ⟨rfl, hin, rfl⟩ | ⟨rfl, hin, rfl, hab⟩
            all_goals
              go_wp2
              refine bodyPost_ret (v := .tuple #[.agg #[.int .i64 0, .int .i64 0], .bool false, .bool false]) (by simp [results, Tryz.results18, go_sem, q0, q1]) rfl ?_
              rw [HO.out]
              refine ⟨rfl, ?_⟩
              repeat (first | exact HB.out | refine Below.setCell ?_ (by simp) _)
          · rw [if_neg (by rintro (h | ⟨h, _⟩); cases h; exact h (zB.2 hend)), if_neg (fun h => h.1 (zB.2 hend))] at HO
            clear zB
            go_wp2
            refine bodyPost_ret (v := .tuple #[.agg #[.int .i64 na, .int .i64 size], .bool (decide (na < size)), .bool true]) (by simp [results, Tryz.results18, go_sem, q0, q1]) rfl ?_
            rw [HO.out]
            refine ⟨rfl, ?_⟩
            repeat (first | exact HB.out | refine Below.setCell ?_ (by simp) _)
          · rw [if_neg (by rintro (h | ⟨_, h | h⟩); cases h; cases h; omega), if_pos ⟨fun h => zB.1 h hin, hbs⟩] at HO
            clear zB
            go_wp2
            refine bodyPost_ret (v := .tuple #[.agg #[.int .i64 na, .int .i64 (nb + 1)], .bool (decide (na < size)), .bool true]) (by simp [results, Tryz.results18, go_sem, q0, q1]) rfl ?_
            rw [HO.out]
            refine ⟨rfl, ?_⟩
            repeat (first | exact HB.out | refine Below.setCell ?_ (by simp) _)
          · rw [if_neg (by rintro (h | ⟨_, h | h⟩); cases h; cases h; omega), if_neg (fun h => by omega)] at HO
            clear zB
            have hbs' : decide (nb < size) = false := by simp; omega
            go_wp2
            refine bodyPost_ret (v := .tuple #[.agg #[.int .i64 na, .int .i64 size], .bool (decide (na < size)), .bool true]) (by simp [results, Tryz.results18, go_sem, q0, q1]) rfl ?_
            rw [HO.out]
            refine ⟨rfl, ?_⟩
            repeat (first | exact HB.out | refine Below.setCell ?_ (by simp) _)

end Sn
end Go.Proofs.YthdfgepnadgkjaaGreatDoor

/-
  span: the document's Parse; SpanParses.
-/
set_option linter.unusedVariables false
set_option linter.unusedSimpArgs false
namespace Go.Proofs.YthdfgepnadgkjaaGreatDoor
open Go.RowKit Go.Shelf
namespace Sn
open Oc Tg Ac

set_option maxRecDepth 100000 in
set_option maxHeartbeats 4000000 in
theorem rParse_any (s : ByteArray) (hs : s.size ≤ 1048576) (size : Int) (z0 : -9223372036854775808 ≤ size) (z1 : size ≤ 9223372036854775807) (w : World) :
    Calls Tryz.prog 5 #[.string s, .int .i64 size] w fun e w' => ∃ v, e = .returned (.tuple #[v, .int .i64 (parR s.data.toList size).2]) ∧ OwnN 52 w.heap.size v (parR s.data.toList size).1 w' ∧ Below w.heap.size w w' := by
  by_cases hneg : size < 0
  · have HP : Hid (parR s.data.toList size = ([], 1)) := (by unfold parR; rw [if_pos hneg] : parR s.data.toList size = ([], 1))
    go_enter Tryz.func5, Tryz.ntmps5
    go_wp2
    go_ret2
    rw [HP.out]
    exact ⟨_, rfl, ownN_empty _ _ (Nat.le_refl _), (Below.refl _ _).alloc (Nat.le_refl _) _⟩
  have hpos : 0 ≤ size := by omega
  by_cases h6 : s.size < 6
  · have HP : Hid (parR s.data.toList size = ([], 90)) := (parR_ref hpos (elR_short (by rw [size_list]; exact h6)) : parR s.data.toList size = ([], 90))
    clear hneg
    go_enter Tryz.func5, Tryz.ntmps5
    go_wp2
    go_ret2
    rw [HP.out]
    exact ⟨_, rfl, ownN_empty _ _ (Nat.le_refl _), (Below.refl _ _).alloc (Nat.le_refl _) _⟩
  have hge : 6 ≤ s.size := by omega
  have e6 : (s.extract 0 6).data.toList = s.data.toList.take 6 := by rw [Lib.extract_data]; simp
  have eD : s.extract 6 s.size = str (s.data.toList.drop 6) := by
    apply eq_list
    rw [Lib.extract_data, str_list, List.take_of_length_le]
    rw [List.length_drop, size_list]
    omega
  have hu : lowS (str [98, 121, 116, 101, 115, 61]) = str [98, 121, 116, 101, 115, 61] := by decide +kernel
  have HS : Hid (∀ W, Calls Tryz.prog 16 #[.string (s.extract 0 6), .string ⟨#[98, 121, 116, 101, 115, 61]⟩] W fun e w' => e = .returned (.bool (decide (lower (s.data.toList.take 6) = [98, 121, 116, 101, 115, 61]))) ∧ Below W.heap.size W w') := fun W => by
    have h := rSame_any (s.extract 0 6) (str [98, 121, 116, 101, 115, 61]) (by simp; unfold maxLen; omega) (by decide +kernel) W
    have e : decide (lowS (s.extract 0 6) = lowS (str [98, 121, 116, 101, 115, 61])) = decide (lower (s.data.toList.take 6) = [98, 121, 116, 101, 115, 61]) := by
      rw [hu, decide_eq_decide]
      unfold lowS
      rw [e6]
      exact ⟨fun h => str_inj h, fun h => by rw [h]⟩
    rw [e] at h
    exact h
  have dT : (decide (s.size < 6 : Prop)) = false := by simp; omega
  have dI : (decide ((s.size : Int) < 6)) = false := by simp; omega
  by_cases hun : lower (s.data.toList.take 6) = [98, 121, 116, 101, 115, 61]
  · have hl : (s.data.toList.drop 6).length ≤ s.size := by rw [List.length_drop, size_list]; omega
    have HL : Hid (∀ W, Calls Tryz.prog 17 #[.string (s.extract 6 s.size)] W fun e w' => ∃ v, e = .returned (.tuple #[v, .int .i64 (listR (s.data.toList.drop 6)).2]) ∧ OwnS W.heap.size v (listR (s.data.toList.drop 6)).1 w' ∧ Below W.heap.size W w') := fun W => by
      have h := rList_any (str (s.data.toList.drop 6)) (by rw [str_size]; omega) W
      rw [str_list] at h
      rw [eD]
      exact h
    have hel := elR_yes (by rw [size_list]; omega) hun
    rw [decide_eq_true hun] at HS
    have HP1 : Hid ((listR (s.data.toList.drop 6)).2 ≠ 0 ∨ (listR (s.data.toList.drop 6)).1.length = 0 → parR s.data.toList size = ([], 90)) := (fun h => parR_ref hpos (by
      rw [hel]
      rcases h with h | h
      · simp [h]
      · simp at h; simp [h]) : _ → parR s.data.toList size = _)
    have HP2 : Hid ((listR (s.data.toList.drop 6)).2 = 0 → (listR (s.data.toList.drop 6)).1.length ≠ 0 → parR s.data.toList size = ansR size (listR (s.data.toList.drop 6)).1) := (fun h1 h2 => by
      unfold parR
      rw [if_neg hneg, hel, if_neg]
      have h3 : 0 < (listR (s.data.toList.drop 6)).1.length := by omega
      rw [h1, decide_eq_true rfl, decide_eq_true h3]
      simp : _ → _ → parR s.data.toList size = _)
    obtain ⟨l1, l2⟩ := listR_short (s.data.toList.drop 6)
    clear hel hu e6 eD hun hneg
    have htl : (listR (s.data.toList.drop 6)).1.length ≤ 1048577 := by omega
    have HSh : Hid (∀ x ∈ (listR (s.data.toList.drop 6)).1, x.length ≤ 1048576) := (fun x hx => by have := l2 x hx; omega : ∀ x ∈ _, _)
    clear l1 l2 hl
    generalize parR s.data.toList size = PR at *
    generalize (listR (s.data.toList.drop 6)).1 = t at *
    generalize (listR (s.data.toList.drop 6)).2 = er at *
    go_enter Tryz.func5, Tryz.ntmps5
    go_wp2_with fail
    refine (HS.out _).mono ?_
    rintro e w1 ⟨rfl, hb1⟩
    have HB1 : Hid (Below w.heap.size w w1) := hb1
    clear hb1
    go_wp2_with fail
    refine (HL.out _).mono ?_
    rintro e w2 ⟨v, rfl, ho, hb2⟩
    have HB2 : Hid (Below w.heap.size w w2) := bel_trans HB1.out hb2
    have HR2 : Hid (RdS v t w2) := OwnS.rd ho
    obtain ⟨va, vc, rfl⟩ := OwnS.form ho
    clear ho hb2 HL HS
    have hz2 := HB2.out.size
    by_cases hz : er = 0
    · subst hz
      by_cases hn : t.length = 0
      · have HWr : Hid (PR = ([], 90)) := HP1.out (.inr hn)
        have hn' : ((t.length : Int) == 0) = true := by rw [beq_iff_eq]; omega
        clear HP1 HP2 hn
        go_wp2
        go_ret2
        rw [HWr.out]
        exact ⟨_, rfl, ownN_empty _ _ hz2, HB2.out.alloc hz2 _⟩
      have HW : Hid (PR = ansR size t) := HP2.out (by simp) hn
      have hn' : ((t.length : Int) == 0) = false := by rw [beq_eq_false_iff_ne]; omega
      clear HP1 HP2 hn
      go_wp2
      go_loopw [8, 9] (fun lv iv wr => ∃ k : Nat, k ≤ t.length ∧ iv = .int .i64 k ∧ Hid (∀ j, j < k → (askP (t.getD j []) size).2 = true) ∧ Hid (OwnN 52 w2.heap.size lv ((t.take k).filterMap (keepN size)) wr) ∧ Hid (Below w2.heap.size w2 wr)) (fun _ iv _ => t.length - (intOf iv).toNat)
      case atStart => exact ⟨0, Nat.zero_le _, rfl, (fun j hj => by omega : ∀ j, j < 0 → _), ownN_empty _ _ (Nat.le_refl _), (Below.refl _ _).alloc (Nat.le_refl _) _⟩
      case round =>
        obtain ⟨k, hk, rfl, hall, hown, hbl⟩ := hrel
        by_cases hlt : k < t.length
        · have hsz := hbl.out.size
          obtain ⟨a', c', e', hcs⟩ := HR2.out.below hbl.out
          injection e' with e1 _ e2
          subst e1 e2
          rcases hcs with h | ⟨g, o, rfl, hlc, hcell⟩
          · rw [h] at hlt; simp at hlt
          have p0 := hcell k hlt
          clear hcell
          have hxl := getD_short HSh.out k hlt
          have HRW : Hid (∀ w, Calls Tryz.prog 18 #[.string (str (t.getD k [])), .int .i64 size] w fun e w' => e = .returned (.tuple #[.agg #[.int .i64 (oneR (t.getD k []) size).1.1, .int .i64 (oneR (t.getD k []) size).1.2], .bool (oneR (t.getD k []) size).2.1, .bool (oneR (t.getD k []) size).2.2]) ∧ Below w.heap.size w w') := fun w => by
            have := rone_any (str (t.getD k [])) (by rw [str_size]; omega) size hpos z1 w
            rw [str_list] at this
            exact this
          have hok := oneR_ok (t.getD k []) size
          have HErr : Hid ((oneR (t.getD k []) size).2.2 = false → PR = ([], 90)) := (fun h => by rw [HW.out]; exact ansR_bad k hlt (hok.symm.trans h) : _ → PR = _)
          have HNext : Hid ((oneR (t.getD k []) size).2.2 = true → ∀ j, j < k + 1 → (askP (t.getD j []) size).2 = true) := (fun h j hj => by
            by_cases hjk : j = k
            · subst hjk; exact hok.symm.trans h
            · exact hall.out j (by omega) : _ → ∀ j, _)
          have HTk : Hid ((oneR (t.getD k []) size).2.2 = true → (t.take (k + 1)).filterMap (keepN size) = (t.take k).filterMap (keepN size) ++ (if (oneR (t.getD k []) size).2.1 then some (oneR (t.getD k []) size).1 else none).toList) := (fun h => by
            rw [oneR_keep _ _ hpos (hok.symm.trans h)]
            exact take_keep size t k hlt : _ → _ = _)
          have hlk : ((t.take k).filterMap (keepN size)).length + 1 ≤ 2147483648 := by have := keep_len size t k; omega
          clear hok
          generalize (t.take k).filterMap (keepN size) = acc at *
          generalize hK1 : oneR (t.getD k []) size = W1 at *
          obtain ⟨⟨x1, x2⟩, xm, xo⟩ := W1
          dsimp only at *
          clear hK1
          generalize str (t.getD k []) = X at *
          go_wp2_with fail
          refine (HRW.out _).mono ?_
          rintro e w5 ⟨rfl, hb5⟩
          have HB5 : Hid (Below w2.heap.size w2 w5) := bel_trans hbl.out hb5
          have HO5 : Hid (OwnN 52 w2.heap.size _ acc w5) := hown.out.below hb5
          clear hb5
          obtain ⟨w6, hw6⟩ : ∃ w6, w6 = w5.alloc (.cells #[.int .i64 x1, .int .i64 x2] 52) := ⟨_, rfl⟩
          have HPB : Hid (PB 52 w6 w5.heap.size (x1, x2)) := (by rw [hw6]; exact PB.new _ w5 (x1, x2) : PB _ _ _ _)
          have HB56 : Hid (Below w5.heap.size w5 w6) := (by rw [hw6]; exact (Below.refl _ w5).alloc (Nat.le_refl _) _ : Below _ _ _)
          have HB6 : Hid (Below w2.heap.size w2 w6) := bel_trans HB5.out HB56.out
          have HO6 : Hid (OwnN 52 w2.heap.size _ acc w6) := HO5.out.below HB56.out
          have hz6 := HB6.out.size
          have q0 := HPB.out.c0
          have q1 := HPB.out.c1
          have HZ6 : Hid (w6.heap.size = w5.heap.size + 1) := (by rw [hw6]; simp : w6.heap.size = w5.heap.size + 1)
          generalize hg : w5.heap.size = g5 at *
          cases xo with
          | false =>
            have HWr : Hid (PR = ([], 90)) := HErr.out rfl
            go_wp2
            rw [← hw6]
            go_ret2
            rw [HWr.out]
            have hoe := (ownN_empty 52 w6 hz6).mono hz2
            rw [HZ6.out] at hoe
            exact ⟨_, rfl, hoe, (HB2.out.trans (HB6.out.mono hz2)).alloc (by omega) _⟩
          | true =>
            have HN2' : Hid (∀ j, j < k + 1 → (askP (t.getD j []) size).2 = true) := (HNext.out rfl : ∀ j, _)
            have HTk2 := HTk.out rfl
            have HTk' : Hid (_ = _) := HTk2
            clear HErr HNext HTk HTk2
            cases xm with
            | false =>
              have HT2 : Hid ((t.take (k + 1)).filterMap (keepN size) = acc) := (by rw [HTk'.out]; simp : (t.take (k + 1)).filterMap (keepN size) = acc)
              clear HTk'
              go_wp2
              rw [← hw6]
              go_roundw
              case rel => exact ⟨k + 1, by omega, by go_num, HN2', (by rw [HT2.out]; exact HO6.out : OwnN _ _ _ _ _), HB6⟩
              case measure => simp [intOf]; omega
            | true =>
              have HT2 : Hid ((t.take (k + 1)).filterMap (keepN size) = acc ++ [(x1, x2)]) := (by rw [HTk'.out]; simp : (t.take (k + 1)).filterMap (keepN size) = acc ++ [(x1, x2)])
              clear HTk'
              go_wp2_with (at_builtin; rw [← hw6]; go_must (refine wp_appN 52 26 infoN2 Tryz.underlying26 rfl (.tmp 61) (.tmp 63) rfl w2.heap.size _ acc _ (x1, x2) _ _ rfl rfl (by simp [Act.eval, Act.put]) HO6.out _ (by simp [Act.eval, Act.put]) HZ6.out.symm hlk hz6 ?_; intro va7 wa7 hown7 hb7))
              have HO7 : Hid (OwnN 52 w2.heap.size va7 ((t.take (k + 1)).filterMap (keepN size)) wa7) := (by rw [HT2.out]; exact hown7 : OwnN _ _ _ _ _)
              have HB7 : Hid (Below w2.heap.size w2 wa7) := HB6.out.trans hb7
              clear hown7 hb7
              go_wp2
              go_roundw
              case rel => exact ⟨k + 1, by omega, by go_num, HN2', HO7, HB7⟩
              case measure => simp [intOf]; omega
        · obtain rfl : k = t.length := by omega
          have HWr : Hid (PR = (if (t.filterMap (keepN size)).length = 0 then ([], 91) else (t.filterMap (keepN size), 0))) := (by rw [HW.out]; exact ansR_ok hall.out : PR = _)
          rw [List.take_length] at hown
          generalize t.filterMap (keepN size) = acc at *
          obtain ⟨la, lc, rfl⟩ := hown.out.form
          have hszw := hbl.out.size
          by_cases hz : acc.length = 0
          · have hz' : ((acc.length : Int) == 0) = true := by rw [beq_iff_eq]; omega
            have HWs : Hid (PR = ([], 91)) := (by rw [HWr.out, if_pos hz] : PR = _)
            clear HWr hz
            go_wp2
            go_ret2
            rw [HWs.out]
            exact ⟨_, rfl, ownN_empty _ _ (by omega), (HB2.out.trans (hbl.out.mono hz2)).alloc (by omega) _⟩
          · have hz' : ((acc.length : Int) == 0) = false := by rw [beq_eq_false_iff_ne]; omega
            have HWs : Hid (PR = (acc, 0)) := (by rw [HWr.out, if_neg hz] : PR = _)
            clear HWr
            go_wp2
            go_ret2
            rw [HWs.out]
            exact ⟨_, rfl, hown.out.mono hz2, HB2.out.trans (hbl.out.mono hz2)⟩
    · have hz' : (er != 0) = true := by simp [hz]
      have HWr : Hid (PR = ([], 90)) := HP1.out (.inl hz)
      clear HP1 HP2
      go_wp2
      go_ret2
      rw [HWr.out]
      exact ⟨_, rfl, ownN_empty _ _ hz2, HB2.out.alloc hz2 _⟩
  · have HP : Hid (parR s.data.toList size = ([], 90)) := (parR_ref hpos (elR_not hun) : parR s.data.toList size = ([], 90))
    rw [decide_eq_false hun] at HS
    clear hneg hun hu e6 eD
    go_enter Tryz.func5, Tryz.ntmps5
    go_wp2_with fail
    refine (HS.out _).mono ?_
    rintro e w1 ⟨rfl, hb1⟩
    have HB1 : Hid (Below w.heap.size w w1) := hb1
    clear hb1
    go_wp2
    go_ret2
    rw [HP.out]
    exact ⟨_, rfl, ownN_empty _ _ HB1.out.size, HB1.out.alloc HB1.out.size _⟩

end Sn
end Go.Proofs.YthdfgepnadgkjaaGreatDoor
