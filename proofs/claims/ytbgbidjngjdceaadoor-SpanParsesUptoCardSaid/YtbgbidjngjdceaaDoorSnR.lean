/-
  span: the document's number, one, Parse.
-/
import Derived.Test.YtbgbidjngjdceaaDoorSnQ
import Derived.Test.YtbgbidjngjdceaaDoorRList
import Derived.Deep.Cut
import Derived.Deep.CutRange
set_option linter.unusedVariables false
set_option linter.unusedSimpArgs false
namespace Go.Proofs.YtbgbidjngjdceaaDoor
open Go.RowKit Go.Shelf
namespace Sn
open Oc Tg Ac

set_option maxHeartbeats 400000 in
theorem rnumber_any (s : ByteArray) (hs : s.size ≤ 4000000000) (w : World) :
    Calls Tryd.prog 56 #[.string s] w fun e w' => e = .returned (.tuple #[.int .i64 (cnt s.data.toList).1, .bool (cnt s.data.toList).2]) ∧ w' = w := by
  have HD : Hid (Calls _ _ _ _ _) := rDecimal_any s (by unfold maxLen; omega) 4611686018427387904 (by omega) (by omega) w
  unfold cnt
  generalize numR 10 s.data.toList 4611686018427387904 = R at *
  obtain ⟨n, er⟩ := R
  dsimp only at *
  by_cases h : er = 12
  · rw [if_pos h]
    subst h
    go_enter Tryd.func56, Tryd.ntmps56
    go_wp2_with fail
    refine HD.out.mono ?_
    rintro e w2 ⟨rfl, hb⟩
    rw [hb]
    go_wp2
    go_ret2
    exact ⟨rfl, rfl⟩
  · rw [if_neg h]
    have he : (er == 12) = false := by simp [h]
    have hq : decide (er = 0) = (er == 0) := by rw [Bool.eq_iff_iff]; simp
    dsimp only
    rw [hq]
    clear hq h
    go_enter Tryd.func56, Tryd.ntmps56
    go_wp2_with fail
    refine HD.out.mono ?_
    rintro e w2 ⟨rfl, hb⟩
    rw [hb]
    go_wp2
    go_ret2
    exact ⟨rfl, rfl⟩

set_option maxRecDepth 100000 in
set_option maxHeartbeats 4000000 in
theorem rone_any (s : ByteArray) (hs : s.size ≤ 4000000000) (size : Int) (z0 : 0 ≤ size) (z1 : size ≤ 9223372036854775807) (w : World) :
    Calls Tryd.prog 34 #[.string s, .int .i64 size] w fun e w' => e = .returned (.tuple #[.agg #[.int .i64 (oneR s.data.toList size).1.1, .int .i64 (oneR s.data.toList size).1.2], .bool (oneR s.data.toList size).2.1, .bool (oneR s.data.toList size).2.2]) ∧ Below w.heap.size w w' := by
  have hlen : s.data.toList.length = s.size := size_list s
  have HAT : Hid (∀ k (h : k < s.size), ((s[k].toNat : Nat) : Int) = ((s.data.toList.getD k 0).toNat : Int)) := fun k h => byt_at s k h
  have HXA : Hid (∀ k, k ≤ s.size → s.extract 0 k = str (s.data.toList.take k)) := fun k _ => by
    apply eq_list
    rw [Lib.extract_data, str_list]
    simp
  have HXB : Hid (∀ k, s.extract k s.size = str (s.data.toList.drop k)) := fun k => by
    apply eq_list
    rw [Lib.extract_data, str_list, List.take_of_length_le]
    rw [List.length_drop, size_list]
    omega
  generalize s.data.toList = L at *
  obtain ⟨w1, hw1⟩ : ∃ w1, w1 = w.alloc (.cells #[.int .i64 0, .int .i64 0] 45) := ⟨_, rfl⟩
  have HA : Hid (PB 45 w1 w.heap.size (0, 0)) := (by rw [hw1]; exact heap_alloc_new w _ : PB _ _ _ _)
  have HB : Hid (Below w.heap.size w w1) := (by rw [hw1]; exact (Below.refl _ w).alloc (Nat.le_refl _) _ : Below _ _ _)
  go_enter Tryd.func34, Tryd.ntmps34
  go_wp2
  rw [← hw1]
  clear hw1
  have q0 := HA.out.c0
  have q1 := HA.out.c1
  have g0 := HA.out.f 0
  have g1 := HA.out.f 1
  go_loop [7, 8] (fun av iv => ∃ (k : Nat) (a : Int), k ≤ s.size ∧ iv = .int .i64 k ∧ av = .int .i64 a ∧ ((a = -1 ∧ Hid (∀ i, i < k → L.getD i 0 ≠ 45)) ∨ (0 ≤ a ∧ a < s.size ∧ Hid (L.getD a.toNat 0 = 45 ∧ ∀ i, i < a.toNat → L.getD i 0 ≠ 45)))) (fun _ iv => s.size - (intOf iv).toNat)
  case atStart => exact ⟨0, -1, Nat.zero_le _, rfl, rfl, .inl ⟨rfl, (fun i hi => by omega : ∀ i, i < 0 → _)⟩⟩
  case round =>
    obtain ⟨k, a, hk, rfl, rfl, hcase⟩ := hrel
    rcases hcase with ⟨rfl, hno⟩ | ⟨ha0, ha1, hyes⟩
    · by_cases hlt : k < s.size
      · have hby := HAT.out k hlt
        have hcb := (L.getD k 0).toNat_lt
        generalize hci : ((L.getD k 0).toNat : Int) = ci at hby
        have HCI : Hid (((L.getD k 0).toNat : Int) = ci) := hci
        clear hci
        by_cases h45 : ci = 45
        · subst h45
          have HY : Hid (L.getD k 0 = 45 ∧ ∀ i, i < k → L.getD i 0 ≠ 45) := (⟨byte_eq (n := 45) (by omega) (by rw [HCI.out]; rfl), hno.out⟩ : _ ∧ _)
          clear HCI hno
          go_wp2
          go_round
          case rel => exact ⟨k + 1, k, by omega, by go_num, rfl, .inr ⟨by omega, by omega, (by simpa using HY.out : _ ∧ _)⟩⟩
          case measure => simp [intOf]; omega
        · have q : (ci == 45) = false := by simp [h45]
          have HN : Hid (∀ i, i < k + 1 → L.getD i 0 ≠ 45) := by
            intro i hi
            by_cases hik : i = k
            · subst hik
              exact byte_ne (n := 45) (by omega) (by rw [HCI.out]; exact_mod_cast h45)
            · exact hno.out i (by omega)
          clear HCI hno
          go_wp2
          go_round
          case rel => exact ⟨k + 1, -1, by omega, by go_num, rfl, .inl ⟨rfl, HN⟩⟩
          case measure => simp [intOf]; omega
      · obtain rfl : k = s.size := by omega
        have HE : Hid (oneR L size = ((0, 0), false, false)) := (by
          unfold oneR
          rw [if_pos (none_at 45 L (by rw [hlen]; exact hno.out))] : oneR L size = _)
        clear hno
        go_wp2
        refine bodyPost_ret (v := .tuple #[.agg #[.int .i64 0, .int .i64 0], .bool false, .bool false]) (by simp [results, Tryd.results34, go_sem, q0, q1]) rfl ?_
        rw [HE.out]
        refine ⟨rfl, ?_⟩
        repeat (first | exact HB.out | refine Below.setCell ?_ (by simp) _)
    · obtain ⟨j, rfl⟩ := Int.eq_ofNat_of_zero_le ha0
      have hj : j < s.size := by omega
      have hy : L.getD j 0 = 45 ∧ ∀ i, i < j → L.getD i 0 ≠ 45 := by simpa using hyes.out
      obtain ⟨f1, f2, f3⟩ := first_at 45 L j (by omega) hy.1 hy.2
      have eA : s.extract 0 j = str (cutA 45 L) := by rw [f2]; exact HXA.out j (by omega)
      have eB : s.extract (j + 1) s.size = str (cutB 45 L) := by rw [f3]; exact HXB.out _
      have zA : cutA 45 L = [] ↔ j = 0 := by rw [f2, ← List.length_eq_zero_iff, List.length_take]; omega
      have zB : cutB 45 L = [] ↔ ¬ j + 1 < s.size := by rw [f3, ← List.length_eq_zero_iff, List.length_drop]; omega
      have lA := cutA_len 45 L
      have lB := cutB_len 45 L
      rw [hlen] at lA lB
      have HNA : Hid (∀ W, Calls Tryd.prog 56 #[.string (s.extract 0 j)] W fun e w' => e = .returned (.tuple #[.int .i64 (cnt (cutA 45 L)).1, .bool (cnt (cutA 45 L)).2]) ∧ w' = W) := fun W => by
        have := rnumber_any (str (cutA 45 L)) (by rw [str_size]; omega) W
        rw [str_list] at this
        rw [eA]
        exact this
      have HNB : Hid (∀ W, Calls Tryd.prog 56 #[.string (s.extract (j + 1) s.size)] W fun e w' => e = .returned (.tuple #[.int .i64 (cnt (cutB 45 L)).1, .bool (cnt (cutB 45 L)).2]) ∧ w' = W) := fun W => by
        have := rnumber_any (str (cutB 45 L)) (by rw [str_size]; omega) W
        rw [str_list] at this
        rw [eB]
        exact this
      have HO : Hid (oneR L size = if cutA 45 L = [] then (if (cnt (cutB 45 L)).2 = false then ((0, 0), false, false) else ((if size - (cnt (cutB 45 L)).1 < 0 then 0 else size - (cnt (cutB 45 L)).1, size), decide (0 < size) && decide (0 < (cnt (cutB 45 L)).1), true))
          else if (cnt (cutA 45 L)).2 = false ∨ (cutB 45 L ≠ [] ∧ ((cnt (cutB 45 L)).2 = false ∨ (cnt (cutB 45 L)).1 < (cnt (cutA 45 L)).1)) then ((0, 0), false, false)
          else (((cnt (cutA 45 L)).1, if cutB 45 L ≠ [] ∧ (cnt (cutB 45 L)).1 < size then (cnt (cutB 45 L)).1 + 1 else size), decide ((cnt (cutA 45 L)).1 < size), true)) := (by
        unfold oneR
        rw [if_neg (by rw [f1]; simp)] : oneR L size = _)
      obtain ⟨a0, a1⟩ := cnt_bd (cutA 45 L)
      obtain ⟨b0, b1⟩ := cnt_bd (cutB 45 L)
      generalize cnt (cutA 45 L) = NA at *
      generalize cnt (cutB 45 L) = NB at *
      generalize cutA 45 L = LA at *
      generalize cutB 45 L = LB at *
      obtain ⟨na, oa⟩ := NA
      obtain ⟨nb, ob⟩ := NB
      dsimp only at *
      clear eA eB f1 f2 f3 hy hyes lA lB HXA HXB HAT ha0 ha1
      have hjz : decide ((j : Int) < 0) = false := by simp
      rcases Nat.lt_or_ge k s.size with hks | hks
      all_goals
        go_wp2_with fail
        refine (HNA.out _).mono ?_
        rintro e w3 ⟨rfl, hw3⟩
        rw [hw3]
        clear hw3
        go_wp2_with fail
        refine (HNB.out _).mono ?_
        rintro e w4 ⟨rfl, hw4⟩
        rw [hw4]
        clear hw4
        by_cases hj0 : j = 0
        · rw [if_pos (zA.2 hj0)] at HO
          have hjn : ((j : Int) == 0) = true := by simp [hj0]
          clear zA zB hj0
          cases ob with
          | false =>
            rw [if_pos rfl] at HO
            go_wp2
            refine bodyPost_ret (v := .tuple #[.agg #[.int .i64 0, .int .i64 0], .bool false, .bool false]) (by simp [results, Tryd.results34, go_sem, q0, q1]) rfl ?_
            rw [HO.out]
            refine ⟨rfl, ?_⟩
            repeat (first | exact HB.out | refine Below.setCell ?_ (by simp) _)
          | true =>
            rw [if_neg (by simp)] at HO
            by_cases hsb : size - nb < 0
            · rw [if_pos hsb] at HO
              by_cases hs0 : 0 < size
              · go_wp2
                refine bodyPost_ret (v := .tuple #[.agg #[.int .i64 0, .int .i64 size], .bool (decide (0 < nb)), .bool true]) (by simp [results, Tryd.results34, go_sem, q0, q1]) rfl ?_
                rw [HO.out]
                refine ⟨by simp [hs0], ?_⟩
                repeat (first | exact HB.out | refine Below.setCell ?_ (by simp) _)
              · go_wp2
                refine bodyPost_ret (v := .tuple #[.agg #[.int .i64 0, .int .i64 size], .bool false, .bool true]) (by simp [results, Tryd.results34, go_sem, q0, q1]) rfl ?_
                rw [HO.out]
                refine ⟨by simp; omega, ?_⟩
                repeat (first | exact HB.out | refine Below.setCell ?_ (by simp) _)
            · rw [if_neg hsb] at HO
              by_cases hs0 : 0 < size
              · go_wp2
                refine bodyPost_ret (v := .tuple #[.agg #[.int .i64 (size - nb), .int .i64 size], .bool (decide (0 < nb)), .bool true]) (by simp [results, Tryd.results34, go_sem, q0, q1]) rfl ?_
                rw [HO.out]
                refine ⟨by simp [hs0], ?_⟩
                repeat (first | exact HB.out | refine Below.setCell ?_ (by simp) _)
              · go_wp2
                refine bodyPost_ret (v := .tuple #[.agg #[.int .i64 (size - nb), .int .i64 size], .bool false, .bool true]) (by simp [results, Tryd.results34, go_sem, q0, q1]) rfl ?_
                rw [HO.out]
                refine ⟨by simp; omega, ?_⟩
                repeat (first | exact HB.out | refine Below.setCell ?_ (by simp) _)
        · rw [if_neg (fun h => hj0 (zA.1 h))] at HO
          have hjn : ((j : Int) == 0) = false := by simp [hj0]
          clear zA
          rcases (show (oa = false ∨ (oa = true ∧ j + 1 < s.size ∧ ob = false) ∨ (oa = true ∧ j + 1 < s.size ∧ ob = true ∧ nb < na)) ∨ (oa = true ∧ ¬ j + 1 < s.size) ∨ (oa = true ∧ j + 1 < s.size ∧ ob = true ∧ na ≤ nb ∧ nb < size) ∨ (oa = true ∧ j + 1 < s.size ∧ ob = true ∧ na ≤ nb ∧ size ≤ nb) by
            cases oa <;> cases ob <;> simp <;> omega) with hbad | ⟨rfl, hend⟩ | ⟨rfl, hin, rfl, hab, hbs⟩ | ⟨rfl, hin, rfl, hab, hbs⟩
          · rw [if_pos (by
              rcases hbad with h | ⟨_, h, h'⟩ | ⟨_, h, _, h'⟩
              · exact .inl h
              · exact .inr ⟨fun hc => zB.1 hc h, .inl h'⟩
              · exact .inr ⟨fun hc => zB.1 hc h, .inr h'⟩)] at HO
            clear zB
            rcases hbad with rfl | ⟨rfl, hin, rfl⟩ | ⟨rfl, hin, rfl, hab⟩
            all_goals
              go_wp2
              refine bodyPost_ret (v := .tuple #[.agg #[.int .i64 0, .int .i64 0], .bool false, .bool false]) (by simp [results, Tryd.results34, go_sem, q0, q1]) rfl ?_
              rw [HO.out]
              refine ⟨rfl, ?_⟩
              repeat (first | exact HB.out | refine Below.setCell ?_ (by simp) _)
          · rw [if_neg (by rintro (h | ⟨h, _⟩); cases h; exact h (zB.2 hend)), if_neg (fun h => h.1 (zB.2 hend))] at HO
            clear zB
            go_wp2
            refine bodyPost_ret (v := .tuple #[.agg #[.int .i64 na, .int .i64 size], .bool (decide (na < size)), .bool true]) (by simp [results, Tryd.results34, go_sem, q0, q1]) rfl ?_
            rw [HO.out]
            refine ⟨rfl, ?_⟩
            repeat (first | exact HB.out | refine Below.setCell ?_ (by simp) _)
          · rw [if_neg (by rintro (h | ⟨_, h | h⟩); cases h; cases h; omega), if_pos ⟨fun h => zB.1 h hin, hbs⟩] at HO
            clear zB
            go_wp2
            refine bodyPost_ret (v := .tuple #[.agg #[.int .i64 na, .int .i64 (nb + 1)], .bool (decide (na < size)), .bool true]) (by simp [results, Tryd.results34, go_sem, q0, q1]) rfl ?_
            rw [HO.out]
            refine ⟨rfl, ?_⟩
            repeat (first | exact HB.out | refine Below.setCell ?_ (by simp) _)
          · rw [if_neg (by rintro (h | ⟨_, h | h⟩); cases h; cases h; omega), if_neg (fun h => by omega)] at HO
            clear zB
            have hbs' : decide (nb < size) = false := by simp; omega
            go_wp2
            refine bodyPost_ret (v := .tuple #[.agg #[.int .i64 na, .int .i64 size], .bool (decide (na < size)), .bool true]) (by simp [results, Tryd.results34, go_sem, q0, q1]) rfl ?_
            rw [HO.out]
            refine ⟨rfl, ?_⟩
            repeat (first | exact HB.out | refine Below.setCell ?_ (by simp) _)

end Sn
end Go.Proofs.YtbgbidjngjdceaaDoor
