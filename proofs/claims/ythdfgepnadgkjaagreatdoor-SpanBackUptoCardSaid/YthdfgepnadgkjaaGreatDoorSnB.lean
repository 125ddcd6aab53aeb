/-
  span: count, asked, within, isEmpty, isSpan, rangeElements.
-/
import Derived.Test.YthdfgepnadgkjaaGreatDoorZzI
import Derived.Deep.Cut
import Derived.Deep.CutRange
import Derived.Deep.RegionHeld3
set_option linter.unusedVariables false
set_option linter.unusedSimpArgs false
namespace Go.Proofs.YthdfgepnadgkjaaGreatDoor
open Go.RowKit Go.Shelf
namespace Sn
open Oc Tg Ac

set_option maxHeartbeats 400000 in
theorem count_any (s : ByteArray) (hs : s.size ≤ 4000000000) (w : World) :
    Calls Tryz.prog 39 #[.string s] w fun e w' => e = .returned (.tuple #[.int .i64 (cnt s.data.toList).1, .bool (cnt s.data.toList).2]) ∧ Below w.heap.size w w' := by
  have HD : Hid (Calls _ _ _ _ _) := Decimal_any s (by unfold maxLen; omega) 4611686018427387904 (by omega) (by omega) w
  unfold cnt
  generalize numR 10 s.data.toList 4611686018427387904 = R at *
  obtain ⟨n, er⟩ := R
  dsimp only at *
  by_cases h : er = 12
  · rw [if_pos h]
    subst h
    go_enter Tryz.func39, Tryz.ntmps39
    go_wp2_with fail
    refine HD.out.mono ?_
    rintro e w2 ⟨rfl, hb⟩
    go_wp2
    go_ret2
    exact ⟨rfl, hb⟩
  · rw [if_neg h]
    have he : (er == 12) = false := by simp [h]
    have hq : decide (er = 0) = (er == 0) := by rw [Bool.eq_iff_iff]; simp
    dsimp only
    rw [hq]
    clear hq h
    go_enter Tryz.func39, Tryz.ntmps39
    go_wp2_with fail
    refine HD.out.mono ?_
    rintro e w2 ⟨rfl, hb⟩
    go_wp2
    go_ret2
    exact ⟨rfl, hb⟩

set_option maxHeartbeats 400000 in
theorem isEmpty_any (a b : Int) (w : World) :
    Calls Tryz.prog 15 #[.agg #[.int .i64 a, .int .i64 b]] w fun e w' => e = .returned (.bool (emp (a, b))) ∧ Below w.heap.size w w' := by
  unfold emp
  dsimp only
  go_enter Tryz.func15, Tryz.ntmps15
  go_wp2
  go_ret
  exact ⟨rfl, (Below.refl _ w).alloc (Nat.le_refl _) _⟩

set_option maxHeartbeats 400000 in
theorem within_any (a b size : Int) (w : World) :
    Calls Tryz.prog 14 #[.agg #[.int .i64 a, .int .i64 b], .int .i64 size] w fun e w' => e = .returned (.agg #[.int .i64 (wth (a, b) size).1, .int .i64 (wth (a, b) size).2]) ∧ Below w.heap.size w w' := by
  unfold wth
  dsimp only
  go_enter Tryz.func14, Tryz.ntmps14
  go_wp2
  refine bodyPost_ret (v := .agg #[.int .i64 (max a 0), .int .i64 (min b size)]) (by simp [results, Tryz.results14, go_sem]) rfl ?_
  refine ⟨rfl, ?_⟩
  repeat (first | exact Below.refl _ _ | refine Below.setCell ?_ (by simp) _ | refine Below.alloc ?_ (by simp) _)

set_option maxRecDepth 100000 in
set_option maxHeartbeats 1000000 in
theorem asked_any (s : ByteArray) (hs : s.size ≤ 4000000000) (size : Int) (z0 : 0 ≤ size) (z1 : size ≤ 9223372036854775807) (w : World) (hw : ML w) :
    Calls Tryz.prog 13 #[.string s, .int .i64 size] w fun e w' => e = .returned (.tuple #[.agg #[.int .i64 (askP s.data.toList size).1.1, .int .i64 (askP s.data.toList size).1.2], .bool (askP s.data.toList size).2]) ∧ Below w.heap.size w w' := by
  obtain ⟨w1, hw1⟩ : ∃ w1, w1 = w.alloc (.cells #[.int .i64 0, .int .i64 0] 38) := ⟨_, rfl⟩
  have y1 : w1.heap.size = w.heap.size + 1 := by rw [hw1]; simp
  have HA : Hid (PB 38 w1 w.heap.size (0, 0)) := (by rw [hw1]; exact heap_alloc_new w _ : PB _ _ _ _)
  have HB : Hid (Below w.heap.size w w1) := (by rw [hw1]; exact (Below.refl _ w).alloc (Nat.le_refl _) _ : Below _ _ _)
  have HC : Hid (Calls _ _ _ _ _) := Cut_one s 45 hs w1 (hw.below HB.out)
  have lA := cutA_len 45 s.data.toList
  have lB := cutB_len 45 s.data.toList
  rw [size_list] at lA lB
  have HNA : Hid (∀ W, Calls Tryz.prog 39 #[.string (str (cutA 45 s.data.toList))] W fun e w' => e = .returned (.tuple #[.int .i64 (cnt (cutA 45 s.data.toList)).1, .bool (cnt (cutA 45 s.data.toList)).2]) ∧ Below W.heap.size W w') := fun W => by
    have := count_any (str (cutA 45 s.data.toList)) (by rw [str_size]; omega) W
    rw [str_list] at this
    exact this
  have HNB : Hid (∀ W, Calls Tryz.prog 39 #[.string (str (cutB 45 s.data.toList))] W fun e w' => e = .returned (.tuple #[.int .i64 (cnt (cutB 45 s.data.toList)).1, .bool (cnt (cutB 45 s.data.toList)).2]) ∧ Below W.heap.size W w') := fun W => by
    have := count_any (str (cutB 45 s.data.toList)) (by rw [str_size]; omega) W
    rw [str_list] at this
    exact this
  clear hw lA lB
  obtain ⟨a0, a1⟩ := cnt_bd (cutA 45 s.data.toList)
  obtain ⟨b0, b1⟩ := cnt_bd (cutB 45 s.data.toList)
  have eA : (str (cutA 45 s.data.toList)).toList.isEmpty = decide (cutA 45 s.data.toList = []) := by rw [ByteArray.toList_eq, str_list, Bool.eq_iff_iff]; simp
  have eB : (str (cutB 45 s.data.toList)).toList.isEmpty = decide (cutB 45 s.data.toList = []) := by rw [ByteArray.toList_eq, str_list, Bool.eq_iff_iff]; simp
  unfold askP
  generalize has 45 s.data.toList = hs45 at *
  generalize cnt (cutA 45 s.data.toList) = NA at *
  generalize cnt (cutB 45 s.data.toList) = NB at *
  generalize str (cutA 45 s.data.toList) = SA at *
  generalize str (cutB 45 s.data.toList) = SB at *
  generalize cutA 45 s.data.toList = LA at *
  generalize cutB 45 s.data.toList = LB at *
  obtain ⟨na, oa⟩ := NA
  obtain ⟨nb, ob⟩ := NB
  dsimp only at *
  cases hs45 with
  | false =>
    rw [if_pos rfl]
    dsimp only
    go_enter Tryz.func13, Tryz.ntmps13
    go_wp2_with fail
    rw [← hw1]
    refine HC.out.mono ?_
    rintro e w3 ⟨rfl, hb3⟩
    have ha := HA.out.below hb3
    have q0 := ha.c0
    have q1 := ha.c1
    have g0 := ha.f 0
    have g1 := ha.f 1
    have HB3 : Hid (Below w.heap.size w w3) := HB.out.trans (hb3.mono (by omega))
    clear ha hb3
    go_wp2
    refine bodyPost_ret (v := .tuple #[.agg #[.int .i64 0, .int .i64 0], .bool false]) (by simp [results, Tryz.results13, go_sem, q0, q1]) rfl ?_
    refine ⟨rfl, ?_⟩
    repeat (first | exact HB3.out | refine Below.setCell ?_ (by simp) _ | refine Below.alloc ?_ (by simp; have := HB3.out.size; omega) _)
  | true =>
    rw [if_neg (by simp)]
    by_cases hA : LA = []
    · rw [if_pos hA]
      rw [decide_eq_true hA] at eA
      dsimp only
      clear hA
      go_enter Tryz.func13, Tryz.ntmps13
      go_wp2_with fail
      rw [← hw1]
      refine HC.out.mono ?_
      rintro e w3 ⟨rfl, hb3⟩
      have HA3 : Hid (PB _ _ _ _) := HA.out.below hb3
      have HB3 : Hid (Below w.heap.size w w3) := HB.out.trans (hb3.mono (by omega))
      clear hb3
      go_wp2_with fail
      refine (HNB.out _).mono ?_
      rintro e w4 ⟨rfl, hb4⟩
      have ha := HA3.out.below hb4
      have q0 := ha.c0
      have q1 := ha.c1
      have g0 := ha.f 0
      have g1 := ha.f 1
      have HB4 : Hid (Below w.heap.size w w4) := bel_trans HB3.out hb4
      clear ha hb4
      go_wp2
      refine bodyPost_ret (v := .tuple #[.agg #[.int .i64 (size - nb), .int .i64 size], .bool ob]) (by simp [results, Tryz.results13, go_sem, q0, q1]) rfl ?_
      refine ⟨rfl, ?_⟩
      repeat (first | exact HB4.out | refine Below.setCell ?_ (by simp) _ | refine Below.alloc ?_ (by simp; have := HB4.out.size; omega) _)
    · rw [if_neg hA]
      rw [decide_eq_false hA] at eA
      by_cases hB : LB = []
      · rw [if_pos hB]
        rw [decide_eq_true hB] at eB
        dsimp only
        clear hA hB
        go_enter Tryz.func13, Tryz.ntmps13
        go_wp2_with fail
        rw [← hw1]
        refine HC.out.mono ?_
        rintro e w3 ⟨rfl, hb3⟩
        have HA3 : Hid (PB _ _ _ _) := HA.out.below hb3
        have HB3 : Hid (Below w.heap.size w w3) := HB.out.trans (hb3.mono (by omega))
        clear hb3
        go_wp2_with fail
        refine (HNA.out _).mono ?_
        rintro e w4 ⟨rfl, hb4⟩
        have ha := HA3.out.below hb4
        have q0 := ha.c0
        have q1 := ha.c1
        have g0 := ha.f 0
        have g1 := ha.f 1
        have HB4 : Hid (Below w.heap.size w w4) := bel_trans HB3.out hb4
        clear ha hb4
        go_wp2
        refine bodyPost_ret (v := .tuple #[.agg #[.int .i64 na, .int .i64 size], .bool oa]) (by simp [results, Tryz.results13, go_sem, q0, q1]) rfl ?_
        refine ⟨rfl, ?_⟩
        repeat (first | exact HB4.out | refine Below.setCell ?_ (by simp) _ | refine Below.alloc ?_ (by simp; have := HB4.out.size; omega) _)
      · rw [if_neg hB]
        rw [decide_eq_false hB] at eB
        dsimp only
        clear hA hB
        go_enter Tryz.func13, Tryz.ntmps13
        go_wp2_with fail
        rw [← hw1]
        refine HC.out.mono ?_
        rintro e w3 ⟨rfl, hb3⟩
        have HA3 : Hid (PB _ _ _ _) := HA.out.below hb3
        have HB3 : Hid (Below w.heap.size w w3) := HB.out.trans (hb3.mono (by omega))
        clear hb3
        go_wp2_with fail
        refine (HNA.out _).mono ?_
        rintro e w4 ⟨rfl, hb4⟩
        have HA4 : Hid (PB _ _ _ _) := HA3.out.below hb4
        have HB4 : Hid (Below w.heap.size w w4) := bel_trans HB3.out hb4
        clear hb4
        go_wp2_with fail
        refine (HNB.out _).mono ?_
        rintro e w5 ⟨rfl, hb5⟩
        have ha := HA4.out.below hb5
        have q0 := ha.c0
        have q1 := ha.c1
        have g0 := ha.f 0
        have g1 := ha.f 1
        have HB5 : Hid (Below w.heap.size w w5) := bel_trans HB4.out hb5
        clear ha hb5
        cases oa <;> cases ob
        all_goals
          go_wp2
          refine bodyPost_ret (v := .tuple #[.agg #[.int .i64 na, .int .i64 (nb + 1)], .bool _]) (by simp [results, Tryz.results13, go_sem, q0, q1]; rfl) rfl ?_
          refine ⟨by simp, ?_⟩
          repeat (first | exact HB5.out | refine Below.setCell ?_ (by simp) _ | refine Below.alloc ?_ (by simp; have := HB5.out.size; omega) _)

set_option maxRecDepth 100000 in
set_option maxHeartbeats 1000000 in
theorem rangeElements_any (s : ByteArray) (hs : s.size ≤ 1048576) (w : World) (hw : ML w) :
    Calls Tryz.prog 12 #[.string s] w fun e w' => ∃ v, e = .returned (.tuple #[v, .bool (elR s.data.toList).2]) ∧ ((elR s.data.toList).2 = true → OwnS w.heap.size v (elR s.data.toList).1 w') ∧ Below w.heap.size w w' := by
  have HC : Hid (Calls _ _ _ _ _) := Cut_one s 61 (by omega) w hw
  have lA := cutA_len 61 s.data.toList
  have lB := cutB_len 61 s.data.toList
  rw [size_list] at lA lB
  have hu : lowS (str [98, 121, 116, 101, 115]) = str [98, 121, 116, 101, 115] := by decide +kernel
  have HS : Hid (∀ W, Calls Tryz.prog 37 #[.string (str (cutA 61 s.data.toList)), .string ⟨#[98, 121, 116, 101, 115]⟩] W fun e w' => e = .returned (.bool (decide (lower (cutA 61 s.data.toList) = [98, 121, 116, 101, 115]))) ∧ Below W.heap.size W w') := fun W => by
    have h := Same_any (str (cutA 61 s.data.toList)) (str [98, 121, 116, 101, 115]) (by rw [str_size]; unfold maxLen; omega) (by decide +kernel) W
    have e : decide (lowS (str (cutA 61 s.data.toList)) = lowS (str [98, 121, 116, 101, 115])) = decide (lower (cutA 61 s.data.toList) = [98, 121, 116, 101, 115]) := by
      rw [hu, decide_eq_decide]
      unfold lowS
      rw [str_list]
      exact ⟨fun h => str_inj h, fun h => by rw [h]⟩
    rw [e] at h
    exact h
  have HL : Hid (∀ W, Calls Tryz.prog 38 #[.string (str (cutB 61 s.data.toList))] W fun e w' => ∃ v, e = .returned (.tuple #[v, .int .i64 (listR (cutB 61 s.data.toList)).2]) ∧ OwnS W.heap.size v (listR (cutB 61 s.data.toList)).1 w' ∧ Below W.heap.size W w') := fun W => by
    have h := List_any (str (cutB 61 s.data.toList)) (by rw [str_size]; omega) W
    rw [str_list] at h
    exact h
  have hn := (listR_short (cutB 61 s.data.toList)).1
  clear hw hu
  unfold elR
  generalize listR (cutB 61 s.data.toList) = LR at *
  generalize str (cutA 61 s.data.toList) = SA at *
  generalize str (cutB 61 s.data.toList) = SB at *
  generalize lower (cutA 61 s.data.toList) = LA at *
  generalize has 61 s.data.toList = h61 at *
  obtain ⟨t, er⟩ := LR
  dsimp only at *
  by_cases hA : LA = [98, 121, 116, 101, 115]
  · rw [if_pos hA]
    rw [decide_eq_true hA] at HS
    dsimp only
    clear hA
    go_enter Tryz.func12, Tryz.ntmps12
    go_wp2_with fail
    refine HC.out.mono ?_
    rintro e w3 ⟨rfl, hb3⟩
    have HB3 : Hid (Below w.heap.size w w3) := hb3
    clear hb3
    go_wp2_with fail
    refine (HS.out _).mono ?_
    rintro e w4 ⟨rfl, hb4⟩
    have HB4 : Hid (Below w.heap.size w w4) := bel_trans HB3.out hb4
    clear hb4
    go_wp2_with fail
    refine (HL.out _).mono ?_
    rintro e w5 ⟨v, rfl, ho, hb5⟩
    have HB5 : Hid (Below w.heap.size w w5) := bel_trans HB4.out hb5
    have HO : Hid (OwnS w.heap.size v t w5) := ho.lower HB4.out.size
    obtain ⟨va, vc, rfl⟩ := ho.form
    clear hb5 ho
    by_cases hz : er = 0
    · subst hz
      go_wp2
      go_ret2
      exact ⟨_, rfl, (fun _ => HO.out), HB5.out⟩
    · have hz' : (er == 0) = false := by simp [hz]
      have HQ : Hid ((decide (er = 0) && decide (0 < t.length)) = false) := (by simp [hz] : (decide (er = 0) && decide (0 < t.length)) = false)
      go_wp2
      go_ret2
      rw [HQ.out]
      exact ⟨_, rfl, (fun _ => HO.out), HB5.out⟩
  · rw [if_neg hA]
    rw [decide_eq_false hA] at HS
    dsimp only
    clear hA
    go_enter Tryz.func12, Tryz.ntmps12
    go_wp2_with fail
    refine HC.out.mono ?_
    rintro e w3 ⟨rfl, hb3⟩
    have HB3 : Hid (Below w.heap.size w w3) := hb3
    clear hb3
    go_wp2_with fail
    refine (HS.out _).mono ?_
    rintro e w4 ⟨rfl, hb4⟩
    have HB4 : Hid (Below w.heap.size w w4) := bel_trans HB3.out hb4
    clear hb4
    go_wp2
    go_ret2
    exact ⟨_, rfl, (fun h => by cases h), HB4.out⟩

end Sn
end Go.Proofs.YthdfgepnadgkjaaGreatDoor
