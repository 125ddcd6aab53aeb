/- Several texts as one. -/
import Derived.Test.YtfoepegndoippaaDoorZzJ
import Derived.Deep.Cut
import Derived.Deep.CutRange
import Derived.Deep.RegionHeld3
/-
  span: count, asked, within, isEmpty, isSpan, rangeElements.
-/
set_option linter.unusedVariables false
set_option linter.unusedSimpArgs false
namespace Go.Proofs.YtfoepegndoippaaDoor
open Go.RowKit Go.Shelf
namespace Sn
open Oc Tg Ac

set_option maxHeartbeats 400000 in
theorem count_any (s : ByteArray) (hs : s.size ≤ 4000000000) (w : World) :
    Calls Tryd.prog 23 #[.string s] w fun e w' => e = .returned (.tuple #[.int .i64 (cnt s.data.toList).1, .bool (cnt s.data.toList).2]) ∧ Below w.heap.size w w' := by
  have HD : Hid (Calls _ _ _ _ _) := Decimal_any s (by unfold maxLen; omega) 4611686018427387904 (by omega) (by omega) w
  unfold cnt
  generalize numR 10 s.data.toList 4611686018427387904 = R at *
  obtain ⟨n, er⟩ := R
  dsimp only at *
  by_cases h : er = 12
  · rw [if_pos h]
    subst h
    go_enter Tryd.func23, Tryd.ntmps23
    go_wp2_with fail
    refine HD.out.mono ?_
    rintro e w2 ⟨rfl, hb⟩
    go_wp2
    go_ret2
    exact ⟨rfl, hb⟩
  · rw [if_neg h]
    have he : (er == 12) = false := by simp [h]
    have hq : decide (er = 0) = (er == 0) := by rw [Bool.eq_iff_iff]; simp
    dsimp only
    rw [hq]
    clear hq h
    go_enter Tryd.func23, Tryd.ntmps23
    go_wp2_with fail
    refine HD.out.mono ?_
    rintro e w2 ⟨rfl, hb⟩
    go_wp2
    go_ret2
    exact ⟨rfl, hb⟩

set_option maxHeartbeats 400000 in
theorem isEmpty_any (a b : Int) (w : World) :
    Calls Tryd.prog 16 #[.agg #[.int .i64 a, .int .i64 b]] w fun e w' => e = .returned (.bool (emp (a, b))) ∧ Below w.heap.size w w' := by
  unfold emp
  dsimp only
  go_enter Tryd.func16, Tryd.ntmps16
  go_wp2
  go_ret
  exact ⟨rfl, (Below.refl _ w).alloc (Nat.le_refl _) _⟩

set_option maxHeartbeats 400000 in
theorem within_any (a b size : Int) (w : World) :
    Calls Tryd.prog 15 #[.agg #[.int .i64 a, .int .i64 b], .int .i64 size] w fun e w' => e = .returned (.agg #[.int .i64 (wth (a, b) size).1, .int .i64 (wth (a, b) size).2]) ∧ Below w.heap.size w w' := by
  unfold wth
  dsimp only
  go_enter Tryd.func15, Tryd.ntmps15
  go_wp2
  refine bodyPost_ret (v := .agg #[.int .i64 (max a 0), .int .i64 (min b size)]) (by simp [results, Tryd.results15, go_sem]) rfl ?_
  refine ⟨rfl, ?_⟩
  repeat (first | exact Below.refl _ _ | refine Below.setCell ?_ (by simp) _ | refine Below.alloc ?_ (by simp) _)

set_option maxRecDepth 100000 in
set_option maxHeartbeats 1000000 in
theorem asked_any (s : ByteArray) (hs : s.size ≤ 4000000000) (size : Int) (z0 : 0 ≤ size) (z1 : size ≤ 9223372036854775807) (w : World) (hw : ML w) :
    Calls Tryd.prog 14 #[.string s, .int .i64 size] w fun e w' => e = .returned (.tuple #[.agg #[.int .i64 (askP s.data.toList size).1.1, .int .i64 (askP s.data.toList size).1.2], .bool (askP s.data.toList size).2]) ∧ Below w.heap.size w w' := by
  obtain ⟨w1, hw1⟩ : ∃ w1, w1 = w.alloc (.cells #[.int .i64 0, .int .i64 0] 32) := ⟨_, rfl⟩
  have y1 : w1.heap.size = w.heap.size + 1 := by rw [hw1]; simp
  have HA : Hid (PB 32 w1 w.heap.size (0, 0)) := (by rw [hw1]; exact heap_alloc_new w _ : PB _ _ _ _)
  have HB : Hid (Below w.heap.size w w1) := (by rw [hw1]; exact (Below.refl _ w).alloc (Nat.le_refl _) _ : Below _ _ _)
  have HC : Hid (Calls _ _ _ _ _) := Cut_one s 45 hs w1 (hw.below HB.out)
  have lA := cutA_len 45 s.data.toList
  have lB := cutB_len 45 s.data.toList
  rw [size_list] at lA lB
  have HNA : Hid (∀ W, Calls Tryd.prog 23 #[.string (str (cutA 45 s.data.toList))] W fun e w' => e = .returned (.tuple #[.int .i64 (cnt (cutA 45 s.data.toList)).1, .bool (cnt (cutA 45 s.data.toList)).2]) ∧ Below W.heap.size W w') := fun W => by
    have := count_any (str (cutA 45 s.data.toList)) (by rw [str_size]; omega) W
    rw [str_list] at this
    exact this
  have HNB : Hid (∀ W, Calls Tryd.prog 23 #[.string (str (cutB 45 s.data.toList))] W fun e w' => e = .returned (.tuple #[.int .i64 (cnt (cutB 45 s.data.toList)).1, .bool (cnt (cutB 45 s.data.toList)).2]) ∧ Below W.heap.size W w') := fun W => by
    have := count_any (str (cutB 45 s.data.toList)) (by rw [str_size]; omega) W
    rw [str_list] at this
    exact this
  clear hw lA lB
  obtain ⟨a0, a1⟩ := cnt_bd (cutA 45 s.data.toList)
  obtain ⟨b0, b1⟩ := cnt_bd (cutB 45 s.data.toList)
  have eA : (str (cutA 45 s.data.toList)).toList.isEmpty = decide (cutA 45 s.data.toList = []) := by rw [ByteArray.toList_eq, str_list, Bool.eq_iff_iff]; simp
  have eB : (str (cutB 45 s.data.toList)).toList.isEmpty = decide (cutB 45 s.data.toList = []) := by rw [ByteArray.toList_eq, str_list, Bool.eq_iff_iff]; simp
  unfold askP
  generalize has 45 s.data.toList = hs45 at *
  generalize cnt (cutA 45 s.data.toList) = NA at *
  generalize cnt (cutB 45 s.data.toList) = NB at *
  generalize str (cutA 45 s.data.toList) = SA at *
  generalize str (cutB 45 s.data.toList) = SB at *
  generalize cutA 45 s.data.toList = LA at *
  generalize cutB 45 s.data.toList = LB at *
  obtain ⟨na, oa⟩ := NA
  obtain ⟨nb, ob⟩ := NB
  dsimp only at *
  cases hs45 with
  | false =>
    rw [if_pos rfl]
    dsimp only
    go_enter Tryd.func14, Tryd.ntmps14
    go_wp2_with fail
    rw [← hw1]
    refine HC.out.mono ?_
    rintro e w3 ⟨rfl, hb3⟩
    have ha := HA.out.below hb3
    have q0 := ha.c0
    have q1 := ha.c1
    have g0 := ha.f 0
    have g1 := ha.f 1
    have HB3 : Hid (Below w.heap.size w w3) := HB.out.trans (hb3.mono (by omega))
    clear ha hb3
    go_wp2
    refine bodyPost_ret (v := .tuple #[.agg #[.int .i64 0, .int .i64 0], .bool false]) (by simp [results, Tryd.results14, go_sem, q0, q1]) rfl ?_
    refine ⟨rfl, ?_⟩
    repeat (first | exact HB3.out | refine Below.setCell ?_ (by simp) _ | refine Below.alloc ?_ (by simp; have := HB3.out.size; omega) _)
  | true =>
    rw [if_neg (by simp)]
    by_cases hA : LA = []
    · rw [if_pos hA]
      rw [decide_eq_true hA] at eA
      dsimp only
      clear hA
      go_enter Tryd.func14, Tryd.ntmps14
      go_wp2_with fail
      rw [← hw1]
      refine HC.out.mono ?_
      rintro e w3 ⟨rfl, hb3⟩
      have HA3 : Hid (PB _ _ _ _) := HA.out.below hb3
      have HB3 : Hid (Below w.heap.size w w3) := HB.out.trans (hb3.mono (by omega))
      clear hb3
      go_wp2_with fail
      refine (HNB.out _).mono ?_
      rintro e w4 ⟨rfl, hb4⟩
      have ha := HA3.out.below hb4
      have q0 := ha.c0
      have q1 := ha.c1
      have g0 := ha.f 0
      have g1 := ha.f 1
      have HB4 : Hid (Below w.heap.size w w4) := bel_trans HB3.out hb4
      clear ha hb4
      go_wp2
      refine bodyPost_ret (v := .tuple #[.agg #[.int .i64 (size - nb), .int .i64 size], .bool ob]) (by simp [results, Tryd.results14, go_sem, q0, q1]) rfl ?_
      refine ⟨rfl, ?_⟩
      repeat (first | exact HB4.out | refine Below.setCell ?_ (by simp) _ | refine Below.alloc ?_ (by simp; have := HB4.out.size; omega) _)
    · rw [if_neg hA]
      rw [decide_eq_false hA] at eA
      by_cases hB : LB = []
      · rw [if_pos hB]
        rw [decide_eq_true hB] at eB
        dsimp only
        clear hA hB
        go_enter Tryd.func14, Tryd.ntmps14
        go_wp2_with fail
        rw [← hw1]
        refine HC.out.mono ?_
        rintro e w3 ⟨rfl, hb3⟩
        have HA3 : Hid (PB _ _ _ _) := HA.out.below hb3
        have HB3 : Hid (Below w.heap.size w w3) := HB.out.trans (hb3.mono (by omega))
        clear hb3
        go_wp2_with fail
        refine (HNA.out _).mono ?_
        rintro e w4 ⟨rfl, hb4⟩
        have ha := HA3.out.below hb4
        have q0 := ha.c0
        have q1 := ha.c1
        have g0 := ha.f 0
        have g1 := ha.f 1
        have HB4 : Hid (Below w.heap.size w w4) := bel_trans HB3.out hb4
        clear ha hb4
        go_wp2
        refine bodyPost_ret (v := .tuple #[.agg #[.int .i64 na, .int .i64 size], .bool oa]) (by simp [results, Tryd.results14, go_sem, q0, q1]) rfl ?_
        refine ⟨rfl, ?_⟩
        repeat (first | exact HB4.out | refine Below.setCell ?_ (by simp) _ | refine Below.alloc ?_ (by simp; have := HB4.out.size; omega) _)
      · rw [if_neg hB]
        rw [decide_eq_false hB] at eB
        dsimp only
        clear hA hB
        go_enter Tryd.func14, Tryd.ntmps14
        go_wp2_with fail
        rw [← hw1]
        refine HC.out.mono ?_
        rintro e w3 ⟨rfl, hb3⟩
        have HA3 : Hid (PB _ _ _ _) := HA.out.below hb3
        have HB3 : Hid (Below w.heap.size w w3) := HB.out.trans (hb3.mono (by omega))
        clear hb3
        go_wp2_with fail
        refine (HNA.out _).mono ?_
        rintro e w4 ⟨rfl, hb4⟩
        have HA4 : Hid (PB _ _ _ _) := HA3.out.below hb4
        have HB4 : Hid (Below w.heap.size w w4) := bel_trans HB3.out hb4
        clear hb4
        go_wp2_with fail
        refine (HNB.out _).mono ?_
        rintro e w5 ⟨rfl, hb5⟩
        have ha := HA4.out.below hb5
        have q0 := ha.c0
        have q1 := ha.c1
        have g0 := ha.f 0
        have g1 := ha.f 1
        have HB5 : Hid (Below w.heap.size w w5) := bel_trans HB4.out hb5
        clear ha hb5
        cases oa <;> cases ob
        all_goals
          go_wp2
          refine bodyPost_ret (v := .tuple #[.agg #[.int .i64 na, .int .i64 (nb + 1)], .bool _]) (by simp [results, Tryd.results14, go_sem, q0, q1]; rfl) rfl ?_
          refine ⟨by simp, ?_⟩
          repeat (first | exact HB5.out | refine Below.setCell ?_ (by simp) _ | refine Below.alloc ?_ (by simp; have := HB5.out.size; omega) _)

set_option maxRecDepth 100000 in
set_option maxHeartbeats 1000000 in
theorem rangeElements_any (s : ByteArray) (hs : s.size ≤ 1048576) (w : World) (hw : ML w) :
    Calls Tryd.prog 13 #[.string s] w fun e w' => ∃ v, e = .returned (.tuple #[v, .bool (elR s.data.toList).2]) ∧ ((elR s.data.toList).2 = true → OwnS w.heap.size v (elR s.data.toList).1 w') ∧ Below w.heap.size w w' := by
  have HC : Hid (Calls _ _ _ _ _) := Cut_one s 61 (by omega) w hw
  have lA := cutA_len 61 s.data.toList
  have lB := cutB_len 61 s.data.toList
  rw [size_list] at lA lB
  have hu : lowS (str [98, 121, 116, 101, 115]) = str [98, 121, 116, 101, 115] := by decide +kernel
  have HS : Hid (∀ W, Calls Tryd.prog 21 #[.string (str (cutA 61 s.data.toList)), .string ⟨#[98, 121, 116, 101, 115]⟩] W fun e w' => e = .returned (.bool (decide (lower (cutA 61 s.data.toList) = [98, 121, 116, 101, 115]))) ∧ Below W.heap.size W w') := fun W => by
    have h := Same_any (str (cutA 61 s.data.toList)) (str [98, 121, 116, 101, 115]) (by rw [str_size]; unfold maxLen; omega) (by decide +kernel) W
    have e : decide (lowS (str (cutA 61 s.data.toList)) = lowS (str [98, 121, 116, 101, 115])) = decide (lower (cutA 61 s.data.toList) = [98, 121, 116, 101, 115]) := by
      rw [hu, decide_eq_decide]
      unfold lowS
      rw [str_list]
      exact ⟨fun h => str_inj h, fun h => by rw [h]⟩
    rw [e] at h
    exact h
  have HL : Hid (∀ W, Calls Tryd.prog 22 #[.string (str (cutB 61 s.data.toList))] W fun e w' => ∃ v, e = .returned (.tuple #[v, .int .i64 (listR (cutB 61 s.data.toList)).2]) ∧ OwnS W.heap.size v (listR (cutB 61 s.data.toList)).1 w' ∧ Below W.heap.size W w') := fun W => by
    have h := List_any (str (cutB 61 s.data.toList)) (by rw [str_size]; omega) W
    rw [str_list] at h
    exact h
  have hn := (listR_short (cutB 61 s.data.toList)).1
  clear hw hu
  unfold elR
  generalize listR (cutB 61 s.data.toList) = LR at *
  generalize str (cutA 61 s.data.toList) = SA at *
  generalize str (cutB 61 s.data.toList) = SB at *
  generalize lower (cutA 61 s.data.toList) = LA at *
  generalize has 61 s.data.toList = h61 at *
  obtain ⟨t, er⟩ := LR
  dsimp only at *
  by_cases hA : LA = [98, 121, 116, 101, 115]
  · rw [if_pos hA]
    rw [decide_eq_true hA] at HS
    dsimp only
    clear hA
    go_enter Tryd.func13, Tryd.ntmps13
    go_wp2_with fail
    refine HC.out.mono ?_
    rintro e w3 ⟨rfl, hb3⟩
    have HB3 : Hid (Below w.heap.size w w3) := hb3
    clear hb3
    go_wp2_with fail
    refine (HS.out _).mono ?_
    rintro e w4 ⟨rfl, hb4⟩
    have HB4 : Hid (Below w.heap.size w w4) := bel_trans HB3.out hb4
    clear hb4
    go_wp2_with fail
    refine (HL.out _).mono ?_
    rintro e w5 ⟨v, rfl, ho, hb5⟩
    have HB5 : Hid (Below w.heap.size w w5) := bel_trans HB4.out hb5
    have HO : Hid (OwnS w.heap.size v t w5) := ho.lower HB4.out.size
    obtain ⟨va, vc, rfl⟩ := ho.form
    clear hb5 ho
    by_cases hz : er = 0
    · subst hz
      go_wp2
      go_ret2
      exact ⟨_, rfl, (fun _ => HO.out), HB5.out⟩
    · have hz' : (er == 0) = false := by simp [hz]
      have HQ : Hid ((decide (er = 0) && decide (0 < t.length)) = false) := (by simp [hz] : (decide (er = 0) && decide (0 < t.length)) = false)
      go_wp2
      go_ret2
      rw [HQ.out]
      exact ⟨_, rfl, (fun _ => HO.out), HB5.out⟩
  · rw [if_neg hA]
    rw [decide_eq_false hA] at HS
    dsimp only
    clear hA
    go_enter Tryd.func13, Tryd.ntmps13
    go_wp2_with fail
    refine HC.out.mono ?_
    rintro e w3 ⟨rfl, hb3⟩
    have HB3 : Hid (Below w.heap.size w w3) := hb3
    clear hb3
    go_wp2_with fail
    refine (HS.out _).mono ?_
    rintro e w4 ⟨rfl, hb4⟩
    have HB4 : Hid (Below w.heap.size w w4) := bel_trans HB3.out hb4
    clear hb4
    go_wp2
    go_ret2
    exact ⟨_, rfl, (fun h => by cases h), HB4.out⟩

end Sn
end Go.Proofs.YtfoepegndoippaaDoor

/-
  span.Parse, Cut; awake.
-/
set_option linter.unusedVariables false
set_option linter.unusedSimpArgs false
namespace Go.Proofs.YtfoepegndoippaaDoor
open Go.RowKit Go.Shelf
namespace Sn
open Oc Tg Ac

set_option maxRecDepth 100000 in
set_option maxHeartbeats 4000000 in
theorem Parse_any (s : ByteArray) (hs : s.size ≤ 1048576) (size : Int) (z0 : -9223372036854775808 ≤ size) (z1 : size ≤ 9223372036854775807) (w : World) (hw : ML w) :
    Calls Tryd.prog 7 #[.string s, .int .i64 size] w fun e w' => ∃ v, e = .returned (.tuple #[v, .int .i64 (parR s.data.toList size).2]) ∧ OwnN 32 w.heap.size v (parR s.data.toList size).1 w' ∧ Below w.heap.size w w' := by
  by_cases hneg : size < 0
  · have HP : Hid (parR s.data.toList size = ([], 1)) := (by unfold parR; rw [if_pos hneg] : parR s.data.toList size = ([], 1))
    clear hw
    go_enter Tryd.func7, Tryd.ntmps7
    go_wp2
    go_ret2
    rw [HP.out]
    exact ⟨_, rfl, ownN_nil _ _ _, Below.refl _ _⟩
  · have hpos : 0 ≤ size := by omega
    have HP1 : Hid ((elR s.data.toList).2 = false → parR s.data.toList size = ([], 90)) := (fun h => by unfold parR; rw [if_neg hneg, if_pos h] : _ → parR s.data.toList size = _)
    have HP2 : Hid ((elR s.data.toList).2 = true → parR s.data.toList size = ansR size (elR s.data.toList).1) := (fun h => by unfold parR; rw [if_neg hneg, if_neg (by rw [h]; simp)] : _ → parR s.data.toList size = _)
    have HR : Hid (Calls _ _ _ _ _) := rangeElements_any s hs w hw
    have hel : (elR s.data.toList).1.length ≤ 1048577 ∧ ∀ x ∈ (elR s.data.toList).1, x.length ≤ 1048576 := by
      unfold elR
      have l := listR_short (cutB 61 s.data.toList)
      have lB := cutB_len 61 s.data.toList
      rw [size_list] at lB
      split
      · exact ⟨by have := l.1; dsimp only; omega, fun x hx => by have := l.2 x hx; omega⟩
      · simp
    have HE : Hid (ML w) := hw
    clear hw hneg
    generalize parR s.data.toList size = PR at *
    generalize elR s.data.toList = ER at *
    obtain ⟨t, ok⟩ := ER
    dsimp only at *
    obtain ⟨htl, hsh⟩ := hel
    have HSh : Hid (∀ x ∈ t, x.length ≤ 1048576) := hsh
    clear hsh
    cases ok with
    | false =>
      have HPR := HP1.out rfl
      clear HP1 HP2
      have HPR' : Hid (PR = ([], 90)) := HPR
      clear HPR
      go_enter Tryd.func7, Tryd.ntmps7
      go_wp2_with fail
      refine HR.out.mono ?_
      rintro e w2 ⟨v, rfl, ho, hb2⟩
      have HB2 : Hid (Below w.heap.size w w2) := hb2
      clear ho hb2
      go_wp2
      go_ret2
      rw [HPR'.out]
      exact ⟨_, rfl, ownN_nil _ _ _, HB2.out⟩
    | true =>
      have HW : Hid (PR = ansR size t) := HP2.out rfl
      clear HP1 HP2
      go_enter Tryd.func7, Tryd.ntmps7
      go_wp2_with fail
      refine HR.out.mono ?_
      rintro e w2 ⟨v, rfl, ho, hb2⟩
      replace ho := ho trivial
      have HB2 : Hid (Below w.heap.size w w2) := hb2
      have HE2 : Hid (ML w2) := HE.out.below hb2
      have HR2 : Hid (RdS v t w2) := OwnS.rd ho
      have hz2 := hb2.size
      obtain ⟨va, vc, rfl⟩ := OwnS.form ho
      clear ho hb2 HR
      go_wp2
      go_loopw [8, 24] (fun lv iv wr => ∃ k : Nat, k ≤ t.length ∧ iv = .int .i64 k ∧ Hid (∀ j, j < k → (askP (t.getD j []) size).2 = true) ∧ Hid (OwnN 32 w2.heap.size lv ((t.take k).filterMap (keepN size)) wr) ∧ Hid (Below w2.heap.size w2 wr)) (fun _ iv _ => t.length - (intOf iv).toNat)
      case atStart => exact ⟨0, Nat.zero_le _, rfl, (fun j hj => by omega : ∀ j, j < 0 → _), ownN_nil _ _ _, Below.refl _ _⟩
      case round =>
        obtain ⟨k, hk, rfl, hall, hown, hbl⟩ := hrel
        by_cases hlt : k < t.length
        · have hsz := hbl.out.size
          obtain ⟨a', c', e', hcs⟩ := HR2.out.below hbl.out
          injection e' with e1 _ e2
          subst e1 e2
          rcases hcs with h | ⟨g, o, rfl, hlc, hcell⟩
          · rw [h] at hlt; simp at hlt
          have p0 := hcell k hlt
          clear hcell
          have hxl := getD_short HSh.out k hlt
          have HRW : Hid (∀ w, ML w → Calls Tryd.prog 14 #[.string (str (t.getD k [])), .int .i64 size] w fun e w' => e = .returned (.tuple #[.agg #[.int .i64 (askP (t.getD k []) size).1.1, .int .i64 (askP (t.getD k []) size).1.2], .bool (askP (t.getD k []) size).2]) ∧ Below w.heap.size w w') := fun w h => by
            have := asked_any (str (t.getD k [])) (by rw [str_size]; omega) size hpos z1 w h
            rw [str_list] at this
            exact this
          have HErr : Hid ((askP (t.getD k []) size).2 = false → PR = ([], 90)) := (fun h => by rw [HW.out]; exact ansR_bad k hlt h : _ → PR = _)
          have HNext : Hid ((askP (t.getD k []) size).2 = true → ∀ j, j < k + 1 → (askP (t.getD j []) size).2 = true) := (fun h j hj => by
            by_cases hjk : j = k
            · subst hjk; exact h
            · exact hall.out j (by omega) : _ → ∀ j, _)
          have HTk : Hid ((t.take (k + 1)).filterMap (keepN size) = (t.take k).filterMap (keepN size) ++ (keepN size (t.getD k [])).toList) := take_keep size t k hlt
          have hlk : ((t.take k).filterMap (keepN size)).length + 1 ≤ 2147483648 := by have := keep_len size t k; omega
          have HKN : Hid (keepN size (t.getD k []) = if emp (wth (askP (t.getD k []) size).1 size) then none else some (wth (askP (t.getD k []) size).1 size)) := (rfl : keepN size (t.getD k []) = _)
          generalize keepN size (t.getD k []) = KN at *
          generalize (t.take k).filterMap (keepN size) = acc at *
          generalize hK1 : askP (t.getD k []) size = W1 at *
          obtain ⟨⟨x1, x2⟩, xo⟩ := W1
          dsimp only at *
          clear hK1
          generalize str (t.getD k []) = X at *
          have HWI : Hid (∀ W, Calls _ _ _ W _) := fun W => within_any x1 x2 size W
          generalize wth (x1, x2) size = Y at *
          obtain ⟨y1, y2⟩ := Y
          dsimp only at *
          have HEM : Hid (∀ W, Calls _ _ _ W _) := fun W => isEmpty_any y1 y2 W
          generalize emp (y1, y2) = em at *
          go_wp2_with fail
          refine (HRW.out _ (HE2.out.below hbl.out)).mono ?_
          rintro e w5 ⟨rfl, hb5⟩
          have HB5 : Hid (Below w2.heap.size w2 w5) := bel_trans hbl.out hb5
          have HO5 : Hid (OwnN 32 w2.heap.size _ acc w5) := hown.out.below hb5
          clear hb5
          obtain ⟨w6, hw6⟩ : ∃ w6, w6 = w5.alloc (.cells #[.int .i64 x1, .int .i64 x2] 32) := ⟨_, rfl⟩
          have HPB : Hid (PB 32 w6 w5.heap.size (x1, x2)) := (by rw [hw6]; exact PB.new _ w5 (x1, x2) : PB _ _ _ _)
          have HB56 : Hid (Below w5.heap.size w5 w6) := (by rw [hw6]; exact (Below.refl _ w5).alloc (Nat.le_refl _) _ : Below _ _ _)
          have hz5 := HB5.out.size
          cases xo with
          | false =>
            have HWr : Hid (PR = ([], 90)) := HErr.out rfl
            go_wp2
            rw [← hw6]
            go_ret2
            rw [HWr.out]
            exact ⟨_, rfl, ownN_nil _ _ _, HB2.out.trans ((bel_trans HB5.out HB56.out).mono hz2)⟩
          | true =>
            have HN2 := HNext.out rfl
            have HN2' : Hid (∀ j, j < k + 1 → (askP (t.getD j []) size).2 = true) := HN2
            clear HN2 HErr HNext
            have q0 := HPB.out.c0
            have q1 := HPB.out.c1
            generalize hg : w5.heap.size = g5 at *
            go_wp2_with fail
            rw [← hw6]
            clear hw6
            refine (HWI.out _).mono ?_
            rintro e w7 ⟨rfl, hb7⟩
            have hp7 := HPB.out.below hb7
            have r0 := hp7.c0
            have r1 := hp7.c1
            have f0 := hp7.f 0
            have f1 := hp7.f 1
            have hl7 := hp7.lt
            obtain ⟨w8, hw8⟩ : ∃ w8, w8 = (w7.setCell ⟨g5, 0, none⟩ (.int .i64 y1)).setCell ⟨g5, 1, none⟩ (.int .i64 y2) := ⟨_, rfl⟩
            have HP8 : Hid (PB 32 w8 g5 (y1, y2)) := (by rw [hw8]; exact hp7.set y1 y2 : PB _ _ _ _)
            have HB58 : Hid (Below w5.heap.size w5 w8) := (by
              rw [hw8, hg]
              have h := HB56.out.trans (hb7.mono (by have := HPB.out.lt; omega))
              exact (h.setCell (Nat.le_refl _) _).setCell (Nat.le_refl _) _ : Below _ _ _)
            have s0 := HP8.out.c0
            have s1 := HP8.out.c1
            clear hp7 hb7
            go_wp2_with fail
            rw [← hw8]
            clear hw8
            refine (HEM.out _).mono ?_
            rintro e w9 ⟨rfl, hb9⟩
            have hp9 := HP8.out.below hb9
            have t0 := hp9.c0
            have t1 := hp9.c1
            have HB59 : Hid (Below w5.heap.size w5 w9) := bel_trans HB58.out hb9
            have HB9 : Hid (Below w2.heap.size w2 w9) := bel_trans HB5.out HB59.out
            have HO9 : Hid (OwnN 32 w2.heap.size _ acc w9) := HO5.out.below HB59.out
            have hz9 := HB9.out.size
            clear hp9 hb9
            cases em with
            | true =>
              have HT2 : Hid ((t.take (k + 1)).filterMap (keepN size) = acc) := (by rw [HTk.out, HKN.out]; simp : (t.take (k + 1)).filterMap (keepN size) = acc)
              clear HTk HKN
              go_wp2
              go_roundw
              case rel => exact ⟨k + 1, by omega, by go_num, HN2', (by rw [HT2.out]; exact HO9.out : OwnN _ _ _ _ _), HB9⟩
              case measure => simp [intOf]; omega
            | false =>
              have HT2 : Hid ((t.take (k + 1)).filterMap (keepN size) = acc ++ [(y1, y2)]) := (by rw [HTk.out, HKN.out]; simp : (t.take (k + 1)).filterMap (keepN size) = acc ++ [(y1, y2)])
              clear HTk HKN
              go_wp2_with (at_builtin; go_must (refine wp_appN 32 25 infoN Tryd.underlying25 rfl (.tmp 42) (.tmp 44) rfl w2.heap.size _ acc _ (y1, y2) _ _ rfl rfl (by simp [Act.eval, Act.put]) HO9.out _ (by simp [Act.eval, Act.put]) rfl hlk hz9 ?_; intro va7 wa7 hown7 hb7))
              have HO7 : Hid (OwnN 32 w2.heap.size va7 ((t.take (k + 1)).filterMap (keepN size)) wa7) := (by rw [HT2.out]; exact hown7 : OwnN _ _ _ _ _)
              have HB7 : Hid (Below w2.heap.size w2 wa7) := HB9.out.trans hb7
              clear hown7 hb7
              go_wp2
              go_roundw
              case rel => exact ⟨k + 1, by omega, by go_num, HN2', HO7, HB7⟩
              case measure => simp [intOf]; omega
        · obtain rfl : k = t.length := by omega
          have HWr : Hid (PR = (if (t.filterMap (keepN size)).length = 0 then ([], 91) else (t.filterMap (keepN size), 0))) := (by rw [HW.out]; exact ansR_ok hall.out : PR = _)
          rw [List.take_length] at hown
          generalize t.filterMap (keepN size) = acc at *
          obtain ⟨la, lc, rfl⟩ := hown.out.form
          by_cases hz : acc.length = 0
          · have hz' : ((acc.length : Int) == 0) = true := by rw [beq_iff_eq]; omega
            have HWs : Hid (PR = ([], 91)) := (by rw [HWr.out, if_pos hz] : PR = _)
            clear HWr hz
            go_wp2
            go_ret2
            rw [HWs.out]
            exact ⟨_, rfl, ownN_nil _ _ _, HB2.out.trans (hbl.out.mono hz2)⟩
          · have hz' : ((acc.length : Int) == 0) = false := by rw [beq_eq_false_iff_ne]; omega
            have HWs : Hid (PR = (acc, 0)) := (by rw [HWr.out, if_neg hz] : PR = _)
            clear HWr
            go_wp2
            go_ret2
            rw [HWs.out]
            exact ⟨_, rfl, hown.out.mono hz2, HB2.out.trans (hbl.out.mono hz2)⟩

end Sn
end Go.Proofs.YtfoepegndoippaaDoor

/-
  span, plainly: where a sign stands first; the unit.
-/
set_option linter.unusedVariables false
set_option linter.unusedSimpArgs false
namespace Go.Proofs.YtfoepegndoippaaDoor
open Go.RowKit Go.Shelf
namespace Sn
open Oc Tg Ac

theorem byte_eq {c : UInt8} {n : Nat} (hn : n < 256) (h : (c.toNat : Int) = n) : c = UInt8.ofNat n := by
  apply UInt8.toNat.inj
  rw [UInt8.toNat_ofNat']
  omega
theorem byte_ne {c : UInt8} {n : Nat} (hn : n < 256) (h : (c.toNat : Int) ≠ n) : c ≠ UInt8.ofNat n := by
  intro e
  apply h
  rw [e, UInt8.toNat_ofNat']
  omega
theorem first_at (b : UInt8) : ∀ (l : List UInt8) (j : Nat), j < l.length → l.getD j 0 = b → (∀ i, i < j → l.getD i 0 ≠ b) → has b l = true ∧ cutA b l = l.take j ∧ cutB b l = l.drop (j + 1)
  | [], j, h, _, _ => by simp at h
  | c :: t, 0, _, h, _ => by
    have h' : c = b := h
    subst h'
    simp [has, cutA, cutB]
  | c :: t, j + 1, hj, h, hn => by
    have hc : c ≠ b := hn 0 (by omega)
    have ih := first_at b t j (by simpa using hj) (by simpa using h) (fun i hi => by have := hn (i + 1) (by omega); simpa using this)
    obtain ⟨i1, i2, i3⟩ := ih
    have e1 : cutA b (c :: t) = c :: cutA b t := by simp [cutA, hc]
    have e2 : cutB b (c :: t) = cutB b t := by simp [cutB, hc]
    refine ⟨?_, by rw [e1, i2]; simp, by rw [e2, i3]; simp⟩
    unfold has at *
    simp at i1 ⊢
    exact .inr i1
theorem none_at (b : UInt8) (l : List UInt8) (h : ∀ i, i < l.length → l.getD i 0 ≠ b) : has b l = false := by
  unfold has
  rw [Bool.eq_false_iff]
  intro hc
  rw [List.contains_iff_mem] at hc
  obtain ⟨k, hk, rfl⟩ := List.mem_iff_getElem.1 hc
  have := h k hk
  rw [List.getD_eq_getElem?_getD, List.getElem?_eq_getElem hk] at this
  exact this rfl

theorem low61n : ∀ n : Nat, n < 256 → lowB (UInt8.ofNat n) = 61 → n = 61 := by decide +kernel
theorem low61 (c : UInt8) (h : lowB c = 61) : c = 61 := by
  have h1 := c.toNat_lt
  have h2 : UInt8.ofNat c.toNat = c := by simp
  have := low61n c.toNat h1 (by rw [h2]; exact h)
  rw [← h2, this]
  rfl
theorem listR_nil : listR [] = ([], 0) := by decide +kernel
theorem lower_len (l : List UInt8) : (lower l).length = l.length := by simp [lower]
theorem elR_of_no {l : List UInt8} (h : has 61 l = false) : (elR l).2 = false := by
  unfold elR
  split
  · rw [cutB_none 61 l h, listR_nil]; rfl
  · rfl
theorem elR_short {l : List UInt8} (h : l.length < 6) : (elR l).2 = false := by
  cases hh : has 61 l with
  | false => exact elR_of_no hh
  | true =>
    unfold elR
    rw [if_neg]
    intro e
    have h1 := congrArg List.length e
    rw [lower_len] at h1
    have h2 := congrArg List.length (cut_app 61 l hh)
    simp at h1 h2
    omega
theorem elR_not {l : List UInt8} (h : lower (l.take 6) ≠ [98, 121, 116, 101, 115, 61]) : (elR l).2 = false := by
  cases hh : has 61 l with
  | false => exact elR_of_no hh
  | true =>
    unfold elR
    rw [if_neg]
    intro e
    apply h
    have h2 := cut_app 61 l hh
    have h1 := congrArg List.length e
    rw [lower_len] at h1
    have h3 : l.take 6 = cutA 61 l ++ [61] := by
      conv => lhs; rw [← h2]
      rw [List.take_append]
      rw [List.take_of_length_le (by rw [h1]; decide), h1]
      rfl
    rw [h3]
    unfold lower at e ⊢
    rw [List.map_append, e]
    decide +kernel
theorem elR_yes {l : List UInt8} (hl : 6 ≤ l.length) (h : lower (l.take 6) = [98, 121, 116, 101, 115, 61]) : elR l = ((listR (l.drop 6)).1, decide ((listR (l.drop 6)).2 = 0) && decide (0 < (listR (l.drop 6)).1.length)) := by
  obtain ⟨c0, l, rfl⟩ : ∃ c t, l = c :: t := by cases l with | nil => simp at hl | cons c t => exact ⟨c, t, rfl⟩
  obtain ⟨c1, l, rfl⟩ : ∃ c t, l = c :: t := by cases l with | nil => simp at hl | cons c t => exact ⟨c, t, rfl⟩
  obtain ⟨c2, l, rfl⟩ : ∃ c t, l = c :: t := by cases l with | nil => simp at hl | cons c t => exact ⟨c, t, rfl⟩
  obtain ⟨c3, l, rfl⟩ : ∃ c t, l = c :: t := by cases l with | nil => simp at hl | cons c t => exact ⟨c, t, rfl⟩
  obtain ⟨c4, l, rfl⟩ : ∃ c t, l = c :: t := by cases l with | nil => simp at hl | cons c t => exact ⟨c, t, rfl⟩
  obtain ⟨c5, l, rfl⟩ : ∃ c t, l = c :: t := by cases l with | nil => simp at hl | cons c t => exact ⟨c, t, rfl⟩
  simp [lower] at h
  obtain ⟨h0, h1, h2, h3, h4, h5⟩ := h
  have n : ∀ (c d : UInt8), lowB c = d → d ≠ 61 → c ≠ 61 := fun c d e1 e2 e3 => by subst e3; exact e2 (e1.symm.trans (by decide +kernel))
  have m0 := n c0 _ h0 (by decide)
  have m1 := n c1 _ h1 (by decide)
  have m2 := n c2 _ h2 (by decide)
  have m3 := n c3 _ h3 (by decide)
  have m4 := n c4 _ h4 (by decide)
  have m5 := low61 c5 h5
  subst m5
  have eA : cutA 61 (c0 :: c1 :: c2 :: c3 :: c4 :: 61 :: l) = [c0, c1, c2, c3, c4] := by simp [cutA, m0, m1, m2, m3, m4]
  have eB : cutB 61 (c0 :: c1 :: c2 :: c3 :: c4 :: 61 :: l) = l := by simp [cutB, m0, m1, m2, m3, m4]
  unfold elR
  rw [eA, eB, if_pos (by simp [lower, h0, h1, h2, h3, h4])]
  rfl
theorem parR_ref {l : List UInt8} {size : Int} (h : 0 ≤ size) : (elR l).2 = false → parR l size = ([], 90) := fun hh => by unfold parR; rw [if_neg (by omega), if_pos hh]

end Sn
end Go.Proofs.YtfoepegndoippaaDoor
