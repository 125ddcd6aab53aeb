/-
  span: plain, readExtent, Told.
-/
import Derived.Test.YthdfgepnadgkjaaGreatDoorZzL
set_option linter.unusedVariables false
set_option linter.unusedSimpArgs false
namespace Go.Proofs.YthdfgepnadgkjaaGreatDoor
open Go.RowKit Go.Shelf
open Go.Sort (grow alloc_eq_grow grow_grow grow_empty)
namespace Sn
open Oc Tg Ac

set_option maxRecDepth 100000 in
set_option maxHeartbeats 1000000 in
theorem plain_any (s : ByteArray) (hs : s.size ≤ 4000000000) (w : World) (hp : Pow w) :
    Calls Tryz.prog 102 #[.string s] w fun e w' => e = .returned (.tuple #[.int .i64 (pln s.data.toList).1, .bool (pln s.data.toList).2]) ∧ Below w.heap.size w w' := by
  have HD : Hid (Calls _ _ _ _ _) := Decimal_any s (by unfold maxLen; omega) 4611686018427387904 (by omega) (by omega) w
  have hbd := numR_bd s.data.toList 4611686018427387904 (by omega)
  have HI : Hid (∀ W, Below w.heap.size w W → Calls _ _ _ W _) := fun W hb => Digits_any (numR 10 s.data.toList 4611686018427387904).1 (by omega) (by omega) W (Oc.Pow.below hp hb (Nat.le_refl _))
  have HQ : Hid (((str (Lib.itoa (numR 10 s.data.toList 4611686018427387904).1)).toList == s.toList) = decide (Lib.itoa (numR 10 s.data.toList 4611686018427387904).1 = s.data.toList)) := (by
    rw [eq_toList, decide_eq_decide]
    exact ⟨fun h => (str_list _).symm.trans (congrArg (fun x : ByteArray => x.data.toList) h), fun h => by rw [h, str_self]⟩ : _ = _)
  unfold pln
  clear hp
  generalize Lib.itoa (numR 10 s.data.toList 4611686018427387904).1 = IT at *
  generalize numR 10 s.data.toList 4611686018427387904 = R at *
  obtain ⟨n, er⟩ := R
  dsimp only at *
  generalize str IT = D at *
  rw [← HQ.out]
  clear HQ
  by_cases h : er = 0
  · subst h
    go_enter Tryz.func102, Tryz.ntmps102
    go_wp2_with fail
    refine HD.out.mono ?_
    rintro e w2 ⟨rfl, hb⟩
    have HB : Hid (Below w.heap.size w w2) := hb
    clear hb
    go_wp2_with fail
    refine (HI.out _ HB.out).mono ?_
    rintro e w3 ⟨rfl, hb⟩
    have HB3 : Hid (Below w.heap.size w w3) := bel_trans HB.out hb
    clear hb
    go_wp2
    go_ret2
    exact ⟨by simp, HB3.out⟩
  · have he : (er == 0) = false := by simp [h]
    have hq : (decide (er = 0) && (D.toList == s.toList)) = false := by simp [h]
    rw [hq]
    clear hq
    go_enter Tryz.func102, Tryz.ntmps102
    go_wp2_with fail
    refine HD.out.mono ?_
    rintro e w2 ⟨rfl, hb⟩
    have HB : Hid (Below w.heap.size w w2) := hb
    clear hb
    go_wp2
    go_ret2
    exact ⟨rfl, HB.out⟩

set_option maxRecDepth 100000 in
set_option maxHeartbeats 1000000 in
theorem readExtent_any (s : ByteArray) (hs : s.size ≤ 4000000000) (w : World) (hw : ML w) (hp : Pow w) :
    Calls Tryz.prog 101 #[.string s] w fun e w' => e = .returned (.tuple #[.agg #[.int .i64 (exP s.data.toList).1.1, .int .i64 (exP s.data.toList).1.2], .bool (exP s.data.toList).2]) ∧ Below w.heap.size w w' := by
  obtain ⟨w1, hw1⟩ : ∃ w1, w1 = w.alloc (.cells #[.int .i64 0, .int .i64 0] 38) := ⟨_, rfl⟩
  have y1 : w1.heap.size = w.heap.size + 1 := by rw [hw1]; simp
  have HA : Hid (PB 38 w1 w.heap.size (0, 0)) := (by rw [hw1]; exact heap_alloc_new w _ : PB _ _ _ _)
  have HB : Hid (Below w.heap.size w w1) := (by rw [hw1]; exact (Below.refl _ w).alloc (Nat.le_refl _) _ : Below _ _ _)
  have HC : Hid (Calls _ _ _ _ _) := Cut_one s 45 hs w1 (hw.below HB.out)
  have lA := cutA_len 45 s.data.toList
  have lB := cutB_len 45 s.data.toList
  rw [size_list] at lA lB
  have HNA : Hid (∀ W, Below w.heap.size w W → Calls Tryz.prog 102 #[.string (str (cutA 45 s.data.toList))] W fun e w' => e = .returned (.tuple #[.int .i64 (pln (cutA 45 s.data.toList)).1, .bool (pln (cutA 45 s.data.toList)).2]) ∧ Below W.heap.size W w') := fun W hb => by
    have := plain_any (str (cutA 45 s.data.toList)) (by rw [str_size]; omega) W (Oc.Pow.below hp hb (Nat.le_refl _))
    rw [str_list] at this
    exact this
  have HNB : Hid (∀ W, Below w.heap.size w W → Calls Tryz.prog 102 #[.string (str (cutB 45 s.data.toList))] W fun e w' => e = .returned (.tuple #[.int .i64 (pln (cutB 45 s.data.toList)).1, .bool (pln (cutB 45 s.data.toList)).2]) ∧ Below W.heap.size W w') := fun W hb => by
    have := plain_any (str (cutB 45 s.data.toList)) (by rw [str_size]; omega) W (Oc.Pow.below hp hb (Nat.le_refl _))
    rw [str_list] at this
    exact this
  clear hw lA lB hp
  obtain ⟨a0, a1⟩ := pln_bd (cutA 45 s.data.toList)
  obtain ⟨b0, b1⟩ := pln_bd (cutB 45 s.data.toList)
  unfold exP
  generalize pln (cutA 45 s.data.toList) = NA at *
  generalize pln (cutB 45 s.data.toList) = NB at *
  generalize has 45 s.data.toList = h45 at *
  generalize str (cutA 45 s.data.toList) = SA at *
  generalize str (cutB 45 s.data.toList) = SB at *
  obtain ⟨na, oa⟩ := NA
  obtain ⟨nb, ob⟩ := NB
  dsimp only at *
  go_enter Tryz.func101, Tryz.ntmps101
  go_wp2_with fail
  rw [← hw1]
  clear hw1
  refine HC.out.mono ?_
  rintro e w3 ⟨rfl, hb3⟩
  have HA3 : Hid (PB _ _ _ _) := HA.out.below hb3
  have HB3 : Hid (Below w.heap.size w w3) := HB.out.trans (hb3.mono (by omega))
  clear hb3
  go_wp2_with fail
  refine (HNA.out _ HB3.out).mono ?_
  rintro e w4 ⟨rfl, hb4⟩
  have HA4 : Hid (PB _ _ _ _) := HA3.out.below hb4
  have HB4 : Hid (Below w.heap.size w w4) := bel_trans HB3.out hb4
  clear hb4
  go_wp2_with fail
  refine (HNB.out _ HB4.out).mono ?_
  rintro e w5 ⟨rfl, hb5⟩
  have ha := HA4.out.below hb5
  have q0 := ha.c0
  have q1 := ha.c1
  have g0 := ha.f 0
  have g1 := ha.f 1
  have HB5 : Hid (Below w.heap.size w w5) := bel_trans HB4.out hb5
  clear ha hb5
  cases oa <;> cases ob
  all_goals
    go_wp2
    refine bodyPost_ret (v := .tuple #[.agg #[.int .i64 na, .int .i64 (nb + 1)], .bool _]) (by simp [results, Tryz.results101, go_sem, q0, q1]; rfl) rfl ?_
    refine ⟨by simp, ?_⟩
    repeat (first | exact HB5.out | refine Below.setCell ?_ (by simp) _ | refine Below.alloc ?_ (by simp; have := HB5.out.size; omega) _)

set_option maxRecDepth 100000 in
set_option maxHeartbeats 4000000 in
theorem Told_any (s : ByteArray) (hs : s.size ≤ 4000000000) (w : World) (hw : ML w) (hp : Pow w) :
    Calls Tryz.prog 84 #[.string s] w fun e w' => e = .returned (.tuple #[.agg #[.int .i64 (tolR s.data.toList).1.1, .int .i64 (tolR s.data.toList).1.2], .int .i64 (tolR s.data.toList).2.1, .int .i64 (tolR s.data.toList).2.2]) ∧ Below w.heap.size w w' := by
  obtain ⟨w1, hw1⟩ : ∃ w1, w1 = w.alloc (.cells #[.int .i64 0, .int .i64 0] 38) := ⟨_, rfl⟩
  have y1 : w1.heap.size = w.heap.size + 1 := by rw [hw1]; simp
  have HA : Hid (PB 38 w1 w.heap.size (0, 0)) := (by rw [hw1]; exact heap_alloc_new w _ : PB _ _ _ _)
  have HB : Hid (Below w.heap.size w w1) := (by rw [hw1]; exact (Below.refl _ w).alloc (Nat.le_refl _) _ : Below _ _ _)
  have HC : Hid (Calls _ _ _ _ _) := Cut_one s 32 hs w1 (hw.below HB.out)
  have l1 := cutB_len 32 s.data.toList
  have l2 := cutA_len 47 (cutB 32 s.data.toList)
  have l3 := cutB_len 47 (cutB 32 s.data.toList)
  rw [size_list] at l1
  have HC2 : Hid (∀ W, Below w.heap.size w W → Calls Tryz.prog 36 #[.string (str (cutB 32 s.data.toList)), .string ⟨#[47]⟩] W fun e w' => e = .returned (.tuple #[.string (str (cutA 47 (cutB 32 s.data.toList))), .string (str (cutB 47 (cutB 32 s.data.toList))), .bool (has 47 (cutB 32 s.data.toList))]) ∧ Below W.heap.size W w') := fun W hb => by
    have := Cut_one (str (cutB 32 s.data.toList)) 47 (by rw [str_size]; omega) W (hw.below hb)
    rw [str_list] at this
    exact this
  have HX : Hid (∀ W, Below w.heap.size w W → Calls Tryz.prog 101 #[.string (str (cutA 47 (cutB 32 s.data.toList)))] W fun e w' => e = .returned (.tuple #[.agg #[.int .i64 (exP (cutA 47 (cutB 32 s.data.toList))).1.1, .int .i64 (exP (cutA 47 (cutB 32 s.data.toList))).1.2], .bool (exP (cutA 47 (cutB 32 s.data.toList))).2]) ∧ Below W.heap.size W w') := fun W hb => by
    have := readExtent_any (str (cutA 47 (cutB 32 s.data.toList))) (by rw [str_size]; omega) W (hw.below hb) (Oc.Pow.below hp hb (Nat.le_refl _))
    rw [str_list] at this
    exact this
  have HN : Hid (∀ W, Below w.heap.size w W → Calls Tryz.prog 102 #[.string (str (cutB 47 (cutB 32 s.data.toList)))] W fun e w' => e = .returned (.tuple #[.int .i64 (pln (cutB 47 (cutB 32 s.data.toList))).1, .bool (pln (cutB 47 (cutB 32 s.data.toList))).2]) ∧ Below W.heap.size W w') := fun W hb => by
    have := plain_any (str (cutB 47 (cutB 32 s.data.toList))) (by rw [str_size]; omega) W (Oc.Pow.below hp hb (Nat.le_refl _))
    rw [str_list] at this
    exact this
  have eq1 : ∀ (l k : List UInt8), ((str l).toList == k) = decide (l = k) := fun l k => by
    rw [ByteArray.toList_eq, str_list, Bool.eq_iff_iff]
    simp
  have HTR : Hid (tolR s.data.toList = if cutA 32 s.data.toList = [98, 121, 116, 101, 115] then tolS (cutB 32 s.data.toList) else ((0, 0), 0, 90)) := (rfl : tolR s.data.toList = _)
  have E0 := eq1 (cutA 32 s.data.toList) [98, 121, 116, 101, 115]
  have E1 := eq1 (cutB 47 (cutB 32 s.data.toList)) [42]
  have E2 := eq1 (cutA 47 (cutB 32 s.data.toList)) [42]
  have HTS : Hid (tolS (cutB 32 s.data.toList) = if ((exP (cutA 47 (cutB 32 s.data.toList))).2 && (pln (cutB 47 (cutB 32 s.data.toList))).2) && isSp (exP (cutA 47 (cutB 32 s.data.toList))).1 (pln (cutB 47 (cutB 32 s.data.toList))).1 then ((exP (cutA 47 (cutB 32 s.data.toList))).1, (pln (cutB 47 (cutB 32 s.data.toList))).1, 0)
    else if (exP (cutA 47 (cutB 32 s.data.toList))).2 && decide (cutB 47 (cutB 32 s.data.toList) = [42]) then ((exP (cutA 47 (cutB 32 s.data.toList))).1, -1, 0)
    else if decide (cutA 47 (cutB 32 s.data.toList) = [42]) && (pln (cutB 47 (cutB 32 s.data.toList))).2 then ((0, 0), (pln (cutB 47 (cutB 32 s.data.toList))).1, 0)
    else ((0, 0), 0, 90)) := (rfl : tolS (cutB 32 s.data.toList) = _)
  clear hw hp eq1 l1 l2 l3
  rw [← E1, ← E2] at HTS
  generalize tolS (cutB 32 s.data.toList) = TS at *
  generalize pln (cutB 47 (cutB 32 s.data.toList)) = PN at *
  generalize exP (cutA 47 (cutB 32 s.data.toList)) = EX at *
  generalize str (cutA 47 (cutB 32 s.data.toList)) = SP at *
  generalize str (cutB 47 (cutB 32 s.data.toList)) = SW at *
  generalize has 47 (cutB 32 s.data.toList) = h47 at *
  generalize str (cutB 32 s.data.toList) = SR at *
  generalize str (cutA 32 s.data.toList) = SU at *
  generalize has 32 s.data.toList = h32 at *
  obtain ⟨⟨x1, x2⟩, xo⟩ := EX
  obtain ⟨n, no⟩ := PN
  dsimp only at *
  have HIS : Hid (∀ W, Calls _ _ _ W _) := fun W => isSpan_gr x1 x2 n W
  generalize isSp (x1, x2) n = sp at *
  clear E1 E2
  generalize hS1 : (SW.toList == [42]) = b1 at *
  generalize hS2 : (SP.toList == [42]) = b2 at *
  by_cases hU : cutA 32 s.data.toList = [98, 121, 116, 101, 115]
  · rw [if_pos hU] at HTR
    rw [decide_eq_true hU] at E0
    clear hU
    go_enter Tryz.func84, Tryz.ntmps84
    go_wp2_with fail
    rw [← hw1]
    clear hw1
    refine HC.out.mono ?_
    rintro e w3 ⟨rfl, hb3⟩
    have HA3 : Hid (PB _ _ _ _) := HA.out.below hb3
    have HB3 : Hid (Below w.heap.size w w3) := HB.out.trans (hb3.mono (by omega))
    clear hb3
    go_wp2_with fail
    refine (HC2.out _ HB3.out).mono ?_
    rintro e w4 ⟨rfl, hb4⟩
    have HA4 : Hid (PB _ _ _ _) := HA3.out.below hb4
    have HB4 : Hid (Below w.heap.size w w4) := bel_trans HB3.out hb4
    clear hb4
    go_wp2_with fail
    refine (HX.out _ HB4.out).mono ?_
    rintro e w5 ⟨rfl, hb5⟩
    have HA5 : Hid (PB _ _ _ _) := HA4.out.below hb5
    have HB5 : Hid (Below w.heap.size w w5) := bel_trans HB4.out hb5
    clear hb5
    obtain ⟨w6, hw6⟩ : ∃ w6, w6 = w5.alloc (.cells #[.int .i64 x1, .int .i64 x2] 38) := ⟨_, rfl⟩
    have HPX : Hid (PB 38 w6 w5.heap.size (x1, x2)) := (by rw [hw6]; exact PB.new _ w5 (x1, x2) : PB _ _ _ _)
    have HA6 : Hid (PB 38 w6 w.heap.size (0, 0)) := (by rw [hw6]; exact HA5.out.alloc _ : PB _ _ _ _)
    have HB6 : Hid (Below w.heap.size w w6) := (by rw [hw6]; exact HB5.out.alloc HB5.out.size _ : Below _ _ _)
    have hne : w5.heap.size ≠ w.heap.size := by have := HA5.out.lt; omega
    generalize hgx : w5.heap.size = gx at *
    go_wp2_with fail
    rw [← hw6]
    clear hw6
    refine (HN.out _ HB6.out).mono ?_
    rintro e w7 ⟨rfl, hb7⟩
    have HX7 : Hid (PB _ _ _ _) := HPX.out.below hb7
    have HA7 : Hid (PB _ _ _ _) := HA6.out.below hb7
    have HB7 : Hid (Below w.heap.size w w7) := bel_trans HB6.out hb7
    clear hb7
    have q0 := HX7.out.c0
    have q1 := HX7.out.c1
    have t0 := HA7.out.c0
    have t1 := HA7.out.c1
    have g0 := HA7.out.f 0
    have g1 := HA7.out.f 1
    cases xo with
    | false =>
      cases b2 <;> cases no
      all_goals
        go_wp2
        refine bodyPost_ret (v := .tuple #[.agg #[.int .i64 0, .int .i64 0], .int .i64 _, .int .i64 _]) (by simp [results, Tryz.results84, go_sem, t0, t1]; exact ⟨rfl, rfl⟩) rfl ?_
        rw [HTR.out, HTS.out]
        refine ⟨rfl, ?_⟩
        repeat (first | exact HB7.out | refine Below.setCell ?_ (by simp) _)
    | true =>
      cases no with
      | true =>
        go_wp2_with fail
        refine (HIS.out _).mono ?_
        rintro e w8 ⟨rfl, hg⟩
        have hb8 := Grew.below hg
        have HX8 : Hid (PB _ _ _ _) := HX7.out.below hb8
        have HA8 : Hid (PB _ _ _ _) := HA7.out.below hb8
        have HB8 : Hid (Below w.heap.size w w8) := bel_trans HB7.out hb8
        clear hb8 hg q0 q1 t0 t1 g0 g1
        have q0 := HX8.out.c0
        have q1 := HX8.out.c1
        have t0 := HA8.out.c0
        have t1 := HA8.out.c1
        have g0 := HA8.out.f 0
        have g1 := HA8.out.f 1
        cases sp with
        | true =>
          go_wp2
          refine bodyPost_ret (v := .tuple #[.agg #[.int .i64 x1, .int .i64 x2], .int .i64 n, .int .i64 0]) (by simp [results, Tryz.results84, go_sem, t0, t1]) rfl ?_
          rw [HTR.out, HTS.out]
          refine ⟨rfl, ?_⟩
          repeat (first | exact HB8.out | refine Below.setCell ?_ (by simp) _)
        | false =>
          cases b1 with
          | true =>
            go_wp2
            refine bodyPost_ret (v := .tuple #[.agg #[.int .i64 x1, .int .i64 x2], .int .i64 (-1), .int .i64 0]) (by simp [results, Tryz.results84, go_sem, t0, t1]) rfl ?_
            rw [HTR.out, HTS.out]
            refine ⟨rfl, ?_⟩
            repeat (first | exact HB8.out | refine Below.setCell ?_ (by simp) _)
          | false =>
            cases b2
            all_goals
              go_wp2
              refine bodyPost_ret (v := .tuple #[.agg #[.int .i64 0, .int .i64 0], .int .i64 _, .int .i64 _]) (by simp [results, Tryz.results84, go_sem, t0, t1]; exact ⟨rfl, rfl⟩) rfl ?_
              rw [HTR.out, HTS.out]
              refine ⟨rfl, ?_⟩
              repeat (first | exact HB8.out | refine Below.setCell ?_ (by simp) _)
      | false =>
        cases b1 with
        | true =>
          go_wp2
          refine bodyPost_ret (v := .tuple #[.agg #[.int .i64 x1, .int .i64 x2], .int .i64 (-1), .int .i64 0]) (by simp [results, Tryz.results84, go_sem, t0, t1]) rfl ?_
          rw [HTR.out, HTS.out]
          refine ⟨rfl, ?_⟩
          repeat (first | exact HB7.out | refine Below.setCell ?_ (by simp) _)
        | false =>
          cases b2
          all_goals
            go_wp2
            refine bodyPost_ret (v := .tuple #[.agg #[.int .i64 0, .int .i64 0], .int .i64 _, .int .i64 _]) (by simp [results, Tryz.results84, go_sem, t0, t1]; exact ⟨rfl, rfl⟩) rfl ?_
            rw [HTR.out, HTS.out]
            refine ⟨rfl, ?_⟩
            repeat (first | exact HB7.out | refine Below.setCell ?_ (by simp) _)
  · rw [if_neg hU] at HTR
    rw [decide_eq_false hU] at E0
    clear hU
    go_enter Tryz.func84, Tryz.ntmps84
    go_wp2_with fail
    rw [← hw1]
    clear hw1
    refine HC.out.mono ?_
    rintro e w3 ⟨rfl, hb3⟩
    have HA3 : Hid (PB _ _ _ _) := HA.out.below hb3
    have HB3 : Hid (Below w.heap.size w w3) := HB.out.trans (hb3.mono (by omega))
    clear hb3
    go_wp2_with fail
    refine (HC2.out _ HB3.out).mono ?_
    rintro e w4 ⟨rfl, hb4⟩
    have HA4 : Hid (PB _ _ _ _) := HA3.out.below hb4
    have HB4 : Hid (Below w.heap.size w w4) := bel_trans HB3.out hb4
    clear hb4
    have t0 := HA4.out.c0
    have t1 := HA4.out.c1
    have g0 := HA4.out.f 0
    have g1 := HA4.out.f 1
    go_wp2
    refine bodyPost_ret (v := .tuple #[.agg #[.int .i64 0, .int .i64 0], .int .i64 0, .int .i64 90]) (by simp [results, Tryz.results84, go_sem, t0, t1]) rfl ?_
    rw [HTR.out]
    refine ⟨rfl, ?_⟩
    repeat (first | exact HB4.out | refine Below.setCell ?_ (by simp) _)

end Sn
end Go.Proofs.YthdfgepnadgkjaaGreatDoor
