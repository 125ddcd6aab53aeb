/-
  span: the document's strict, Told.
-/
import Derived.Test.YthdfgepnadgkjaaDoorZzL
set_option linter.unusedVariables false
set_option linter.unusedSimpArgs false
namespace Go.Proofs.YthdfgepnadgkjaaDoor
open Go.RowKit Go.Shelf
open Go.Sort (grow alloc_eq_grow grow_grow grow_empty)
namespace Sn
open Oc Tg Ac

theorem eq_lit (l k : List UInt8) : ((str l).toList == k) = decide (l = k) := by
  rw [ByteArray.toList_eq, str_list, Bool.eq_iff_iff]
  simp

set_option maxRecDepth 100000 in
set_option maxHeartbeats 1000000 in
theorem rstrict_gr (s : ByteArray) (hs : s.size ≤ 4000000000) (w : World) :
    Calls Tryd.prog 25 #[.string s] w fun e w' => e = .returned (.tuple #[.int .i64 (pln s.data.toList).1, .bool (pln s.data.toList).2]) ∧ ∃ q os, w' = grow (w.drewN q) os := by
  have HD : Hid (Calls _ _ _ _ _) := rDecimal_any s (by unfold maxLen; omega) 4611686018427387904 (by omega) (by omega) w
  have hbd := numR_bd s.data.toList 4611686018427387904 (by omega)
  have HI : Hid (∀ W, Calls _ _ _ W _) := fun W => rDigits_gr (numR 10 s.data.toList 4611686018427387904).1 (by omega) (by omega) W
  have HQ : Hid (((str (Lib.itoa (numR 10 s.data.toList 4611686018427387904).1)).toList == s.toList) = decide (Lib.itoa (numR 10 s.data.toList 4611686018427387904).1 = s.data.toList)) := (by
    rw [eq_toList, decide_eq_decide]
    exact ⟨fun h => (str_list _).symm.trans (congrArg (fun x : ByteArray => x.data.toList) h), fun h => by rw [h, str_self]⟩ : _ = _)
  unfold pln
  generalize Lib.itoa (numR 10 s.data.toList 4611686018427387904).1 = IT at *
  generalize numR 10 s.data.toList 4611686018427387904 = R at *
  obtain ⟨n, er⟩ := R
  dsimp only at *
  generalize str IT = D at *
  rw [← HQ.out]
  clear HQ
  by_cases h : er = 0
  · subst h
    go_enter Tryd.func25, Tryd.ntmps25
    go_wp2_with fail
    refine HD.out.mono ?_
    rintro e w2 ⟨rfl, hb⟩
    rw [hb]
    clear hb
    go_wp2_with fail
    refine (HI.out _).mono ?_
    rintro e w3 ⟨rfl, hg⟩
    have HG3 : Hid (Grew w w3) := hg
    clear hg
    go_wp2
    go_ret2
    exact ⟨by simp, HG3.out⟩
  · have he : (er == 0) = false := by simp [h]
    have hq : (decide (er = 0) && (D.toList == s.toList)) = false := by simp [h]
    rw [hq]
    clear hq
    go_enter Tryd.func25, Tryd.ntmps25
    go_wp2_with fail
    refine HD.out.mono ?_
    rintro e w2 ⟨rfl, hb⟩
    rw [hb]
    clear hb
    go_wp2
    go_ret2
    exact ⟨rfl, Grew.refl w⟩

/-- Where a sign was seen first, so far. -/
def FSt (L : List UInt8) (b : UInt8) (a : Int) (k : Nat) : Prop := (a = -1 ∧ ∀ i, i < k → L.getD i 0 ≠ b) ∨ (0 ≤ a ∧ a < k ∧ L.getD a.toNat 0 = b ∧ ∀ i, i < a.toNat → L.getD i 0 ≠ b)
theorem FSt.start (L : List UInt8) (b : UInt8) : FSt L b (-1) 0 := .inl ⟨rfl, fun i hi => by omega⟩
theorem FSt.hit {L : List UInt8} {b : UInt8} {a : Int} {k : Nat} (h : FSt L b a k) (ha : a < 0) (hb : L.getD k 0 = b) : FSt L b (k : Int) (k + 1) := by
  rcases h with ⟨_, h⟩ | ⟨h, _⟩
  · exact .inr ⟨by omega, by omega, by simpa using hb, by simpa using h⟩
  · omega
theorem FSt.miss {L : List UInt8} {b : UInt8} {a : Int} {k : Nat} (h : FSt L b a k) (hb : L.getD k 0 ≠ b) : FSt L b a (k + 1) := by
  rcases h with ⟨e, h⟩ | ⟨h1, h2, h3⟩
  · refine .inl ⟨e, fun i hi => ?_⟩
    by_cases hik : i = k
    · subst hik; exact hb
    · exact h i (by omega)
  · exact .inr ⟨h1, by omega, h3⟩
theorem FSt.keep {L : List UInt8} {b : UInt8} {a : Int} {k : Nat} (h : FSt L b a k) (ha : 0 ≤ a) : FSt L b a (k + 1) := by
  rcases h with ⟨e, h⟩ | ⟨h1, h2, h3⟩
  · omega
  · exact .inr ⟨h1, by omega, h3⟩
theorem FSt.bd {L : List UInt8} {b : UInt8} {a : Int} {k : Nat} (h : FSt L b a k) : a = -1 ∨ (0 ≤ a ∧ a < k) := by
  rcases h with ⟨e, _⟩ | ⟨h1, h2, _⟩
  · exact .inl e
  · exact .inr ⟨h1, h2⟩
theorem getD_take {L : List UInt8} {i j : Nat} (h : i < j) : (L.take j).getD i 0 = L.getD i 0 := by
  rw [List.getD_eq_getElem?_getD, List.getD_eq_getElem?_getD, List.getElem?_take, if_pos h]

set_option maxRecDepth 100000 in
set_option maxHeartbeats 4000000 in
theorem rTold_gr (s : ByteArray) (hs : s.size ≤ 4000000000) (w : World) :
    Calls Tryd.prog 16 #[.string s] w fun e w' => e = .returned (.tuple #[.agg #[.int .i64 (tolR s.data.toList).1.1, .int .i64 (tolR s.data.toList).1.2], .int .i64 (tolR s.data.toList).2.1, .int .i64 (tolR s.data.toList).2.2]) ∧ Below w.heap.size w w' := by
  obtain ⟨w1, hw1⟩ : ∃ w1, w1 = w.alloc (.cells #[.int .i64 0, .int .i64 0] 42) := ⟨_, rfl⟩
  have HA : Hid (PB 42 w1 w.heap.size (0, 0)) := (by rw [hw1]; exact heap_alloc_new w _ : PB _ _ _ _)
  have HB : Hid (Below w.heap.size w w1) := (by rw [hw1]; exact (Below.refl _ w).alloc (Nat.le_refl _) _ : Below _ _ _)
  have q0 := HA.out.c0
  have q1 := HA.out.c1
  have g0 := HA.out.f 0
  have g1 := HA.out.f 1
  by_cases h6 : s.size < 6
  · have HT : Hid (tolR s.data.toList = ((0, 0), 0, 90)) := (tolR_not (fun e => by
      have := congrArg List.length e
      rw [List.length_take, size_list] at this
      simp at this
      omega) : tolR s.data.toList = _)
    go_enter Tryd.func16, Tryd.ntmps16
    go_wp2_with fail
    rw [← hw1]
    go_wp2
    refine bodyPost_ret (v := .tuple #[.agg #[.int .i64 0, .int .i64 0], .int .i64 0, .int .i64 90]) (by simp [results, Tryd.results16, go_sem, q0, q1]) rfl ?_
    rw [HT.out]
    refine ⟨rfl, ?_⟩
    repeat (first | exact HB.out | refine Below.setCell ?_ (by simp) _)
  have hge : 6 ≤ s.size := by omega
  have E6 : ((s.extract 0 6).toList == [98, 121, 116, 101, 115, 32]) = decide (s.data.toList.take 6 = [98, 121, 116, 101, 115, 32]) := by
    rw [ByteArray.toList_eq, Lib.extract_data, Bool.eq_iff_iff]
    simp
  by_cases hun : s.data.toList.take 6 = [98, 121, 116, 101, 115, 32]
  · rw [decide_eq_true hun] at E6
    have HTR : Hid (tolR s.data.toList = tolS (s.data.toList.drop 6)) := (tolR_six hun : tolR s.data.toList = _)
    have eD : (s.extract 6 s.size).data.toList = s.data.toList.drop 6 := by
      rw [Lib.extract_data, List.take_of_length_le]
      rw [List.length_drop, size_list]
      omega
    have hRs : (s.extract 6 s.size).size ≤ 4000000000 := by simp; omega
    clear hun h6
    go_enter Tryd.func16, Tryd.ntmps16
    go_wp2_with fail
    rw [← hw1]
    clear hw1
    go_wp2
    generalize s.extract 6 s.size = R at *
    have hlen : R.data.toList.length = R.size := size_list R
    have HAT : Hid (∀ k (h : k < R.size), ((R[k].toNat : Nat) : Int) = ((R.data.toList.getD k 0).toNat : Int)) := fun k h => byt_at R k h
    have HXA : Hid (∀ k, R.extract 0 k = str (R.data.toList.take k)) := fun k => by
      apply eq_list
      rw [Lib.extract_data, str_list]
      simp
    have HXB : Hid (∀ k, R.extract k R.size = str (R.data.toList.drop k)) := fun k => by
      apply eq_list
      rw [Lib.extract_data, str_list, List.take_of_length_le]
      rw [List.length_drop, size_list]
      omega
    have HXC : Hid (∀ k j, R.extract k j = str ((R.data.toList.take j).drop k)) := fun k j => by
      apply eq_list
      rw [Lib.extract_data, str_list, List.drop_take]
    rw [← eD] at HTR
    clear eD
    generalize R.data.toList = L at *
    go_loop [5, 6, 7] (fun av dv iv => ∃ (k : Nat) (a d : Int), k ≤ R.size ∧ iv = .int .i64 k ∧ av = .int .i64 a ∧ dv = .int .i64 d ∧ Hid (FSt L 47 a k) ∧ Hid (FSt L 45 d k)) (fun _ _ iv => R.size - (intOf iv).toNat)
    case atStart => exact ⟨0, -1, -1, Nat.zero_le _, rfl, rfl, rfl, FSt.start L 47, FSt.start L 45⟩
    case round =>
      obtain ⟨k, a, d, hk, rfl, rfl, rfl, hSa, hSd⟩ := hrel
      have bda := hSa.out.bd
      have bdd := hSd.out.bd
      by_cases hlt : k < R.size
      · have hby := HAT.out k hlt
        have hcb := (L.getD k 0).toNat_lt
        generalize hci : ((L.getD k 0).toNat : Int) = ci at hby
        have HCI : Hid (((L.getD k 0).toNat : Int) = ci) := hci
        clear hci
        by_cases h47 : ci = 47
        · subst h47
          have e47 : L.getD k 0 = 47 := byte_eq (n := 47) (by omega) (by rw [HCI.out]; rfl)
          have HSd : Hid (FSt L 45 d (k + 1)) := hSd.out.miss (by rw [e47]; decide)
          by_cases ha : a < 0
          · have HSa : Hid (FSt L 47 k (k + 1)) := hSa.out.hit ha e47
            clear e47 hSa hSd
            go_wp2
            go_round
            case rel => exact ⟨k + 1, k, d, by omega, by go_num, rfl, rfl, HSa, HSd⟩
            case measure => simp [intOf]; omega
          · have HSa : Hid (FSt L 47 a (k + 1)) := hSa.out.keep (by omega)
            clear e47 hSa hSd
            go_wp2
            go_round
            case rel => exact ⟨k + 1, a, d, by omega, by go_num, rfl, rfl, HSa, HSd⟩
            case measure => simp [intOf]; omega
        · have q47 : (ci == 47) = false := by simp [h47]
          have n47 : L.getD k 0 ≠ 47 := byte_ne (n := 47) (by omega) (by rw [HCI.out]; exact_mod_cast h47)
          have HSa : Hid (FSt L 47 a (k + 1)) := hSa.out.miss n47
          by_cases h45 : ci = 45
          · subst h45
            have e45 : L.getD k 0 = 45 := byte_eq (n := 45) (by omega) (by rw [HCI.out]; rfl)
            by_cases hd : d < 0
            · have HSd : Hid (FSt L 45 k (k + 1)) := hSd.out.hit hd e45
              clear e45 hSa hSd n47
              go_wp2
              go_round
              case rel => exact ⟨k + 1, a, k, by omega, by go_num, rfl, rfl, HSa, HSd⟩
              case measure => simp [intOf]; omega
            · have HSd : Hid (FSt L 45 d (k + 1)) := hSd.out.keep (by omega)
              clear e45 hSa hSd n47
              go_wp2
              go_round
              case rel => exact ⟨k + 1, a, d, by omega, by go_num, rfl, rfl, HSa, HSd⟩
              case measure => simp [intOf]; omega
          · have q45 : (ci == 45) = false := by simp [h45]
            have n45 : L.getD k 0 ≠ 45 := byte_ne (n := 45) (by omega) (by rw [HCI.out]; exact_mod_cast h45)
            have HSd : Hid (FSt L 45 d (k + 1)) := hSd.out.miss n45
            clear n45 n47 hSa hSd
            go_wp2
            go_round
            case rel => exact ⟨k + 1, a, d, by omega, by go_num, rfl, rfl, HSa, HSd⟩
            case measure => simp [intOf]; omega
      · obtain rfl : k = R.size := by omega
        rcases hSa.out with ⟨rfl, hno⟩ | ⟨ha0, ha1, ha2, ha3⟩
        · have HT : Hid (tolR s.data.toList = ((0, 0), 0, 90)) := (by rw [HTR.out]; exact tolS_noslash (none_at 47 L (by rw [hlen]; exact hno)) : tolR s.data.toList = _)
          clear hno hSa hSd
          go_wp2
          refine bodyPost_ret (v := .tuple #[.agg #[.int .i64 0, .int .i64 0], .int .i64 0, .int .i64 90]) (by simp [results, Tryd.results16, go_sem, q0, q1]) rfl ?_
          rw [HT.out]
          refine ⟨rfl, ?_⟩
          repeat (first | exact HB.out | refine Below.setCell ?_ (by simp) _)
        · obtain ⟨j, rfl⟩ := Int.eq_ofNat_of_zero_le ha0
          have hj : j < R.size := by omega
          rw [Int.toNat_natCast] at ha2 ha3
          obtain ⟨f1, f2, f3⟩ := first_at 47 L j (by omega) ha2 ha3
          have lB : (cutB 47 L).length ≤ R.size := by rw [← hlen]; exact cutB_len 47 L
          have HNW : Hid (∀ W, Calls Tryd.prog 25 #[.string (R.extract (j + 1) R.size)] W fun e w' => e = .returned (.tuple #[.int .i64 (pln (cutB 47 L)).1, .bool (pln (cutB 47 L)).2]) ∧ ∃ q os, w' = grow (W.drewN q) os) := fun W => by
            have := rstrict_gr (str (cutB 47 L)) (by rw [str_size]; omega) W
            rw [str_list] at this
            rw [HXB.out, ← f3]
            exact this
          have EP : ((R.extract 0 j).toList == [42]) = decide (cutA 47 L = [42]) := by rw [HXA.out, ← f2]; exact eq_lit _ _
          have EW : ((R.extract (j + 1) R.size).toList == [42]) = decide (cutB 47 L = [42]) := by rw [HXB.out, ← f3]; exact eq_lit _ _
          have hjz : decide ((j : Int) < 0) = false := by simp
          obtain ⟨n0, n1⟩ := pln_bd (cutB 47 L)
          have hTS0 := @tolS_star0 L
          have hTS1 := @tolS_star1 L
          have hTSb := @tolS_bad L
          have hTSu := @tolS_un L
          have hTSf := @tolS_far L
          have hTSo := @tolS_ok L
          have hTSa := @tolS_any L
          have HF : Hid (_ ∧ _ ∧ _ ∧ _ ∧ _ ∧ _ ∧ _) := ⟨hTS0, hTS1, hTSb, hTSu, hTSf, hTSo, hTSa⟩
          have hE45 : has 45 (cutA 47 L) = false → (exP (cutA 47 L)).2 = false := fun h => exP_nodash h
          have HE45 : Hid (has 45 (cutA 47 L) = false → (exP (cutA 47 L)).2 = false) := hE45
          clear hTS0 hTS1 hTSb hTSu hTSf hTSo hTSa hE45
          by_cases hpt : cutA 47 L = [42]
          · rw [decide_eq_true hpt] at EP
            cases hkn : (pln (cutB 47 L)).2 with
            | false =>
              have HT : Hid (tolR s.data.toList = ((0, 0), 0, 90)) := (by rw [HTR.out]; exact HF.out.1 hpt hkn : tolR s.data.toList = _)
              rw [hkn] at HNW
              generalize (pln (cutB 47 L)).1 = nn at *
              clear hkn hpt HF HE45 f1 f2 f3 ha2 ha3 hSa hSd bda bdd
              go_wp2_with fail
              refine (HNW.out _).mono ?_
              rintro e w3 ⟨rfl, hg⟩
              have HG3 : Hid (Grew w1 w3) := hg
              have hp3 := HA.out.below HG3.out.below
              have r0 := hp3.c0
              have r1 := hp3.c1
              have t0 := hp3.f 0
              have t1 := hp3.f 1
              have HB3 : Hid (Below w.heap.size w w3) := bel_trans HB.out HG3.out.below
              clear hg hp3
              go_wp2
              refine bodyPost_ret (v := .tuple #[.agg #[.int .i64 0, .int .i64 0], .int .i64 0, .int .i64 90]) (by simp [results, Tryd.results16, go_sem, r0, r1]) rfl ?_
              rw [HT.out]
              refine ⟨rfl, ?_⟩
              repeat (first | exact HB3.out | refine Below.setCell ?_ (by simp) _)
            | true =>
              have HT : Hid (tolR s.data.toList = ((0, 0), (pln (cutB 47 L)).1, 0)) := (by rw [HTR.out]; exact HF.out.2.1 hpt hkn : tolR s.data.toList = _)
              rw [hkn] at HNW
              generalize (pln (cutB 47 L)).1 = nn at *
              clear hkn hpt HF HE45 f1 f2 f3 ha2 ha3 hSa hSd bda bdd
              go_wp2_with fail
              refine (HNW.out _).mono ?_
              rintro e w3 ⟨rfl, hg⟩
              have HG3 : Hid (Grew w1 w3) := hg
              have hp3 := HA.out.below HG3.out.below
              have r0 := hp3.c0
              have r1 := hp3.c1
              have t0 := hp3.f 0
              have t1 := hp3.f 1
              have HB3 : Hid (Below w.heap.size w w3) := bel_trans HB.out HG3.out.below
              clear hg hp3
              go_wp2
              refine bodyPost_ret (v := .tuple #[.agg #[.int .i64 0, .int .i64 0], .int .i64 nn, .int .i64 0]) (by simp [results, Tryd.results16, go_sem, r0, r1]) rfl ?_
              rw [HT.out]
              refine ⟨rfl, ?_⟩
              repeat (first | exact HB3.out | refine Below.setCell ?_ (by simp) _)
          · rw [decide_eq_false hpt] at EP
            -- no dash in the part
            by_cases hda : d = -1 ∨ (j : Int) < d
            · have hnd : has 45 (cutA 47 L) = false := by
                rw [f2]
                refine none_at 45 _ (fun i hi => ?_)
                rw [List.length_take] at hi
                rw [getD_take (by omega)]
                rcases hSd.out with ⟨_, h⟩ | ⟨h1, h2, h3, h4⟩
                · exact h i (by omega)
                · exact h4 i (by omega)
              have HT : Hid (tolR s.data.toList = ((0, 0), 0, 90)) := (by rw [HTR.out]; exact HF.out.2.2.1 hpt (HE45.out hnd) : tolR s.data.toList = _)
              generalize pln (cutB 47 L) = PW at *
              obtain ⟨nn, kn⟩ := PW
              clear hpt HF HE45 f1 f2 f3 ha2 ha3 hSa hSd hnd
              rcases hda with rfl | hda
              all_goals
                go_wp2_with fail
                refine (HNW.out _).mono ?_
                rintro e w3 ⟨rfl, hg⟩
                have HG3 : Hid (Grew w1 w3) := hg
                have hp3 := HA.out.below HG3.out.below
                have r0 := hp3.c0
                have r1 := hp3.c1
                have t0 := hp3.f 0
                have t1 := hp3.f 1
                have HB3 : Hid (Below w.heap.size w w3) := bel_trans HB.out HG3.out.below
                clear hg hp3
                go_wp2
                refine bodyPost_ret (v := .tuple #[.agg #[.int .i64 0, .int .i64 0], .int .i64 0, .int .i64 90]) (by simp [results, Tryd.results16, go_sem, r0, r1]) rfl ?_
                rw [HT.out]
                refine ⟨rfl, ?_⟩
                repeat (first | exact HB3.out | refine Below.setCell ?_ (by simp) _)
            · obtain ⟨c, rfl, hcj, hc1, hc2⟩ : ∃ c : Nat, d = (c : Int) ∧ c < j ∧ L.getD c 0 = 45 ∧ ∀ i, i < c → L.getD i 0 ≠ 45 := by
                rcases hSd.out with ⟨h, _⟩ | ⟨h1, h2, h3, h4⟩
                · exact absurd (.inl h) hda
                · refine ⟨d.toNat, by omega, ?_, h3, h4⟩
                  rcases (show d.toNat < j ∨ d.toNat = j ∨ j < d.toNat by omega) with h | h | h
                  · exact h
                  · rw [h, ha2] at h3; cases h3
                  · exact absurd (.inr (by omega)) hda
              have hlt' : (L.take j).length = j := by rw [List.length_take]; omega
              obtain ⟨e1, e2, e3⟩ := first_at 45 (L.take j) c (by omega) (by rw [getD_take hcj]; exact hc1) (fun i hi => by rw [getD_take (by omega)]; exact hc2 i hi)
              rw [List.take_take, Nat.min_eq_left (by omega)] at e2
              rw [← f2] at e2 e3
              have lP := cutA_len 47 L
              have lPA := cutA_len 45 (cutA 47 L)
              have lPB := cutB_len 45 (cutA 47 L)
              rw [hlen] at lP
              have HNA : Hid (∀ W, Calls Tryd.prog 25 #[.string (R.extract 0 c)] W fun e w' => e = .returned (.tuple #[.int .i64 (pln (cutA 45 (cutA 47 L))).1, .bool (pln (cutA 45 (cutA 47 L))).2]) ∧ ∃ q os, w' = grow (W.drewN q) os) := fun W => by
                have := rstrict_gr (str (cutA 45 (cutA 47 L))) (by rw [str_size]; omega) W
                rw [str_list] at this
                rw [HXA.out, ← e2]
                exact this
              have HNB : Hid (∀ W, Calls Tryd.prog 25 #[.string (R.extract (c + 1) j)] W fun e w' => e = .returned (.tuple #[.int .i64 (pln (cutB 45 (cutA 47 L))).1, .bool (pln (cutB 45 (cutA 47 L))).2]) ∧ ∃ q os, w' = grow (W.drewN q) os) := fun W => by
                have := rstrict_gr (str (cutB 45 (cutA 47 L))) (by rw [str_size]; omega) W
                rw [str_list] at this
                rw [HXC.out, ← f2, ← e3]
                exact this
              obtain ⟨a0, a1⟩ := pln_bd (cutA 45 (cutA 47 L))
              obtain ⟨b0, b1⟩ := pln_bd (cutB 45 (cutA 47 L))
              have HEX : Hid (exP (cutA 47 L) = (((pln (cutA 45 (cutA 47 L))).1, (pln (cutB 45 (cutA 47 L))).1 + 1), ((pln (cutA 45 (cutA 47 L))).2 && (pln (cutB 45 (cutA 47 L))).2) && decide ((pln (cutA 45 (cutA 47 L))).1 ≤ (pln (cutB 45 (cutA 47 L))).1))) := (rfl : exP (cutA 47 L) = _)
              have hpt' : Hid (cutA 47 L ≠ [42]) := hpt
              clear f1 f2 f3 e1 e2 e3 ha2 ha3 hSa hSd hc1 hc2 HE45 hpt HXA HXB HXC HAT hda bda bdd
              have hjc : (c : Int) < (j : Int) := by omega
              generalize exP (cutA 47 L) = EX at *
              generalize pln (cutA 45 (cutA 47 L)) = NA at *
              generalize pln (cutB 45 (cutA 47 L)) = NB at *
              generalize pln (cutB 47 L) = PW at *
              obtain ⟨nn, kn⟩ := PW
              obtain ⟨na, oa⟩ := NA
              obtain ⟨nb, ob⟩ := NB
              dsimp only at *
              have hcz : decide ((c : Int) < 0) = false := by simp
              have hcg : decide ((j : Int) < (c : Int)) = false := by simp; omega
              by_cases hun : kn = false ∧ cutB 47 L ≠ [42]
              · obtain ⟨rfl, hw⟩ := hun
                have HT : Hid (tolR s.data.toList = ((0, 0), 0, 90)) := (by rw [HTR.out]; exact HF.out.2.2.2.1 hpt'.out rfl hw : tolR s.data.toList = _)
                rw [decide_eq_false hw] at EW
                clear HF hw
                go_wp2_with fail
                refine (HNW.out _).mono ?_
                rintro e w3 ⟨rfl, hg⟩
                have HG3 : Hid (Grew w1 w3) := hg
                have hp3 := HA.out.below HG3.out.below
                have r0 := hp3.c0
                have r1 := hp3.c1
                have t0 := hp3.f 0
                have t1 := hp3.f 1
                have HB3 : Hid (Below w.heap.size w w3) := bel_trans HB.out HG3.out.below
                clear hg hp3
                go_wp2
                refine bodyPost_ret (v := .tuple #[.agg #[.int .i64 0, .int .i64 0], .int .i64 0, .int .i64 90]) (by simp [results, Tryd.results16, go_sem, r0, r1]) rfl ?_
                rw [HT.out]
                refine ⟨rfl, ?_⟩
                repeat (first | exact HB3.out | refine Below.setCell ?_ (by simp) _)
              · have hkw : kn = true ∨ (kn = false ∧ cutB 47 L = [42]) := by
                  cases kn with
                  | true => exact .inl rfl
                  | false =>
                    right
                    refine ⟨rfl, ?_⟩
                    by_cases hw : cutB 47 L = [42]
                    · exact hw
                    · exact absurd ⟨rfl, hw⟩ hun
                clear hun
                have HK : Hid (kn = true ∨ (kn = false ∧ cutB 47 L = [42])) := hkw
                have hgate : kn = true ∨ (kn = false ∧ ((R.extract (j + 1) R.size).toList == [42]) = true) := by
                  rcases hkw with h | ⟨h, h'⟩
                  · exact .inl h
                  · exact .inr ⟨h, by rw [EW, decide_eq_true h']⟩
                clear hkw EW
                rcases hgate with rfl | ⟨rfl, hst⟩
                · go_wp2_with fail
                  refine (HNW.out _).mono ?_
                  rintro e w3 ⟨rfl, hg⟩
                  have HG3 : Hid (Grew w1 w3) := hg
                  clear hg
                  go_wp2_with fail
                  refine (HNA.out _).mono ?_
                  rintro e w4 ⟨rfl, hg⟩
                  have HG4 : Hid (Grew w1 w4) := HG3.out.trans hg
                  clear hg
                  go_wp2_with fail
                  refine (HNB.out _).mono ?_
                  rintro e w5 ⟨rfl, hg⟩
                  have HG5 : Hid (Grew w1 w5) := HG4.out.trans hg
                  have hp3 := HA.out.below HG5.out.below
                  have r0 := hp3.c0
                  have r1 := hp3.c1
                  have t0 := hp3.f 0
                  have t1 := hp3.f 1
                  have HB3 : Hid (Below w.heap.size w w5) := bel_trans HB.out HG5.out.below
                  clear hg hp3 q0 q1 g0 g1
                  rcases (show (oa = false ∨ (oa = true ∧ ob = false) ∨ (oa = true ∧ ob = true ∧ nb < na)) ∨ (oa = true ∧ ob = true ∧ na ≤ nb ∧ nn ≤ nb) ∨ (oa = true ∧ ob = true ∧ na ≤ nb ∧ nb < nn) by
                    cases oa <;> cases ob <;> simp <;> omega) with hbad | ⟨rfl, rfl, hab, hfar⟩ | ⟨rfl, rfl, hab, hfar⟩
                  · have HT : Hid (tolR s.data.toList = ((0, 0), 0, 90)) := (by
                      rw [HTR.out]
                      refine HF.out.2.2.1 hpt'.out ?_
                      rw [HEX.out]
                      rcases hbad with h | ⟨h, h'⟩ | ⟨h, h', h''⟩
                      · simp [h]
                      · simp [h']
                      · simp; intros; omega : tolR s.data.toList = _)
                    clear HF HEX
                    rcases hbad with rfl | ⟨rfl, rfl⟩ | ⟨rfl, rfl, hab⟩
                    all_goals
                      go_wp2
                      refine bodyPost_ret (v := .tuple #[.agg #[.int .i64 0, .int .i64 0], .int .i64 0, .int .i64 90]) (by simp [results, Tryd.results16, go_sem, r0, r1]) rfl ?_
                      rw [HT.out]
                      refine ⟨rfl, ?_⟩
                      repeat (first | exact HB3.out | refine Below.setCell ?_ (by simp) _)
                  · have HT : Hid (tolR s.data.toList = ((0, 0), 0, 90)) := (by rw [HTR.out]; exact HF.out.2.2.2.2.1 hpt'.out (by first | rfl | trivial) hfar : tolR s.data.toList = _)
                    clear HF HEX
                    go_wp2
                    refine bodyPost_ret (v := .tuple #[.agg #[.int .i64 0, .int .i64 0], .int .i64 0, .int .i64 90]) (by simp [results, Tryd.results16, go_sem, r0, r1]) rfl ?_
                    rw [HT.out]
                    refine ⟨rfl, ?_⟩
                    repeat (first | exact HB3.out | refine Below.setCell ?_ (by simp) _)
                  · have HT : Hid (tolR s.data.toList = ((na, nb + 1), nn, 0)) := (by
                      rw [HTR.out, HF.out.2.2.2.2.2.1 (by rw [HEX.out]; simp [hab]) (by first | rfl | trivial) hfar, HEX.out] : tolR s.data.toList = _)
                    clear HF HEX
                    go_wp2
                    refine bodyPost_ret (v := .tuple #[.agg #[.int .i64 na, .int .i64 (nb + 1)], .int .i64 nn, .int .i64 0]) (by simp [results, Tryd.results16, go_sem, r0, r1]) rfl ?_
                    rw [HT.out]
                    refine ⟨rfl, ?_⟩
                    repeat (first | exact HB3.out | refine Below.setCell ?_ (by simp) _)
                · have hw : cutB 47 L = [42] := by
                    rcases HK.out with h | ⟨_, h⟩
                    · cases h
                    · exact h
                  have HW : Hid (cutB 47 L = [42]) := hw
                  clear hw HK
                  go_wp2_with fail
                  refine (HNW.out _).mono ?_
                  rintro e w3 ⟨rfl, hg⟩
                  have HG3 : Hid (Grew w1 w3) := hg
                  clear hg
                  go_wp2_with fail
                  refine (HNA.out _).mono ?_
                  rintro e w4 ⟨rfl, hg⟩
                  have HG4 : Hid (Grew w1 w4) := HG3.out.trans hg
                  clear hg
                  go_wp2_with fail
                  refine (HNB.out _).mono ?_
                  rintro e w5 ⟨rfl, hg⟩
                  have HG5 : Hid (Grew w1 w5) := HG4.out.trans hg
                  have hp3 := HA.out.below HG5.out.below
                  have r0 := hp3.c0
                  have r1 := hp3.c1
                  have t0 := hp3.f 0
                  have t1 := hp3.f 1
                  have HB3 : Hid (Below w.heap.size w w5) := bel_trans HB.out HG5.out.below
                  clear hg hp3 q0 q1 g0 g1
                  rcases (show (oa = false ∨ (oa = true ∧ ob = false) ∨ (oa = true ∧ ob = true ∧ nb < na)) ∨ (oa = true ∧ ob = true ∧ na ≤ nb) by
                    cases oa <;> cases ob <;> simp <;> omega) with hbad | ⟨rfl, rfl, hab⟩
                  · have HT : Hid (tolR s.data.toList = ((0, 0), 0, 90)) := (by
                      rw [HTR.out]
                      refine HF.out.2.2.1 hpt'.out ?_
                      rw [HEX.out]
                      rcases hbad with h | ⟨h, h'⟩ | ⟨h, h', h''⟩
                      · simp [h]
                      · simp [h']
                      · simp; intros; omega : tolR s.data.toList = _)
                    clear HF HEX
                    rcases hbad with rfl | ⟨rfl, rfl⟩ | ⟨rfl, rfl, hab⟩
                    all_goals
                      go_wp2
                      refine bodyPost_ret (v := .tuple #[.agg #[.int .i64 0, .int .i64 0], .int .i64 0, .int .i64 90]) (by simp [results, Tryd.results16, go_sem, r0, r1]) rfl ?_
                      rw [HT.out]
                      refine ⟨rfl, ?_⟩
                      repeat (first | exact HB3.out | refine Below.setCell ?_ (by simp) _)
                  · have HT : Hid (tolR s.data.toList = ((na, nb + 1), -1, 0)) := (by
                      rw [HTR.out, HF.out.2.2.2.2.2.2 (by rw [HEX.out]; simp [hab]) (by first | rfl | trivial) HW.out, HEX.out] : tolR s.data.toList = _)
                    clear HF HEX
                    go_wp2
                    refine bodyPost_ret (v := .tuple #[.agg #[.int .i64 na, .int .i64 (nb + 1)], .int .i64 (-1), .int .i64 0]) (by simp [results, Tryd.results16, go_sem, r0, r1]) rfl ?_
                    rw [HT.out]
                    refine ⟨rfl, ?_⟩
                    repeat (first | exact HB3.out | refine Below.setCell ?_ (by simp) _)
  · rw [decide_eq_false hun] at E6
    have HT : Hid (tolR s.data.toList = ((0, 0), 0, 90)) := (tolR_not hun : tolR s.data.toList = _)
    clear hun h6
    go_enter Tryd.func16, Tryd.ntmps16
    go_wp2_with fail
    rw [← hw1]
    go_wp2
    refine bodyPost_ret (v := .tuple #[.agg #[.int .i64 0, .int .i64 0], .int .i64 0, .int .i64 90]) (by simp [results, Tryd.results16, go_sem, q0, q1]) rfl ?_
    rw [HT.out]
    refine ⟨rfl, ?_⟩
    repeat (first | exact HB.out | refine Below.setCell ?_ (by simp) _)

end Sn
end Go.Proofs.YthdfgepnadgkjaaDoor
