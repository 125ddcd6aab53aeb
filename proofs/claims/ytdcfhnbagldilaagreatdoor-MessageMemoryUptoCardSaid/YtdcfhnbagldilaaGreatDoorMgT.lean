import Derived.Test.YtdcfhnbagldilaaGreatDoorCkU
import Derived.Test.YtdcfhnbagldilaaGreatDoorFQd
import Derived.Test.YtdcfhnbagldilaaGreatDoorMgS
import Derived.Laws.BitsAllLaws
set_option linter.unusedVariables false
set_option linter.unusedSimpArgs false
set_option maxRecDepth 100000
namespace Go.Proofs.YtdcfhnbagldilaaGreatDoor
open Go.RowKit Go.Shelf
namespace Ck
open Oc Tg _root_.Go.Proofs.YtdcfhnbagldilaaGreatDoor.Fd
theorem dropGet (l : List UInt8) (a j : Nat) : (l.drop a).getD j 0 = l.getD (a + j) 0 := by
  rw [List.getD_eq_getElem?_getD, List.getD_eq_getElem?_getD, List.getElem?_drop]
theorem extTake (s : ByteArray) (i n : Nat) : s.extract i (i + n) = str ((s.data.toList.drop i).take n) := by
  apply eq_list
  rw [str_list, Lib.extract_data, show i + n - i = n by omega]
theorem extTake0 (s : ByteArray) (n : Nat) : s.extract 0 n = str (s.data.toList.take n) := by
  have h := extTake s 0 n
  rw [Nat.zero_add, List.drop_zero] at h
  exact h
theorem rpast_eq (s : ByteArray) (hs : s.size ≤ 4000000) (x : Int) (a P : Nat) (hx : x = (a : Int)) (ha : a ≤ s.size) (hP : a + bl (s.data.toList.drop a) = P) (w : World) :
    Calls Tryz.prog 125 #[.string s, .int .i64 x] w fun e w' => e = .returned (.int .i64 (P : Int)) ∧ w' = w := by
  subst hx
  rw [← hP]
  exact rpast_any s hs a ha w
theorem rsign_eq (s : ByteArray) (hs : s.size ≤ 4000000) (x : Int) (a n : Nat) (hx : x = (a : Int)) (ha : a ≤ s.size) (hn : tokLen (s.data.toList.drop a) = n) (w : World) :
    Calls Tryz.prog 126 #[.string s, .int .i64 x] w fun e w' => e = .returned (.int .i64 (n : Int)) ∧ w' = w := by
  subst hx
  rw [← hn]
  exact rsign_any s hs a ha w
theorem infoPr : (Tryz.prog.info? 167).map (fun i => (i.zero, i.size, i.bytes)) = some (some (.agg #[.string ⟨#[]⟩, .string ⟨#[]⟩, .bool false]), 3, 40) := by kernel_rfl
theorem rq_zero {r : List UInt8} (h : tokLen r = 0) : rp r = some ((r.take 0, [], false), 0) := by
  unfold rp
  rw [h, if_neg]
  simp [told]
theorem rq_bare {r : List UInt8} {n : Nat} (h : tokLen r = n) (h2 : told r n = false) : rp r = some ((r.take n, [], false), n) := by
  unfold rp
  rw [h, h2]
  rfl
theorem rq_tok {r : List UInt8} {n m : Nat} (h : tokLen r = n) (h2 : told r n = true) (h3 : tokLen (r.drop (n + 1)) = m) (h4 : 0 < m) : rp r = some ((r.take n, (r.drop (n + 1)).take m, true), n + 1 + m) := by
  unfold rp
  rw [h, h2, if_pos rfl]
  unfold rv
  rw [h3, if_pos h4]
  rfl
theorem rq_quo {r : List UInt8} {n m : Nat} (h : tokLen r = n) (h2 : told r n = true) (h3 : tokLen (r.drop (n + 1)) = 0) (h4 : qlen (r.drop (n + 1)) = m) (h5 : m ≠ 0) :
    rp r = some ((r.take n, psay false (((r.drop (n + 1)).drop 1).take (m - 2)), true), n + 1 + m) := by
  unfold rp
  rw [h, h2, if_pos rfl]
  unfold rv
  rw [h3, h4, if_neg (by omega), if_neg h5]
  rfl
theorem rq_err {r : List UInt8} {n : Nat} (h : tokLen r = n) (h2 : told r n = true) (h3 : tokLen (r.drop (n + 1)) = 0) (h4 : qlen (r.drop (n + 1)) = 0) : rp r = none := by
  unfold rp
  rw [h, h2, if_pos rfl]
  unfold rv
  rw [h3, h4, if_neg (by omega), if_pos rfl]
  rfl
theorem qlen_not {s : ByteArray} (h : s.size = 0 ∨ byt s 0 ≠ 34) : qlen s.data.toList = 0 := by
  cases hl : s.data.toList with
  | nil => rfl
  | cons c l =>
    rw [qlen_cons, if_neg]
    rintro rfl
    rcases h with h | h
    · rw [← size_list, hl] at h; simp at h
    · apply h; unfold byt; rw [hl]; rfl
set_option maxHeartbeats 1000000 in
theorem rParams_any (s : ByteArray) (hs : s.size ≤ 4000000) (w : World) :
    Calls Tryz.prog 106 #[.string s] w fun e w' => ∃ v, e = .returned (.tuple #[v, .int .i64 (paramsR s.data.toList).2.1, .bool ((paramsR s.data.toList).2.2 == 0)]) ∧ OwnP 167 w.heap.size v (paramsR s.data.toList).1 w' ∧ Below w.heap.size w w' := by
  go_enter Tryz.func106, Tryz.ntmps106
  go_wp2
  go_loopw [5, 6] (fun lv ev wr => ∃ (e0 : Nat) (acc : List Prm), e0 ≤ s.size ∧ ev = .int .i64 e0 ∧ acc.length ≤ e0 ∧ Hid (prm s.data.toList = (prm (s.data.toList.drop e0)).map (fun y => (acc ++ y.1, e0 + y.2))) ∧ Hid (OwnP 167 w.heap.size lv acc wr) ∧ Hid (Below w.heap.size w wr)) (fun _ ev _ => s.size - (intOf ev).toNat)
  case atStart => exact ⟨0, [], Nat.zero_le _, rfl, Nat.le_refl _, (by simp : prm s.data.toList = (prm (s.data.toList.drop 0)).map (fun y => ([] ++ y.1, 0 + y.2))), ownP_nil _ _ _, Below.refl _ w⟩
  case round =>
    obtain ⟨e0, acc, he0, rfl, hacc, hst, hown, hbl⟩ := hrel
    have hsz := hbl.out.size
    have hb1 := bl_le (s.data.toList.drop e0)
    rw [List.length_drop, size_list] at hb1
    obtain ⟨c1, hc1⟩ : ∃ c1, c1 = bl (s.data.toList.drop e0) := ⟨_, rfl⟩
    obtain ⟨P, hP⟩ : ∃ P, e0 + c1 = P := ⟨_, rfl⟩
    have HP : Hid (e0 + bl (s.data.toList.drop e0) = P) := (by rw [← hc1]; exact hP : e0 + bl (s.data.toList.drop e0) = P)
    rw [← hc1] at hb1
    have hPs : P ≤ s.size := by omega
    have HSemi : Hid (semi (s.data.toList.drop e0) c1 = decide (P < s.size ∧ byt s P = 59)) := by
      show semi _ _ = _
      unfold semi byt
      rw [List.length_drop, size_list, Bool.eq_iff_iff, decide_eq_true_iff, decide_eq_true_iff, dropGet, hP]
      constructor
      · rintro ⟨h1, h2⟩; exact ⟨by omega, by rw [h2]; rfl⟩
      · rintro ⟨h1, h2⟩; exact ⟨by omega, UInt8.toNat_inj.1 (by show _ = 59; omega)⟩
    have HStop : Hid (semi (s.data.toList.drop e0) c1 = false → paramsR s.data.toList = (acc, (e0 : Int), 0)) := fun h => paramsR_some (x := (acc, e0)) (by rw [hst.out, prm_end (pstep_stop (by rw [← hc1]; exact h))]; simp)
    by_cases hgo : P < s.size ∧ byt s P = 59
    · have HGo : Hid (semi (s.data.toList.drop e0) (bl (s.data.toList.drop e0)) = true) := (by rw [← hc1, HSemi.out]; exact decide_eq_true hgo : semi _ _ = true)
      obtain ⟨hg1, hg2⟩ := hgo
      have hby : ((s[P].toNat : Nat) : Int) = byt s P := byt_at s _ hg1
      have hge : ¬ ((s.size : Int) ≤ (P : Int)) := by omega
      have h59 : (byt s P != 59) = false := by simp [hg2]
      have HD1 : Hid (s.data.toList.drop (P + 1) = (s.data.toList.drop e0).drop (c1 + 1)) := (by rw [List.drop_drop, ← hP, Nat.add_assoc] : s.data.toList.drop (P + 1) = _)
      have hb2 := bl_le (s.data.toList.drop (P + 1))
      rw [List.length_drop, size_list] at hb2
      obtain ⟨c2, hc2⟩ : ∃ c2, c2 = bl (s.data.toList.drop (P + 1)) := ⟨_, rfl⟩
      obtain ⟨Q, hQ⟩ : ∃ Q, P + 1 + c2 = Q := ⟨_, rfl⟩
      have HQ : Hid (P + 1 + bl (s.data.toList.drop (P + 1)) = Q) := (by rw [← hc2]; exact hQ : P + 1 + bl (s.data.toList.drop (P + 1)) = Q)
      rw [← hc2] at hb2
      obtain ⟨r3, hr3⟩ : ∃ r3, r3 = s.data.toList.drop Q := ⟨_, rfl⟩
      have h3 : ((s.data.toList.drop e0).drop (c1 + 1)).drop c2 = r3 := by rw [hr3, ← HD1.out, List.drop_drop, hQ]
      have hc2' : bl ((s.data.toList.drop e0).drop (c1 + 1)) = c2 := by rw [← HD1.out]; exact hc2.symm
      have HBad : Hid (rp r3 = none → paramsR s.data.toList = ([], 0, 15)) := fun h => paramsR_none (by rw [hst.out, prm_none (pstep_bad HGo.out (by rw [← hc1, hc2', h3]; exact h))]; rfl)
      have HEmpty : Hid (∀ x, rp r3 = some x → x.2 = 0 → prm s.data.toList = (prm (s.data.toList.drop (P + 1))).map (fun y => (acc ++ y.1, (P + 1) + y.2))) := fun x h h0 => by
        have h := prm_step hst.out (pstep_empty HGo.out (x := x) (by rw [← hc1, hc2', h3]; exact h) h0)
        simp only [← hc1, List.append_nil, show e0 + (c1 + 1) = P + 1 by omega] at h
        exact h
      have HOne : Hid (∀ x, rp r3 = some x → x.2 ≠ 0 → prm s.data.toList = (prm (s.data.toList.drop (Q + x.2))).map (fun y => ((acc ++ [x.1]) ++ y.1, (Q + x.2) + y.2))) := fun x h h0 => by
        have h := prm_step hst.out (pstep_one HGo.out (x := x) (by rw [← hc1, hc2', h3]; exact h) h0)
        simp only [← hc1, hc2', show e0 + (c1 + 1 + c2 + x.2) = Q + x.2 by omega] at h
        exact h
      have hQs : Q ≤ s.size := by omega
      have hQe : e0 + 1 ≤ Q := by omega
      have hPe : e0 ≤ P := by omega
      have hPQ : P + 1 ≤ Q := by omega
      have hn3 := tokLen_le r3
      rw [hr3, List.length_drop, size_list, ← hr3] at hn3
      have HTD : Hid (∀ n, told r3 n = decide (0 < n ∧ Q + n < s.size ∧ byt s (Q + n) = 61)) := by
        intro n
        unfold told byt
        rw [hr3, List.length_drop, size_list, Bool.eq_iff_iff, decide_eq_true_iff, decide_eq_true_iff, dropGet]
        constructor
        · rintro ⟨h0, h1, h2⟩; exact ⟨h0, by omega, by rw [h2]; rfl⟩
        · rintro ⟨h0, h1, h2⟩; exact ⟨h0, by omega, UInt8.toNat_inj.1 (by show _ = 61; omega)⟩
      have HNx : Hid (∀ n, r3.drop n = s.data.toList.drop (Q + n)) := fun n => by rw [hr3, List.drop_drop]
      have HR3 : Hid (r3 = s.data.toList.drop Q) := hr3
      clear hg2 HSemi HStop h3 hc2 hc2' hr3 hQ hP hc1 HGo HD1 hb1 hb2
      go_wp2_with fail
      refine (rpast_eq s hs _ e0 P rfl he0 HP.out _).mono ?_
      rintro e w2 ⟨rfl, rfl⟩
      go_wp2_with fail
      refine (rpast_eq s hs _ (P + 1) Q (by omega) (by omega) HQ.out _).mono ?_
      rintro e w3 ⟨rfl, rfl⟩
      obtain ⟨n, hn⟩ : ∃ n, tokLen r3 = n := ⟨_, rfl⟩
      rw [hn] at hn3
      have HTok : Hid (tokLen r3 = n) := hn
      go_wp2_with fail
      refine (rsign_eq s hs _ Q n rfl hQs (by rw [← HR3.out]; exact HTok.out) _).mono ?_
      rintro e w4 ⟨rfl, rfl⟩
      by_cases hz : n = 0
      · have HN' : Hid (prm s.data.toList = (prm (s.data.toList.drop (P + 1))).map (fun y => (acc ++ y.1, (P + 1) + y.2))) := HEmpty.out _ (rq_zero (by rw [HTok.out, hz])) rfl
        subst hz
        clear hn
        go_wp2
        go_roundw
        case rel => exact ⟨P + 1, acc, by omega, by go_num, by omega, HN', hown, hbl⟩
        case measure => simp [intOf]; omega
      · clear hn
        have HNm : Hid (s.extract Q (Q + n) = str (r3.take n)) := (by rw [extTake, HR3.out] : s.extract Q (Q + n) = _)
        have hn0 : ((n : Int) == 0) = false := by simp; omega
        by_cases htd : Q + n < s.size ∧ byt s (Q + n) = 61
        · have HTold : Hid (told r3 n = true) := (by rw [HTD.out n]; exact decide_eq_true ⟨by omega, htd⟩ : told r3 n = true)
          obtain ⟨ht1, ht2⟩ := htd
          have hby3 : ((s[Q + n].toNat : Nat) : Int) = byt s (Q + n) := byt_at s _ ht1
          have h61 : (byt s (Q + n) == 61) = true := by simp [ht2]
          have HRl : Hid ((s.extract (Q + n + 1) s.size).data.toList = r3.drop (n + 1)) := (by rw [Lib.extract_to_end, HNx.out]; rfl : (s.extract (Q + n + 1) s.size).data.toList = _)
          have hRz : (s.extract (Q + n + 1) s.size).size = s.size - (Q + n + 1) := size_ext s (Q + n + 1) (by omega)
          obtain ⟨R, hR⟩ : ∃ R, R = s.extract (Q + n + 1) s.size := ⟨_, rfl⟩
          have HRE : Hid (R = s.extract (Q + n + 1) s.size) := hR
          rw [← hR] at HRl hRz
          clear hR
          have hRs : R.size ≤ 4000000 := by omega
          obtain ⟨m, hm⟩ : ∃ m, tokLen (r3.drop (n + 1)) = m := ⟨_, rfl⟩
          have HM : Hid (tokLen (r3.drop (n + 1)) = m) := hm
          have hml := tokLen_le (r3.drop (n + 1))
          rw [hm, ← HRl.out, size_list] at hml
          clear ht2 hm
          go_wp2_with fail
          rw [← HRE.out]
          refine (rsign_eq R hRs _ 0 m rfl (by omega) (by rw [List.drop_zero, HRl.out]; exact HM.out) _).mono ?_
          rintro e w5 ⟨rfl, hw⟩
          rw [hw]
          clear hw
          by_cases hm0 : 0 < m
          · have HN' : Hid (prm s.data.toList = (prm (s.data.toList.drop (Q + (n + 1 + m)))).map (fun y => ((acc ++ [(r3.take n, (r3.drop (n + 1)).take m, true)]) ++ y.1, (Q + (n + 1 + m)) + y.2))) := HOne.out _ (rq_tok HTok.out HTold.out HM.out hm0) (by show n + 1 + m ≠ 0; omega)
            have HVal : Hid (R.extract 0 m = str ((r3.drop (n + 1)).take m)) := (by rw [extTake0, HRl.out] : R.extract 0 m = _)
            have HO5 : Hid (∀ o, OwnP 167 w.heap.size _ acc (w4.alloc o)) := fun o => hown.out.below ((Below.refl _ _).alloc (Nat.le_refl _) o)
            have HB5 : Hid (∀ o, Below w.heap.size w (w4.alloc o)) := fun o => hbl.out.alloc hsz o
            have hmz : (0 : Int) < (m : Int) := by omega
            go_wp2_with (at_builtin; go_must (refine wp_appP 167 127 infoPr Tryz.underlying127 rfl (.tmp 89) (.tmp 91) rfl w.heap.size _ acc _ (r3.take n, (r3.drop (n + 1)).take m, true) _ _ HNm.out HVal.out _ rfl rfl (HO5.out _) _ rfl (by simp) ?h1 ?h2 ?_))
            case h1 => omega
            case h2 => first | omega | (simp; omega)
            intro v6 w6 hown6 hb6
            have HO6 : Hid (OwnP 167 w.heap.size v6 (acc ++ [(r3.take n, (r3.drop (n + 1)).take m, true)]) w6) := hown6
            have HB6 : Hid (Below w.heap.size w w6) := (HB5.out _).trans hb6
            clear hown6 hb6
            go_wp2
            go_roundw
            case rel => exact ⟨Q + (n + 1 + m), _, by omega, by go_num, by simp; omega, HN', HO6, HB6⟩
            case measure => simp [intOf]; omega
          · obtain rfl : m = 0 := by omega
            have hRq : R.size = 0 ∨ 0 < R.size := by omega
            by_cases hq34 : R.size = 0 ∨ byt R 0 ≠ 34
            · have HN : Hid (paramsR s.data.toList = ([], 0, 15)) := HBad.out (rq_err HTok.out HTold.out HM.out (by rw [← HRl.out]; exact qlen_not hq34))
              have HB5 : Hid (∀ o, Below w.heap.size w (w4.alloc o)) := fun o => hbl.out.alloc hsz o
              by_cases hR0 : R.size = 0
              · have hRe : R.toList.isEmpty = true := empty_of hR0
                go_wp2
                go_ret3
                rw [HN.out]
                exact ⟨_, rfl, ownP_nil _ _ _, HB5.out _⟩
              · have hR1 : 0 < R.size := by omega
                have hRe : R.toList.isEmpty = false := nonempty_of hR0
                have hby5 : ((R[0].toNat : Nat) : Int) = byt R 0 := byt_at R 0 hR1
                have hne : (byt R 0 != 34) = true := by
                  rcases hq34 with h | h
                  · omega
                  · simp [h]
                clear hq34
                go_wp2
                go_ret3
                rw [HN.out]
                exact ⟨_, rfl, ownP_nil _ _ _, HB5.out _⟩
            · have hR1 : 0 < R.size := by omega
              have hq34' : byt R 0 = 34 := by
                by_cases h : byt R 0 = 34
                · exact h
                · exact absurd (.inr h) hq34
              clear hq34
              have hR0 : R.size ≠ 0 := by omega
              have hRe : R.toList.isEmpty = false := nonempty_of hR0
              have hby5 : ((R[0].toNat : Nat) : Int) = byt R 0 := byt_at R 0 hR1
              have hne : (byt R 0 != 34) = false := by simp [hq34']
              have HQd : Hid (∀ w, Calls Tryz.prog 122 #[.string R] w fun e w' => e = .returned (.int .i64 (qlen R.data.toList : Nat)) ∧ w' = w) := fun w => rQuoted_any R (by omega) hR1 hq34' w
              obtain ⟨k, hk⟩ : ∃ k, qlen R.data.toList = k := ⟨_, rfl⟩
              rw [hk] at HQd
              have HK : Hid (qlen R.data.toList = k) := hk
              have hkl := (qlen_bd R.data.toList).1
              rw [hk, size_list] at hkl
              clear hk hq34'
              have HB5 : Hid (∀ o, Below w.heap.size w (w4.alloc o)) := fun o => hbl.out.alloc hsz o
              have HO5 : Hid (∀ o, OwnP 167 w.heap.size _ acc (w4.alloc o)) := fun o => hown.out.below ((Below.refl _ _).alloc (Nat.le_refl _) o)
              by_cases hk0 : k = 0
              · have HN : Hid (paramsR s.data.toList = ([], 0, 15)) := HBad.out (rq_err HTok.out HTold.out HM.out (by rw [← HRl.out, HK.out]; exact hk0))
                subst hk0
                go_wp2_with fail
                refine (HQd.out _).mono ?_
                rintro e w6 ⟨rfl, hw⟩
                rw [hw]
                clear hw
                go_wp2
                go_ret3
                rw [HN.out]
                exact ⟨_, rfl, ownP_nil _ _ _, HB5.out _⟩
              · have hkz : ((k : Int) == 0) = false := by simp; omega
                obtain ⟨X, hX⟩ : ∃ X, X = psay false ((R.data.toList.drop 1).take (k - 2)) := ⟨_, rfl⟩
                have HN' : Hid (prm s.data.toList = (prm (s.data.toList.drop (Q + (n + 1 + k)))).map (fun y => ((acc ++ [(r3.take n, X, true)]) ++ y.1, (Q + (n + 1 + k)) + y.2))) := by
                  have h := HOne.out _ (rq_quo HTok.out HTold.out HM.out (by rw [← HRl.out]; exact HK.out) hk0) (by show n + 1 + k ≠ 0; omega)
                  rw [← HRl.out, ← hX] at h
                  exact h
                have HSd : Hid (∀ w, Calls Tryz.prog 127 #[.string R, .int .i64 k] w fun e w' => e = .returned (.string (str X)) ∧ Below w.heap.size w w') := fun w => by
                  have h := rsaid_any R hRs k HK.out.symm hk0 w
                  rw [← hX] at h
                  exact h
                clear hX
                go_wp2_with fail
                refine (HQd.out _).mono ?_
                rintro e w6 ⟨rfl, hw⟩
                rw [hw]
                clear hw
                generalize hy : str X = y at *
                have HY : Hid (y = str X) := hy.symm
                clear hy
                go_wp2_with fail
                refine (HSd.out _).mono ?_
                rintro e w6 ⟨rfl, hb6⟩
                have k0 : w6.cell? ⟨w4.heap.size, 0, none⟩ = some (.string (s.extract Q (Q + n))) := (hb6.cell (p := ⟨w4.heap.size, 0, none⟩) (by simp)).trans (by simp)
                have k1 : w6.cell? ⟨w4.heap.size, 1, none⟩ = some (.string ⟨#[]⟩) := (hb6.cell (p := ⟨w4.heap.size, 1, none⟩) (by simp)).trans (by simp)
                have k2 : w6.cell? ⟨w4.heap.size, 2, none⟩ = some (.bool true) := (hb6.cell (p := ⟨w4.heap.size, 2, none⟩) (by simp)).trans (by simp)
                have kf : w6.frozen? ⟨w4.heap.size, 1, none⟩ = false := (hb6.frozen (p := ⟨w4.heap.size, 1, none⟩) (by simp)).trans (by simp)
                have hs6 : w4.heap.size < w6.heap.size := by have := hb6.size; simp at this; omega
                have bx : ∀ u, Below w4.heap.size w4 (w6.setCell ⟨w4.heap.size, 1, none⟩ u) := fun u => (((Below.refl _ _).alloc (Nat.le_refl _) _).trans (hb6.mono (by simp))).setCell (Nat.le_refl _) u
                have HO7 : Hid (∀ u, OwnP 167 w.heap.size _ acc (w6.setCell ⟨w4.heap.size, 1, none⟩ u)) := fun u => hown.out.below (bx u)
                have HB7 : Hid (∀ u, Below w.heap.size w (w6.setCell ⟨w4.heap.size, 1, none⟩ u)) := fun u => hbl.out.trans ((bx u).mono hsz)
                clear bx hb6
                go_wp2_with (at_builtin; go_must (refine wp_appP 167 127 infoPr Tryz.underlying127 rfl (.tmp 89) (.tmp 91) rfl w.heap.size _ acc _ (r3.take n, X, true) _ _ HNm.out HY.out _ rfl rfl (HO7.out _) _ rfl (by simp) ?h1 ?h2 ?_))
                case h1 => omega
                case h2 => first | omega | (simp; omega)
                intro v7 w7 hown7 hb7
                have HO8 : Hid (OwnP 167 w.heap.size v7 (acc ++ [(r3.take n, X, true)]) w7) := hown7
                have HB8 : Hid (Below w.heap.size w w7) := (HB7.out _).trans hb7
                clear hown7 hb7
                go_wp2
                go_roundw
                case rel => exact ⟨Q + (n + 1 + k), _, by omega, by go_num, by simp; omega, HN', HO8, HB8⟩
                case measure => simp [intOf]; omega
        · have HTold : Hid (told r3 n = false) := (by rw [HTD.out n]; exact decide_eq_false (fun h => htd h.2) : told r3 n = false)
          have HN' : Hid (prm s.data.toList = (prm (s.data.toList.drop (Q + n))).map (fun y => ((acc ++ [(r3.take n, [], false)]) ++ y.1, (Q + n) + y.2))) := HOne.out _ (rq_bare HTok.out HTold.out) hz
          have HO5 : Hid (∀ o, OwnP 167 w.heap.size _ acc (w4.alloc o)) := fun o => hown.out.below ((Below.refl _ _).alloc (Nat.le_refl _) o)
          have HB5 : Hid (∀ o, Below w.heap.size w (w4.alloc o)) := fun o => hbl.out.alloc hsz o
          have hts : ¬ ((Q : Int) + (n : Int) < (s.size : Int)) ∨ ∃ h : Q + n < s.size, ((s[Q + n].toNat : Nat) : Int) = byt s (Q + n) ∧ (byt s (Q + n) == 61) = false := by
            by_cases h1 : Q + n < s.size
            · right; exact ⟨h1, byt_at s _ h1, by simp; exact fun e => htd ⟨h1, e⟩⟩
            · left; omega
          clear htd
          rcases hts with t1 | ⟨hlt, t2, t3⟩
          all_goals
            go_wp2_with (at_builtin; go_must (refine wp_appP 167 127 infoPr Tryz.underlying127 rfl (.tmp 89) (.tmp 91) rfl w.heap.size _ acc _ (r3.take n, [], false) _ _ HNm.out rfl _ rfl rfl (HO5.out _) _ rfl (by simp) ?h1 ?h2 ?_))
            case h1 => omega
            case h2 => first | omega | (simp; omega)
            intro v6 w6 hown6 hb6
            have HO6 : Hid (OwnP 167 w.heap.size v6 (acc ++ [(r3.take n, [], false)]) w6) := hown6
            have HB6 : Hid (Below w.heap.size w w6) := (HB5.out _).trans hb6
            clear hown6 hb6
            go_wp2
            go_roundw
            case rel => exact ⟨Q + n, _, by omega, by go_num, by simp; omega, HN', HO6, HB6⟩
            case measure => simp [intOf]; omega
    · have HN : Hid (paramsR s.data.toList = (acc, (e0 : Int), 0)) := HStop.out (by rw [HSemi.out]; exact decide_eq_false hgo)
      have hts : ((s.size : Int) ≤ (P : Int)) ∨ ¬ ((s.size : Int) ≤ (P : Int)) ∧ ∃ h : P < s.size, ((s[P].toNat : Nat) : Int) = byt s P ∧ (byt s P != 59) = true := by
        by_cases h1 : P < s.size
        · right
          exact ⟨by omega, h1, byt_at s _ h1, by simp; exact fun e => hgo ⟨h1, e⟩⟩
        · left; omega
      clear hgo HSemi HStop hP hc1 hb1
      rcases hts with t1 | ⟨t1, hlt, t2, t3⟩
      all_goals
        go_wp2_with fail
        refine (rpast_eq s hs _ e0 P rfl he0 HP.out _).mono ?_
        rintro e w2 ⟨rfl, rfl⟩
        go_wp2
        go_ret3
        rw [HN.out]
        exact ⟨_, rfl, hown.out, hbl.out⟩
end Ck
end Go.Proofs.YtdcfhnbagldilaaGreatDoor
set_option linter.unusedVariables false
set_option linter.unusedSimpArgs false
set_option maxRecDepth 100000
namespace Go.Proofs.YtdcfhnbagldilaaGreatDoor
open Go.RowKit Go.Shelf
namespace Ck
open Oc Tg _root_.Go.Proofs.YtdcfhnbagldilaaGreatDoor.Fd
theorem hexV_bd_all : ∀ n : Fin 256, (hexB (UInt8.ofNat n.val) = true → 0 ≤ hexV (UInt8.ofNat n.val) ∧ hexV (UInt8.ofNat n.val) ≤ 15 ∧ hexV (UInt8.ofNat n.val) = valI ((UInt8.ofNat n.val).toNat : Int)) ∧ (hexB (UInt8.ofNat n.val) = false → hexV (UInt8.ofNat n.val) = -1) := by decide +kernel
theorem hexV_bd (c : UInt8) : (hexB c = true → 0 ≤ hexV c ∧ hexV c ≤ 15 ∧ hexV c = valI (c.toNat : Int)) ∧ (hexB c = false → hexV c = -1) := by
  have h := hexV_bd_all ⟨c.toNat, c.toNat_lt⟩
  simpa using h
def accH (n : Int) (c : UInt8) : Int := if n ≤ 1099511627776 then 16 * n + hexV c else n
def hexAcc (l : List UInt8) : Int := l.foldl accH 0
theorem hexAcc_snoc (l : List UInt8) (c : UInt8) : hexAcc (l ++ [c]) = accH (hexAcc l) c := by unfold hexAcc; rw [List.foldl_append]; rfl
theorem hexAcc_is : ∀ (n : Nat) (l : List UInt8), l.length = n → (∀ c ∈ l, hexB c = true) → 0 ≤ numOf 16 l ∧ 0 ≤ hexAcc l ∧ hexAcc l ≤ 17592186044431 ∧ (numOf 16 l ≤ 1099511627776 → hexAcc l = numOf 16 l) ∧ (1099511627776 < numOf 16 l → 1099511627776 < hexAcc l) := by
  intro n
  induction n with
  | zero =>
    intro l hl _
    obtain rfl := List.eq_nil_of_length_eq_zero hl
    exact ⟨by decide, by decide, by decide, fun _ => rfl, fun h => absurd h (by decide)⟩
  | succ n ih =>
    intro l hl hall
    rcases List.eq_nil_or_concat l with h | ⟨a, c, h⟩
    · subst h; simp at hl
    · have h' : l = a ++ [c] := by simpa using h
      subst h'
      simp at hl
      obtain ⟨i0, i1, i2, i3, i4⟩ := ih a hl (fun d hd => hall d (by simp [hd]))
      obtain ⟨v0, v1, v2⟩ := (hexV_bd c).1 (hall c (by simp))
      rw [hexAcc_snoc, numOf_snoc, ← v2]
      unfold accH
      by_cases hb : numOf 16 a ≤ 1099511627776
      · rw [i3 hb, if_pos hb]
        refine ⟨by omega, by omega, by omega, fun _ => by omega, fun _ => by omega⟩
      · have := i4 (by omega)
        rw [if_neg (by omega)]
        exact ⟨by omega, i1, i2, fun _ => by omega, fun _ => this⟩
theorem numR_hex (l : List UInt8) (h0 : l ≠ []) (hall : ∀ c ∈ l, hexB c = true) : numR 16 l 1099511627776 = if 1099511627776 < hexAcc l then (0, 12) else (hexAcc l, 0) := by
  obtain ⟨_, _, _, i3, i4⟩ := hexAcc_is _ l rfl hall
  unfold numR
  have h1 : (l.isEmpty || l.any (fun c => decide (16 ≤ valI (c.toNat : Int)))) = false := by
    rw [Bool.or_eq_false_iff]
    refine ⟨by simpa using h0, ?_⟩
    rw [List.any_eq_false]
    intro c hc
    obtain ⟨_, v1, v2⟩ := (hexV_bd c).1 (hall c hc)
    simp
    omega
  rw [h1]
  by_cases hb : 1099511627776 < numOf 16 l
  · rw [if_neg (by decide), if_pos hb, if_pos (i4 hb)]
  · rw [if_neg (by decide), if_neg hb, if_neg (by rw [i3 (by omega)]; exact hb), i3 (by omega)]
theorem tw_all_hex : ∀ (l : List UInt8), ∀ c ∈ l.takeWhile hexB, hexB c = true
  | [], _, h => by simp at h
  | x :: l, c, h => by
    rw [List.takeWhile_cons] at h
    split at h
    · rcases List.mem_cons.1 h with rfl | h
      · assumption
      · exact tw_all_hex l c h
    · simp at h
set_option maxHeartbeats 4000000 in
theorem rParseSize_any (s : ByteArray) (hs : s.size ≤ 4000000) (w : World) :
    Calls Tryz.prog 82 #[.string s] w fun e w' => ∃ v, e = .returned (.tuple #[.int .i64 (sizeR s.data.toList).1, v, .int .i64 (sizeR s.data.toList).2.2]) ∧ OwnP 167 w.heap.size v (sizeR s.data.toList).2.1 w' ∧ Below w.heap.size w w' := by
  by_cases hbig : 254 < s.size
  · have e : sizeR s.data.toList = (0, [], 100) := by unfold sizeR; rw [if_pos (by rw [size_list]; exact hbig)]
    rw [e]
    go_enter Tryz.func82, Tryz.ntmps82
    go_wp2
    go_ret3
    exact ⟨.slice none 0 0, rfl, ownP_nil _ _ _, Below.refl _ _⟩
  have HZ : Hid (sizeR s.data.toList = if s.data.toList.takeWhile hexB = [] ∨ (paramsR (s.data.toList.dropWhile hexB)).2.2 ≠ 0 ∨ trim ((s.data.toList.dropWhile hexB).drop (paramsR (s.data.toList.dropWhile hexB)).2.1.toNat) ≠ [] then (0, [], 100)
    else if (numR 16 (s.data.toList.takeWhile hexB) 1099511627776).2 ≠ 0 then (0, [], 102) else ((numR 16 (s.data.toList.takeWhile hexB) 1099511627776).1, (paramsR (s.data.toList.dropWhile hexB)).1, 0)) := by
    show sizeR _ = _
    unfold sizeR
    rw [if_neg (by rw [size_list]; exact hbig)]
  have hsm : s.size ≤ 254 := by omega
  clear hbig hs
  go_enter Tryz.func82, Tryz.ntmps82
  go_wp2
  go_loopw [5, 6] (fun nv iv wr => ∃ (k : Nat) (n : Int), k ≤ s.size ∧ iv = .int .i64 k ∧ nv = .int .i64 n ∧ 0 ≤ n ∧ n ≤ 17592186044431 ∧ Hid (n = hexAcc (s.data.toList.take k) ∧ (∀ c ∈ s.data.toList.take k, hexB c = true) ∧ s.data.toList.takeWhile hexB = s.data.toList.take k ++ (s.data.toList.drop k).takeWhile hexB ∧ s.data.toList.dropWhile hexB = (s.data.toList.drop k).dropWhile hexB) ∧ Hid (Below w.heap.size w wr)) (fun _ iv _ => s.size - (intOf iv).toNat)
  case atStart => exact ⟨0, 0, Nat.zero_le _, rfl, rfl, by decide, by decide, (⟨rfl, fun c h => by simp at h, by simp, by simp⟩ : (0 : Int) = hexAcc (s.data.toList.take 0) ∧ (∀ c ∈ s.data.toList.take 0, hexB c = true) ∧ s.data.toList.takeWhile hexB = s.data.toList.take 0 ++ (s.data.toList.drop 0).takeWhile hexB ∧ s.data.toList.dropWhile hexB = (s.data.toList.drop 0).dropWhile hexB), Below.refl _ _⟩
  case round =>
    obtain ⟨k, n, hk, rfl, rfl, n0, n1, hst, hbl⟩ := hrel
    have hcase : (∃ h : k < s.size, hexB (s.data.toList.getD k 0) = true) ∨ ((k < s.size → hexB (s.data.toList.getD k 0) = false)) := by
      by_cases h : k < s.size
      · cases hx : hexB (s.data.toList.getD k 0) with
        | true => exact .inl ⟨h, rfl⟩
        | false => exact .inr (fun _ => rfl)
      · exact .inr (fun e => absurd e h)
    rcases hcase with ⟨hlt, hx⟩ | hno
    · obtain ⟨v0, v1, hv2⟩ := (hexV_bd _).1 hx
      clear hv2
      have hby : ((s[k].toNat : Nat) : Int) = byt s k := byt_at s k hlt
      have HX : Hid (∀ w, Calls Tryz.prog 105 #[.int .u8 (byt s k)] w fun e w' => e = .returned (.int .i64 (hexV (s.data.toList.getD k 0))) ∧ Below w.heap.size w w') := fun w => rhex_any (s.data.toList.getD k 0) w
      have HNn : Hid (accH n (s.data.toList.getD k 0) = hexAcc (s.data.toList.take (k + 1)) ∧ (∀ c ∈ s.data.toList.take (k + 1), hexB c = true) ∧ s.data.toList.takeWhile hexB = s.data.toList.take (k + 1) ++ (s.data.toList.drop (k + 1)).takeWhile hexB ∧ s.data.toList.dropWhile hexB = (s.data.toList.drop (k + 1)).dropWhile hexB) := by
        obtain ⟨e1, e2, e3, e4⟩ := hst.out
        rw [drop_cons s.data.toList k (by rw [size_list]; exact hlt)] at e3 e4
        rw [List.takeWhile_cons, if_pos hx] at e3
        rw [List.dropWhile_cons, if_pos hx] at e4
        refine ⟨?_, ?_, ?_, e4⟩
        · rw [take_snoc s k hlt, hexAcc_snoc, ← e1]
        · intro c hc
          rw [take_snoc s k hlt, List.mem_append] at hc
          rcases hc with hc | hc
          · exact e2 c hc
          · simp only [List.mem_singleton] at hc; subst hc; exact hx
        · rw [e3, take_snoc s k hlt]; simp
      clear hx
      have HAc : Hid (accH n (s.data.toList.getD k 0) = if n ≤ 1099511627776 then 16 * n + hexV (s.data.toList.getD k 0) else n) := (rfl : accH n _ = _)
      generalize hv : hexV (s.data.toList.getD k 0) = v at *
      generalize hacn : accH n (s.data.toList.getD k 0) = n' at *
      clear hv hacn
      by_cases hb : n ≤ 1099511627776
      · have HA2 : Hid (n' = 16 * n + v) := (by rw [HAc.out, if_pos hb] : n' = _)
        go_wp2_with fail
        refine (HX.out _).mono ?_
        rintro e w2 ⟨rfl, hb2⟩
        have HB2 : Hid (Below w.heap.size w w2) := bel_trans hbl.out hb2
        clear hb2
        go_wp2_with fail
        refine (HX.out _).mono ?_
        rintro e w3 ⟨rfl, hb3⟩
        have HB3 : Hid (Below w.heap.size w w3) := bel_trans HB2.out hb3
        clear hb3
        go_wp2
        go_roundw
        case rel => exact ⟨k + 1, 16 * n + v, by omega, by go_num, rfl, by omega, by omega, (by rw [← HA2.out]; exact HNn.out : _ ∧ _), HB3⟩
        case measure => simp [intOf]; omega
      · have HA2 : Hid (n' = n) := (by rw [HAc.out, if_neg hb] : n' = _)
        go_wp2_with fail
        refine (HX.out _).mono ?_
        rintro e w2 ⟨rfl, hb2⟩
        have HB2 : Hid (Below w.heap.size w w2) := bel_trans hbl.out hb2
        clear hb2
        go_wp2
        go_roundw
        case rel => exact ⟨k + 1, n, by omega, by go_num, rfl, by omega, by omega, (by rw [← HA2.out]; exact HNn.out : _ ∧ _), HB2⟩
        case measure => simp [intOf]; omega
    · have HE : Hid (n = hexAcc (s.data.toList.takeWhile hexB) ∧ s.data.toList.takeWhile hexB = s.data.toList.take k ∧ s.data.toList.dropWhile hexB = s.data.toList.drop k) := by
        obtain ⟨e1, e2, e3, e4⟩ := hst.out
        by_cases hlt : k < s.size
        · rw [drop_cons s.data.toList k (by rw [size_list]; exact hlt)] at e3 e4
          rw [List.takeWhile_cons, if_neg (by rw [hno hlt]; decide), List.append_nil] at e3
          rw [List.dropWhile_cons, if_neg (by rw [hno hlt]; decide), ← drop_cons s.data.toList k (by rw [size_list]; exact hlt)] at e4
          exact ⟨by rw [e3]; exact e1, e3, e4⟩
        · have hd : s.data.toList.drop k = [] := List.drop_eq_nil_of_le (by rw [size_list]; omega)
          rw [hd] at e3 e4
          rw [List.takeWhile_nil, List.append_nil] at e3
          rw [hd]
          exact ⟨by rw [e3]; exact e1, e3, e4⟩
      obtain ⟨R, hR⟩ : ∃ R, R = s.extract k s.size := ⟨_, rfl⟩
      have hRz : R.size = s.size - k := by rw [hR]; exact size_ext s k hk
      have HRl : Hid (s.data.toList.dropWhile hexB = R.data.toList) := (by rw [hR, Lib.extract_to_end]; exact HE.out.2.2 : s.data.toList.dropWhile hexB = _)
      have HNum : Hid (k ≠ 0 → numR 16 (s.data.toList.takeWhile hexB) 1099511627776 = if 1099511627776 < n then (0, 12) else (n, 0)) := fun h => by
        have h1 := numR_hex (s.data.toList.takeWhile hexB) (fun e => by
          have h2 := HE.out.2.1
          rw [e] at h2
          have h3 := congrArg List.length h2
          rw [List.length_take, size_list, Nat.min_eq_left hk] at h3
          exact h h3.symm) (tw_all_hex _)
        rw [← HE.out.1] at h1
        exact h1
      have HTk : Hid (s.data.toList.takeWhile hexB = [] ↔ k = 0) := by
        show _ ↔ _
        rw [HE.out.2.1]
        constructor
        · intro e
          have h3 := congrArg List.length e
          rw [List.length_take, size_list, Nat.min_eq_left hk] at h3
          exact h3
        · intro e; subst e; simp
      have HDr : Hid (∀ m : Nat, R.data.toList.drop m = (s.extract (k + m) s.size).data.toList) := fun m => by rw [hR, Lib.extract_to_end, Lib.extract_to_end, List.drop_drop]
      have HP : Hid (∀ w, Calls Tryz.prog 106 #[.string R] w fun e w' => ∃ v, e = .returned (.tuple #[v, .int .i64 (paramsR R.data.toList).2.1, .bool ((paramsR R.data.toList).2.2 == 0)]) ∧ OwnP 167 w.heap.size v (paramsR R.data.toList).1 w' ∧ Below w.heap.size w w') := fun w => rParams_any R (by omega) w
      rw [HRl.out] at HZ
      have hxlt : k < s.size → ((s[k]!.toNat : Nat) : Int) = ((s[k]!.toNat : Nat) : Int) := fun _ => rfl
      clear hxlt
      have hts : ¬ ((k : Int) < (s.size : Int)) ∨ ∃ h : k < s.size, ((s[k].toNat : Nat) : Int) = byt s k ∧ (∀ w, Calls Tryz.prog 105 #[.int .u8 (byt s k)] w fun e w' => e = .returned (.int .i64 (-1)) ∧ Below w.heap.size w w') := by
        by_cases h1 : k < s.size
        · right
          refine ⟨h1, byt_at s _ h1, fun w => ?_⟩
          have h2 := rhex_any (s.data.toList.getD k 0) w
          rw [(hexV_bd _).2 (hno h1)] at h2
          exact h2
        · left; omega
      have HRE : Hid (R = s.extract k s.size) := hR
      clear hno hst HE HRl hR
      have HPs : Hid (∀ w1 : World, Below w.heap.size w w1 → Calls Tryz.prog 106 #[.string R] w1 fun e w' => ∃ v, e = .returned (.tuple #[v, .int .i64 (paramsR R.data.toList).2.1, .bool ((paramsR R.data.toList).2.2 == 0)]) ∧ OwnP 167 w.heap.size v (paramsR R.data.toList).1 w' ∧ Below w.heap.size w w') := fun w1 hb => (HP.out w1).mono (fun e w' ⟨v, h1, ho, h3⟩ => ⟨v, h1, ⟨ho.1, by
        rcases ho.2 with h | ⟨g, cap, cur, e, hg, r⟩
        · exact .inl h
        · exact .inr ⟨g, cap, cur, e, Nat.le_trans hb.size hg, r⟩⟩, bel_trans hb h3⟩)
      clear HP
      by_cases hk0 : k = 0
      · have HZ2 : Hid (sizeR s.data.toList = (0, [], 100)) := (by rw [HZ.out, if_pos (.inl (HTk.out.2 hk0))] : sizeR _ = _)
        have hk0' : ((k : Int) == 0) = true := by simp [hk0]
        clear HZ HNum HDr HTk hk0
        rcases hts with t1 | ⟨h1, t2, t3⟩
        · go_wp2_with fail
          rw [← HRE.out]
          refine (HPs.out _ hbl.out).mono ?_
          rintro e w2 ⟨v, rfl, ho, hb2⟩
          have HB2 : Hid (Below w.heap.size w w2) := hb2
          clear hb2 ho
          go_wp2
          go_ret3
          rw [HZ2.out]
          exact ⟨.slice none 0 0, rfl, ownP_nil _ _ _, HB2.out⟩
        · have T3 : Hid (∀ w, Calls Tryz.prog 105 #[.int .u8 (byt s k)] w fun e w' => e = .returned (.int .i64 (-1)) ∧ Below w.heap.size w w') := t3
          clear t3
          go_wp2_with fail
          refine (T3.out _).mono ?_
          rintro e w1 ⟨rfl, hb1⟩
          have HB1 : Hid (Below w.heap.size w w1) := bel_trans hbl.out hb1
          clear hb1
          go_wp2_with fail
          rw [← HRE.out]
          refine (HPs.out _ HB1.out).mono ?_
          rintro e w2 ⟨v, rfl, ho, hb2⟩
          have HB2 : Hid (Below w.heap.size w w2) := hb2
          clear hb2 ho
          go_wp2
          go_ret3
          rw [HZ2.out]
          exact ⟨.slice none 0 0, rfl, ownP_nil _ _ _, HB2.out⟩
      · have hk0' : ((k : Int) == 0) = false := by simp; omega
        have hnum := HNum.out hk0
        have hnot : ¬ (s.data.toList.takeWhile hexB = []) := fun e => hk0 (HTk.out.1 e)
        cases hp : prm R.data.toList with
        | none =>
          have hpr := paramsR_none hp
          have HZ2 : Hid (sizeR s.data.toList = (0, [], 100)) := (by rw [HZ.out, hpr, if_pos (.inr (.inl (by decide)))] : sizeR _ = _)
          rw [hpr] at HPs
          clear HZ HNum HDr HTk hp hpr hnot hnum
          rcases hts with t1 | ⟨h1, t2, t3⟩
          · go_wp2_with fail
            rw [← HRE.out]
            refine (HPs.out _ hbl.out).mono ?_
            rintro e w2 ⟨v, rfl, ho, hb2⟩
            have HB2 : Hid (Below w.heap.size w w2) := hb2
            clear hb2 ho
            go_wp2
            go_ret3
            rw [HZ2.out]
            exact ⟨.slice none 0 0, rfl, ownP_nil _ _ _, HB2.out⟩
          · have T3 : Hid (∀ w, Calls Tryz.prog 105 #[.int .u8 (byt s k)] w fun e w' => e = .returned (.int .i64 (-1)) ∧ Below w.heap.size w w') := t3
            clear t3
            go_wp2_with fail
            refine (T3.out _).mono ?_
            rintro e w1 ⟨rfl, hb1⟩
            have HB1 : Hid (Below w.heap.size w w1) := bel_trans hbl.out hb1
            clear hb1
            go_wp2_with fail
            rw [← HRE.out]
            refine (HPs.out _ HB1.out).mono ?_
            rintro e w2 ⟨v, rfl, ho, hb2⟩
            have HB2 : Hid (Below w.heap.size w w2) := hb2
            clear hb2 ho
            go_wp2
            go_ret3
            rw [HZ2.out]
            exact ⟨.slice none 0 0, rfl, ownP_nil _ _ _, HB2.out⟩
        | some x =>
          have hpr := paramsR_some hp
          have hxle := prm_bound hp
          rw [size_list] at hxle
          rw [hpr] at HPs HZ
          obtain ⟨ps, m⟩ := x
          simp only at hxle HPs HZ
          rw [show ((m : Nat) : Int).toNat = m by simp, HDr.out m, hnum] at HZ
          have HTr : Hid (∀ w, Calls Tryz.prog 36 #[.string (s.extract (k + m) s.size)] w fun e w' => e = .returned (.string (str (trim (s.extract (k + m) s.size).data.toList))) ∧ w' = w) := fun w => Fd.rTrim_any _ (by simp [maxLen]; omega) w
          generalize trim (s.extract (k + m) s.size).data.toList = Y at *
          have hkm : k + m ≤ s.size := by omega
          have HZ2 : Hid (sizeR s.data.toList = if Y ≠ [] then (0, [], 100) else if 1099511627776 < n then (0, [], 102) else (n, ps, 0)) := by
            show sizeR _ = _
            rw [HZ.out]
            by_cases hY : Y = []
            · rw [if_neg (by rintro (h | h | h); exact hnot h; exact h rfl; exact h hY), if_neg (show ¬ (Y ≠ []) from fun h => h hY)]
              by_cases hb : 1099511627776 < n
              · simp [hb]
              · simp [hb]
            · rw [if_pos (.inr (.inr hY)), if_pos hY]
          clear HZ HNum HDr HTk hp hpr hnot hnum
          have hY0 : ((str Y).toList.isEmpty = true ∧ Y = []) ∨ ((str Y).toList.isEmpty = false ∧ Y ≠ []) := by
            by_cases hY : Y = []
            · exact .inl ⟨empty_of (by rw [hY]; rfl), hY⟩
            · exact .inr ⟨nonempty_of (by rw [str_size]; exact fun h => hY (List.length_eq_zero_iff.1 h)), hY⟩
          rcases hts with t1 | ⟨h1, t2, t3⟩
          · go_wp2_with fail
            rw [← HRE.out]
            refine (HPs.out _ hbl.out).mono ?_
            rintro e w2 ⟨v, rfl, ho, hb2⟩
            have HB2 : Hid (Below w.heap.size w w2) := hb2
            have HO2 : Hid (OwnP 167 w.heap.size v ps w2) := ho
            clear hb2 ho
            go_wp2_with fail
            refine (HTr.out _).mono ?_
            rintro e w3 ⟨rfl, hw⟩
            rw [hw]
            clear hw
            rcases hY0 with ⟨hY0, hY⟩ | ⟨hY0, hY⟩
            · have HZ3 : Hid (sizeR s.data.toList = if 1099511627776 < n then (0, [], 102) else (n, ps, 0)) := (by rw [HZ2.out, if_neg (show ¬ (Y ≠ []) from fun h => h hY)] : sizeR _ = _)
              clear hY
              generalize str Y = Z at *
              by_cases hb : 1099511627776 < n
              · have HZ4 : Hid (sizeR s.data.toList = (0, [], 102)) := (by rw [HZ3.out, if_pos hb] : sizeR _ = _)
                go_wp2
                go_ret3
                rw [HZ4.out]
                exact ⟨.slice none 0 0, rfl, ownP_nil _ _ _, HB2.out⟩
              · have HZ4 : Hid (sizeR s.data.toList = (n, ps, 0)) := (by rw [HZ3.out, if_neg hb] : sizeR _ = _)
                go_wp2
                go_ret3
                rw [HZ4.out]
                exact ⟨v, rfl, HO2.out, HB2.out⟩
            · have HZ3 : Hid (sizeR s.data.toList = (0, [], 100)) := (by rw [HZ2.out, if_pos hY] : sizeR _ = _)
              clear hY
              generalize str Y = Z at *
              go_wp2
              go_ret3
              rw [HZ3.out]
              exact ⟨.slice none 0 0, rfl, ownP_nil _ _ _, HB2.out⟩
          · have T3 : Hid (∀ w, Calls Tryz.prog 105 #[.int .u8 (byt s k)] w fun e w' => e = .returned (.int .i64 (-1)) ∧ Below w.heap.size w w') := t3
            clear t3
            go_wp2_with fail
            refine (T3.out _).mono ?_
            rintro e w1 ⟨rfl, hb1⟩
            have HB1 : Hid (Below w.heap.size w w1) := bel_trans hbl.out hb1
            clear hb1
            go_wp2_with fail
            rw [← HRE.out]
            refine (HPs.out _ HB1.out).mono ?_
            rintro e w2 ⟨v, rfl, ho, hb2⟩
            have HB2 : Hid (Below w.heap.size w w2) := hb2
            have HO2 : Hid (OwnP 167 w.heap.size v ps w2) := ho
            clear hb2 ho
            go_wp2_with fail
            refine (HTr.out _).mono ?_
            rintro e w3 ⟨rfl, hw⟩
            rw [hw]
            clear hw
            rcases hY0 with ⟨hY0, hY⟩ | ⟨hY0, hY⟩
            · have HZ3 : Hid (sizeR s.data.toList = if 1099511627776 < n then (0, [], 102) else (n, ps, 0)) := (by rw [HZ2.out, if_neg (show ¬ (Y ≠ []) from fun h => h hY)] : sizeR _ = _)
              clear hY
              generalize str Y = Z at *
              by_cases hb : 1099511627776 < n
              · have HZ4 : Hid (sizeR s.data.toList = (0, [], 102)) := (by rw [HZ3.out, if_pos hb] : sizeR _ = _)
                go_wp2
                go_ret3
                rw [HZ4.out]
                exact ⟨.slice none 0 0, rfl, ownP_nil _ _ _, HB2.out⟩
              · have HZ4 : Hid (sizeR s.data.toList = (n, ps, 0)) := (by rw [HZ3.out, if_neg hb] : sizeR _ = _)
                go_wp2
                go_ret3
                rw [HZ4.out]
                exact ⟨v, rfl, HO2.out, HB2.out⟩
            · have HZ3 : Hid (sizeR s.data.toList = (0, [], 100)) := (by rw [HZ2.out, if_pos hY] : sizeR _ = _)
              clear hY
              generalize str Y = Z at *
              go_wp2
              go_ret3
              rw [HZ3.out]
              exact ⟨.slice none 0 0, rfl, ownP_nil _ _ _, HB2.out⟩
end Ck
end Go.Proofs.YtdcfhnbagldilaaGreatDoor
set_option linter.unusedVariables false
set_option linter.unusedSimpArgs false
set_option maxRecDepth 100000
namespace Go.Proofs.YtdcfhnbagldilaaGreatDoor
open Go.RowKit Go.Shelf
namespace Ck
open Oc Tg _root_.Go.Proofs.YtdcfhnbagldilaaGreatDoor.Fd
def hexc (d : Nat) : UInt8 := digs.getD d 0
def hexd (n : Nat) : List UInt8 := if h : n < 16 then [hexc n] else hexd (n / 16) ++ [hexc (n % 16)]
termination_by n
decreasing_by omega
end Ck
end Go.Proofs.YtdcfhnbagldilaaGreatDoor
set_option linter.unusedVariables false
set_option linter.unusedSimpArgs false
set_option maxRecDepth 100000
namespace Go.Proofs.YtdcfhnbagldilaaGreatDoor
open Go.RowKit Go.Shelf
namespace Ck
open Oc Tg _root_.Go.Proofs.YtdcfhnbagldilaaGreatDoor.Fd
end Ck
end Go.Proofs.YtdcfhnbagldilaaGreatDoor
set_option linter.unusedVariables false
set_option linter.unusedSimpArgs false
set_option maxRecDepth 100000
namespace Go.Proofs.YtdcfhnbagldilaaGreatDoor
open Go.RowKit Go.Shelf
namespace Ck
open Oc Tg _root_.Go.Proofs.YtdcfhnbagldilaaGreatDoor.Fd
def K36 : ByteArray := ⟨#[48, 49, 50, 51, 52, 53, 54, 55, 56, 57, 97, 98, 99, 100, 101, 102, 103, 104, 105, 106, 107, 108, 109, 110, 111, 112, 113, 114, 115, 116, 117, 118, 119, 120, 121, 122]⟩
def Tail (f : Nat → Int) (ds : List UInt8) : Prop := ∀ j, j < ds.length → f (65 - ds.length + j) = ((ds.getD j 0).toNat : Int)
theorem Tail.nil (f : Nat → Int) : Tail f [] := fun j hj => by cases hj
theorem Tail.cons {f : Nat → Int} {ds : List UInt8} (h : Tail f ds) (hl : ds.length < 65) (c : UInt8) : Tail (fun j => if j = 64 - ds.length then (c.toNat : Int) else f j) (c :: ds) := by
  intro j hj
  simp only [List.length_cons] at hj ⊢
  cases j with
  | zero =>
    rw [if_pos (by omega)]
    rfl
  | succ j =>
    rw [if_neg (by omega)]
    have := h j (by omega)
    rw [show 65 - (ds.length + 1) + (j + 1) = 65 - ds.length + j from by omega, this]
    rfl
end Ck
end Go.Proofs.YtdcfhnbagldilaaGreatDoor
