/-
  Of the document: Params.
-/
import Derived.Test.YtdbnlpnnfnodnaaDoorCkU
import Derived.Test.YtdbnlpnnfnodnaaDoorFQd
set_option linter.unusedVariables false
set_option linter.unusedSimpArgs false
set_option maxRecDepth 100000
namespace Go.Proofs.YtdbnlpnnfnodnaaDoor
open Go.RowKit Go.Shelf
namespace Ck
open Oc Tg _root_.Go.Proofs.YtdbnlpnnfnodnaaDoor.Fd

theorem dropGet (l : List UInt8) (a j : Nat) : (l.drop a).getD j 0 = l.getD (a + j) 0 := by
  rw [List.getD_eq_getElem?_getD, List.getD_eq_getElem?_getD, List.getElem?_drop]
theorem extTake (s : ByteArray) (i n : Nat) : s.extract i (i + n) = str ((s.data.toList.drop i).take n) := by
  apply eq_list
  rw [str_list, Lib.extract_data, show i + n - i = n by omega]
theorem extTake0 (s : ByteArray) (n : Nat) : s.extract 0 n = str (s.data.toList.take n) := by
  have h := extTake s 0 n
  rw [Nat.zero_add, List.drop_zero] at h
  exact h
theorem rpast_eq (s : ByteArray) (hs : s.size ≤ 4000000) (x : Int) (a P : Nat) (hx : x = (a : Int)) (ha : a ≤ s.size) (hP : a + bl (s.data.toList.drop a) = P) (w : World) :
    Calls Tryd.prog 37 #[.string s, .int .i64 x] w fun e w' => e = .returned (.int .i64 (P : Int)) ∧ w' = w := by
  subst hx
  rw [← hP]
  exact rpast_any s hs a ha w
theorem rsign_eq (s : ByteArray) (hs : s.size ≤ 4000000) (x : Int) (a n : Nat) (hx : x = (a : Int)) (ha : a ≤ s.size) (hn : tokLen (s.data.toList.drop a) = n) (w : World) :
    Calls Tryd.prog 38 #[.string s, .int .i64 x] w fun e w' => e = .returned (.int .i64 (n : Int)) ∧ w' = w := by
  subst hx
  rw [← hn]
  exact rsign_any s hs a ha w
theorem infoPr : (Tryd.prog.info? 46).map (fun i => (i.zero, i.size, i.bytes)) = some (some (.agg #[.string ⟨#[]⟩, .string ⟨#[]⟩, .bool false]), 3, 40) := by kernel_rfl

theorem rq_zero {r : List UInt8} (h : tokLen r = 0) : rp r = some ((r.take 0, [], false), 0) := by
  unfold rp
  rw [h, if_neg]
  simp [told]
theorem rq_bare {r : List UInt8} {n : Nat} (h : tokLen r = n) (h2 : told r n = false) : rp r = some ((r.take n, [], false), n) := by
  unfold rp
  rw [h, h2]
  rfl
theorem rq_tok {r : List UInt8} {n m : Nat} (h : tokLen r = n) (h2 : told r n = true) (h3 : tokLen (r.drop (n + 1)) = m) (h4 : 0 < m) : rp r = some ((r.take n, (r.drop (n + 1)).take m, true), n + 1 + m) := by
  unfold rp
  rw [h, h2, if_pos rfl]
  unfold rv
  rw [h3, if_pos h4]
  rfl
theorem rq_quo {r : List UInt8} {n m : Nat} (h : tokLen r = n) (h2 : told r n = true) (h3 : tokLen (r.drop (n + 1)) = 0) (h4 : qlen (r.drop (n + 1)) = m) (h5 : m ≠ 0) :
    rp r = some ((r.take n, psay false (((r.drop (n + 1)).drop 1).take (m - 2)), true), n + 1 + m) := by
  unfold rp
  rw [h, h2, if_pos rfl]
  unfold rv
  rw [h3, h4, if_neg (by omega), if_neg h5]
  rfl
theorem rq_err {r : List UInt8} {n : Nat} (h : tokLen r = n) (h2 : told r n = true) (h3 : tokLen (r.drop (n + 1)) = 0) (h4 : qlen (r.drop (n + 1)) = 0) : rp r = none := by
  unfold rp
  rw [h, h2, if_pos rfl]
  unfold rv
  rw [h3, h4, if_neg (by omega), if_pos rfl]
  rfl
theorem qlen_not {s : ByteArray} (h : s.size = 0 ∨ byt s 0 ≠ 34) : qlen s.data.toList = 0 := by
  cases hl : s.data.toList with
  | nil => rfl
  | cons c l =>
    rw [qlen_cons, if_neg]
    rintro rfl
    rcases h with h | h
    · rw [← size_list, hl] at h; simp at h
    · apply h; unfold byt; rw [hl]; rfl

set_option maxHeartbeats 1000000 in
theorem rParams_any (s : ByteArray) (hs : s.size ≤ 4000000) (w : World) :
    Calls Tryd.prog 17 #[.string s] w fun e w' => ∃ v, e = .returned (.tuple #[v, .int .i64 (paramsR s.data.toList).2.1, .bool ((paramsR s.data.toList).2.2 == 0)]) ∧ OwnP 46 w.heap.size v (paramsR s.data.toList).1 w' ∧ Below w.heap.size w w' := by
  go_enter Tryd.func17, Tryd.ntmps17
  go_wp2
  go_loopw [5, 6] (fun lv ev wr => ∃ (e0 : Nat) (acc : List Prm), e0 ≤ s.size ∧ ev = .int .i64 e0 ∧ acc.length ≤ e0 ∧ Hid (prm s.data.toList = (prm (s.data.toList.drop e0)).map (fun y => (acc ++ y.1, e0 + y.2))) ∧ Hid (OwnP 46 w.heap.size lv acc wr) ∧ Hid (Below w.heap.size w wr)) (fun _ ev _ => s.size - (intOf ev).toNat)
  case atStart => exact ⟨0, [], Nat.zero_le _, rfl, Nat.le_refl _, (by simp : prm s.data.toList = (prm (s.data.toList.drop 0)).map (fun y => ([] ++ y.1, 0 + y.2))), ownP_nil _ _ _, Below.refl _ w⟩
  case round =>
    obtain ⟨e0, acc, he0, rfl, hacc, hst, hown, hbl⟩ := hrel
    have hsz := hbl.out.size
    have hb1 := bl_le (s.data.toList.drop e0)
    rw [List.length_drop, size_list] at hb1
    obtain ⟨c1, hc1⟩ : ∃ c1, c1 = bl (s.data.toList.drop e0) := ⟨_, rfl⟩
    obtain ⟨P, hP⟩ : ∃ P, e0 + c1 = P := ⟨_, rfl⟩
    have HP : Hid (e0 + bl (s.data.toList.drop e0) = P) := (by rw [← hc1]; exact hP : e0 + bl (s.data.toList.drop e0) = P)
    rw [← hc1] at hb1
    have hPs : P ≤ s.size := by omega
    have HSemi : Hid (semi (s.data.toList.drop e0) c1 = decide (P < s.size ∧ byt s P = 59)) := by
      show semi _ _ = _
      unfold semi byt
      rw [List.length_drop, size_list, Bool.eq_iff_iff, decide_eq_true_iff, decide_eq_true_iff, dropGet, hP]
      constructor
      · rintro ⟨h1, h2⟩; exact ⟨by omega, by rw [h2]; rfl⟩
      · rintro ⟨h1, h2⟩; exact ⟨by omega, UInt8.toNat_inj.1 (by show _ = 59; omega)⟩
    have HStop : Hid (semi (s.data.toList.drop e0) c1 = false → paramsR s.data.toList = (acc, (e0 : Int), 0)) := fun h => paramsR_some (x := (acc, e0)) (by rw [hst.out, prm_end (pstep_stop (by rw [← hc1]; exact h))]; simp)
    by_cases hgo : P < s.size ∧ byt s P = 59
    · have HGo : Hid (semi (s.data.toList.drop e0) (bl (s.data.toList.drop e0)) = true) := (by rw [← hc1, HSemi.out]; exact decide_eq_true hgo : semi _ _ = true)
      obtain ⟨hg1, hg2⟩ := hgo
      have hby : ((s[P].toNat : Nat) : Int) = byt s P := byt_at s _ hg1
      have hge : ¬ ((s.size : Int) ≤ (P : Int)) := by omega
      have h59 : (byt s P != 59) = false := by simp [hg2]
      have HD1 : Hid (s.data.toList.drop (P + 1) = (s.data.toList.drop e0).drop (c1 + 1)) := (by rw [List.drop_drop, ← hP, Nat.add_assoc] : s.data.toList.drop (P + 1) = _)
      have hb2 := bl_le (s.data.toList.drop (P + 1))
      rw [List.length_drop, size_list] at hb2
      obtain ⟨c2, hc2⟩ : ∃ c2, c2 = bl (s.data.toList.drop (P + 1)) := ⟨_, rfl⟩
      obtain ⟨Q, hQ⟩ : ∃ Q, P + 1 + c2 = Q := ⟨_, rfl⟩
      have HQ : Hid (P + 1 + bl (s.data.toList.drop (P + 1)) = Q) := (by rw [← hc2]; exact hQ : P + 1 + bl (s.data.toList.drop (P + 1)) = Q)
      rw [← hc2] at hb2
      obtain ⟨r3, hr3⟩ : ∃ r3, r3 = s.data.toList.drop Q := ⟨_, rfl⟩
      have h3 : ((s.data.toList.drop e0).drop (c1 + 1)).drop c2 = r3 := by rw [hr3, ← HD1.out, List.drop_drop, hQ]
      have hc2' : bl ((s.data.toList.drop e0).drop (c1 + 1)) = c2 := by rw [← HD1.out]; exact hc2.symm
      have HBad : Hid (rp r3 = none → paramsR s.data.toList = ([], 0, 15)) := fun h => paramsR_none (by rw [hst.out, prm_none (pstep_bad HGo.out (by rw [← hc1, hc2', h3]; exact h))]; rfl)
      have HEmpty : Hid (∀ x, rp r3 = some x → x.2 = 0 → prm s.data.toList = (prm (s.data.toList.drop (P + 1))).map (fun y => (acc ++ y.1, (P + 1) + y.2))) := fun x h h0 => by
        have h := prm_step hst.out (pstep_empty HGo.out (x := x) (by rw [← hc1, hc2', h3]; exact h) h0)
        simp only [← hc1, List.append_nil, show e0 + (c1 + 1) = P + 1 by omega] at h
        exact h
      have HOne : Hid (∀ x, rp r3 = some x → x.2 ≠ 0 → prm s.data.toList = (prm (s.data.toList.drop (Q + x.2))).map (fun y => ((acc ++ [x.1]) ++ y.1, (Q + x.2) + y.2))) := fun x h h0 => by
        have h := prm_step hst.out (pstep_one HGo.out (x := x) (by rw [← hc1, hc2', h3]; exact h) h0)
        simp only [← hc1, hc2', show e0 + (c1 + 1 + c2 + x.2) = Q + x.2 by omega] at h
        exact h
      have hQs : Q ≤ s.size := by omega
      have hQe : e0 + 1 ≤ Q := by omega
      have hPe : e0 ≤ P := by omega
      have hPQ : P + 1 ≤ Q := by omega
      have hn3 := tokLen_le r3
      rw [hr3, List.length_drop, size_list, ← hr3] at hn3
      have HTD : Hid (∀ n, told r3 n = decide (0 < n ∧ Q + n < s.size ∧ byt s (Q + n) = 61)) := by
        intro n
        unfold told byt
        rw [hr3, List.length_drop, size_list, Bool.eq_iff_iff, decide_eq_true_iff, decide_eq_true_iff, dropGet]
        constructor
        · rintro ⟨h0, h1, h2⟩; exact ⟨h0, by omega, by rw [h2]; rfl⟩
        · rintro ⟨h0, h1, h2⟩; exact ⟨h0, by omega, UInt8.toNat_inj.1 (by show _ = 61; omega)⟩
      have HNx : Hid (∀ n, r3.drop n = s.data.toList.drop (Q + n)) := fun n => by rw [hr3, List.drop_drop]
      have HR3 : Hid (r3 = s.data.toList.drop Q) := hr3
      clear hg2 HSemi HStop h3 hc2 hc2' hr3 hQ hP hc1 HGo HD1 hb1 hb2
      go_wp2_with fail
      refine (rpast_eq s hs _ e0 P rfl he0 HP.out _).mono ?_
      rintro e w2 ⟨rfl, rfl⟩
      go_wp2_with fail
      refine (rpast_eq s hs _ (P + 1) Q (by omega) (by omega) HQ.out _).mono ?_
      rintro e w3 ⟨rfl, rfl⟩
      obtain ⟨n, hn⟩ : ∃ n, tokLen r3 = n := ⟨_, rfl⟩
      rw [hn] at hn3
      have HTok : Hid (tokLen r3 = n) := hn
      go_wp2_with fail
      refine (rsign_eq s hs _ Q n rfl hQs (by rw [← HR3.out]; exact HTok.out) _).mono ?_
      rintro e w4 ⟨rfl, rfl⟩
      by_cases hz : n = 0
      · have HN' : Hid (prm s.data.toList = (prm (s.data.toList.drop (P + 1))).map (fun y => (acc ++ y.1, (P + 1) + y.2))) := HEmpty.out _ (rq_zero (by rw [HTok.out, hz])) rfl
        subst hz
        clear hn
        go_wp2
        go_roundw
        case rel => exact ⟨P + 1, acc, by omega, by go_num, by omega, HN', hown, hbl⟩
        case measure => simp [intOf]; omega
      · clear hn
        have HNm : Hid (s.extract Q (Q + n) = str (r3.take n)) := (by rw [extTake, HR3.out] : s.extract Q (Q + n) = _)
        have hn0 : ((n : Int) == 0) = false := by simp; omega
        by_cases htd : Q + n < s.size ∧ byt s (Q + n) = 61
        · have HTold : Hid (told r3 n = true) := (by rw [HTD.out n]; exact decide_eq_true ⟨by omega, htd⟩ : told r3 n = true)
          obtain ⟨ht1, ht2⟩ := htd
          have hby3 : ((s[Q + n].toNat : Nat) : Int) = byt s (Q + n) := byt_at s _ ht1
          have h61 : (byt s (Q + n) == 61) = true := by simp [ht2]
          have HRl : Hid ((s.extract (Q + n + 1) s.size).data.toList = r3.drop (n + 1)) := (by rw [Lib.extract_to_end, HNx.out]; rfl : (s.extract (Q + n + 1) s.size).data.toList = _)
          have hRz : (s.extract (Q + n + 1) s.size).size = s.size - (Q + n + 1) := size_ext s (Q + n + 1) (by omega)
          obtain ⟨R, hR⟩ : ∃ R, R = s.extract (Q + n + 1) s.size := ⟨_, rfl⟩
          have HRE : Hid (R = s.extract (Q + n + 1) s.size) := hR
          rw [← hR] at HRl hRz
          clear hR
          have hRs : R.size ≤ 4000000 := by omega
          obtain ⟨m, hm⟩ : ∃ m, tokLen (r3.drop (n + 1)) = m := ⟨_, rfl⟩
          have HM : Hid (tokLen (r3.drop (n + 1)) = m) := hm
          have hml := tokLen_le (r3.drop (n + 1))
          rw [hm, ← HRl.out, size_list] at hml
          clear ht2 hm
          go_wp2_with fail
          rw [← HRE.out]
          refine (rsign_eq R hRs _ 0 m rfl (by omega) (by rw [List.drop_zero, HRl.out]; exact HM.out) _).mono ?_
          rintro e w5 ⟨rfl, hw⟩
          rw [hw]
          clear hw
          by_cases hm0 : 0 < m
          · have HN' : Hid (prm s.data.toList = (prm (s.data.toList.drop (Q + (n + 1 + m)))).map (fun y => ((acc ++ [(r3.take n, (r3.drop (n + 1)).take m, true)]) ++ y.1, (Q + (n + 1 + m)) + y.2))) := HOne.out _ (rq_tok HTok.out HTold.out HM.out hm0) (by show n + 1 + m ≠ 0; omega)
            have HVal : Hid (R.extract 0 m = str ((r3.drop (n + 1)).take m)) := (by rw [extTake0, HRl.out] : R.extract 0 m = _)
            have HO5 : Hid (∀ o, OwnP 46 w.heap.size _ acc (w4.alloc o)) := fun o => hown.out.below ((Below.refl _ _).alloc (Nat.le_refl _) o)
            have HB5 : Hid (∀ o, Below w.heap.size w (w4.alloc o)) := fun o => hbl.out.alloc hsz o
            have hmz : (0 : Int) < (m : Int) := by omega
            go_wp2_with (at_builtin; go_must (refine wp_appP 46 27 infoPr Tryd.underlying27 rfl (.tmp 89) (.tmp 91) rfl w.heap.size _ acc _ (r3.take n, (r3.drop (n + 1)).take m, true) _ _ HNm.out HVal.out _ rfl rfl (HO5.out _) _ rfl (by simp) ?h1 ?h2 ?_))
            case h1 => omega
            case h2 => first | omega | (simp; omega)
            intro v6 w6 hown6 hb6
            have HO6 : Hid (OwnP 46 w.heap.size v6 (acc ++ [(r3.take n, (r3.drop (n + 1)).take m, true)]) w6) := hown6
            have HB6 : Hid (Below w.heap.size w w6) := (HB5.out _).trans hb6
            clear hown6 hb6
            go_wp2
            go_roundw
            case rel => exact ⟨Q + (n + 1 + m), _, by omega, by go_num, by simp; omega, HN', HO6, HB6⟩
            case measure => simp [intOf]; omega
          · obtain rfl : m = 0 := by omega
            have hRq : R.size = 0 ∨ 0 < R.size := by omega
            by_cases hq34 : R.size = 0 ∨ byt R 0 ≠ 34
            · have HN : Hid (paramsR s.data.toList = ([], 0, 15)) := HBad.out (rq_err HTok.out HTold.out HM.out (by rw [← HRl.out]; exact qlen_not hq34))
              have HB5 : Hid (∀ o, Below w.heap.size w (w4.alloc o)) := fun o => hbl.out.alloc hsz o
              by_cases hR0 : R.size = 0
              · have hRe : R.toList.isEmpty = true := empty_of hR0
                go_wp2
                go_ret3
                rw [HN.out]
                exact ⟨_, rfl, ownP_nil _ _ _, HB5.out _⟩
              · have hR1 : 0 < R.size := by omega
                have hRe : R.toList.isEmpty = false := nonempty_of hR0
                have hby5 : ((R[0].toNat : Nat) : Int) = byt R 0 := byt_at R 0 hR1
                have hne : (byt R 0 != 34) = true := by
                  rcases hq34 with h | h
                  · omega
                  · simp [h]
                clear hq34
                go_wp2
                go_ret3
                rw [HN.out]
                exact ⟨_, rfl, ownP_nil _ _ _, HB5.out _⟩
            · have hR1 : 0 < R.size := by omega
              have hq34' : byt R 0 = 34 := by
                by_cases h : byt R 0 = 34
                · exact h
                · exact absurd (.inr h) hq34
              clear hq34
              have hR0 : R.size ≠ 0 := by omega
              have hRe : R.toList.isEmpty = false := nonempty_of hR0
              have hby5 : ((R[0].toNat : Nat) : Int) = byt R 0 := byt_at R 0 hR1
              have hne : (byt R 0 != 34) = false := by simp [hq34']
              have HQd : Hid (∀ w, Calls Tryd.prog 39 #[.string R] w fun e w' => e = .returned (.int .i64 (qlen R.data.toList : Nat)) ∧ w' = w) := fun w => rQuoted_any R (by omega) hR1 hq34' w
              obtain ⟨k, hk⟩ : ∃ k, qlen R.data.toList = k := ⟨_, rfl⟩
              rw [hk] at HQd
              have HK : Hid (qlen R.data.toList = k) := hk
              have hkl := (qlen_bd R.data.toList).1
              rw [hk, size_list] at hkl
              clear hk hq34'
              have HB5 : Hid (∀ o, Below w.heap.size w (w4.alloc o)) := fun o => hbl.out.alloc hsz o
              have HO5 : Hid (∀ o, OwnP 46 w.heap.size _ acc (w4.alloc o)) := fun o => hown.out.below ((Below.refl _ _).alloc (Nat.le_refl _) o)
              by_cases hk0 : k = 0
              · have HN : Hid (paramsR s.data.toList = ([], 0, 15)) := HBad.out (rq_err HTok.out HTold.out HM.out (by rw [← HRl.out, HK.out]; exact hk0))
                subst hk0
                go_wp2_with fail
                refine (HQd.out _).mono ?_
                rintro e w6 ⟨rfl, hw⟩
                rw [hw]
                clear hw
                go_wp2
                go_ret3
                rw [HN.out]
                exact ⟨_, rfl, ownP_nil _ _ _, HB5.out _⟩
              · have hkz : ((k : Int) == 0) = false := by simp; omega
                obtain ⟨X, hX⟩ : ∃ X, X = psay false ((R.data.toList.drop 1).take (k - 2)) := ⟨_, rfl⟩
                have HN' : Hid (prm s.data.toList = (prm (s.data.toList.drop (Q + (n + 1 + k)))).map (fun y => ((acc ++ [(r3.take n, X, true)]) ++ y.1, (Q + (n + 1 + k)) + y.2))) := by
                  have h := HOne.out _ (rq_quo HTok.out HTold.out HM.out (by rw [← HRl.out]; exact HK.out) hk0) (by show n + 1 + k ≠ 0; omega)
                  rw [← HRl.out, ← hX] at h
                  exact h
                have HSd : Hid (∀ w, Calls Tryd.prog 40 #[.string R, .int .i64 k] w fun e w' => e = .returned (.string (str X)) ∧ Below w.heap.size w w') := fun w => by
                  have h := rsaid_any R hRs k HK.out.symm hk0 w
                  rw [← hX] at h
                  exact h
                clear hX
                go_wp2_with fail
                refine (HQd.out _).mono ?_
                rintro e w6 ⟨rfl, hw⟩
                rw [hw]
                clear hw
                generalize hy : str X = y at *
                have HY : Hid (y = str X) := hy.symm
                clear hy
                go_wp2_with fail
                refine (HSd.out _).mono ?_
                rintro e w6 ⟨rfl, hb6⟩
                have k0 : w6.cell? ⟨w4.heap.size, 0, none⟩ = some (.string (s.extract Q (Q + n))) := (hb6.cell (p := ⟨w4.heap.size, 0, none⟩) (by simp)).trans (by simp)
                have k1 : w6.cell? ⟨w4.heap.size, 1, none⟩ = some (.string ⟨#[]⟩) := (hb6.cell (p := ⟨w4.heap.size, 1, none⟩) (by simp)).trans (by simp)
                have k2 : w6.cell? ⟨w4.heap.size, 2, none⟩ = some (.bool true) := (hb6.cell (p := ⟨w4.heap.size, 2, none⟩) (by simp)).trans (by simp)
                have kf : w6.frozen? ⟨w4.heap.size, 1, none⟩ = false := (hb6.frozen (p := ⟨w4.heap.size, 1, none⟩) (by simp)).trans (by simp)
                have hs6 : w4.heap.size < w6.heap.size := by have := hb6.size; simp at this; omega
                have bx : ∀ u, Below w4.heap.size w4 (w6.setCell ⟨w4.heap.size, 1, none⟩ u) := fun u => (((Below.refl _ _).alloc (Nat.le_refl _) _).trans (hb6.mono (by simp))).setCell (Nat.le_refl _) u
                have HO7 : Hid (∀ u, OwnP 46 w.heap.size _ acc (w6.setCell ⟨w4.heap.size, 1, none⟩ u)) := fun u => hown.out.below (bx u)
                have HB7 : Hid (∀ u, Below w.heap.size w (w6.setCell ⟨w4.heap.size, 1, none⟩ u)) := fun u => hbl.out.trans ((bx u).mono hsz)
                clear bx hb6
                go_wp2_with (at_builtin; go_must (refine wp_appP 46 27 infoPr Tryd.underlying27 rfl (.tmp 89) (.tmp 91) rfl w.heap.size _ acc _ (r3.take n, X, true) _ _ HNm.out HY.out _ rfl rfl (HO7.out _) _ rfl (by simp) ?h1 ?h2 ?_))
                case h1 => omega
                case h2 => first | omega | (simp; omega)
                intro v7 w7 hown7 hb7
                have HO8 : Hid (OwnP 46 w.heap.size v7 (acc ++ [(r3.take n, X, true)]) w7) := hown7
                have HB8 : Hid (Below w.heap.size w w7) := (HB7.out _).trans hb7
                clear hown7 hb7
                go_wp2
                go_roundw
                case rel => exact ⟨Q + (n + 1 + k), _, by omega, by go_num, by simp; omega, HN', HO8, HB8⟩
                case measure => simp [intOf]; omega
        · have HTold : Hid (told r3 n = false) := (by rw [HTD.out n]; exact decide_eq_false (fun h => htd h.2) : told r3 n = false)
          have HN' : Hid (prm s.data.toList = (prm (s.data.toList.drop (Q + n))).map (fun y => ((acc ++ [(r3.take n, [], false)]) ++ y.1, (Q + n) + y.2))) := HOne.out _ (rq_bare HTok.out HTold.out) hz
          have HO5 : Hid (∀ o, OwnP 46 w.heap.size _ acc (w4.alloc o)) := fun o => hown.out.below ((Below.refl _ _).alloc (Nat.le_refl _) o)
          have HB5 : Hid (∀ o, Below w.heap.size w (w4.alloc o)) := fun o => hbl.out.alloc hsz o
          have hts : ¬ ((Q : Int) + (n : Int) < (s.size : Int)) ∨ ∃ h : Q + n < s.size, ((s[Q + n].toNat : Nat) : Int) = byt s (Q + n) ∧ (byt s (Q + n) == 61) = false := by
            by_cases h1 : Q + n < s.size
            · right; exact ⟨h1, byt_at s _ h1, by simp; exact fun e => htd ⟨h1, e⟩⟩
            · left; omega
          clear htd
          rcases hts with t1 | ⟨hlt, t2, t3⟩
          all_goals
            go_wp2_with (at_builtin; go_must (refine wp_appP 46 27 infoPr Tryd.underlying27 rfl (.tmp 89) (.tmp 91) rfl w.heap.size _ acc _ (r3.take n, [], false) _ _ HNm.out rfl _ rfl rfl (HO5.out _) _ rfl (by simp) ?h1 ?h2 ?_))
            case h1 => omega
            case h2 => first | omega | (simp; omega)
            intro v6 w6 hown6 hb6
            have HO6 : Hid (OwnP 46 w.heap.size v6 (acc ++ [(r3.take n, [], false)]) w6) := hown6
            have HB6 : Hid (Below w.heap.size w w6) := (HB5.out _).trans hb6
            clear hown6 hb6
            go_wp2
            go_roundw
            case rel => exact ⟨Q + n, _, by omega, by go_num, by simp; omega, HN', HO6, HB6⟩
            case measure => simp [intOf]; omega
    · have HN : Hid (paramsR s.data.toList = (acc, (e0 : Int), 0)) := HStop.out (by rw [HSemi.out]; exact decide_eq_false hgo)
      have hts : ((s.size : Int) ≤ (P : Int)) ∨ ¬ ((s.size : Int) ≤ (P : Int)) ∧ ∃ h : P < s.size, ((s[P].toNat : Nat) : Int) = byt s P ∧ (byt s P != 59) = true := by
        by_cases h1 : P < s.size
        · right
          exact ⟨by omega, h1, byt_at s _ h1, by simp; exact fun e => hgo ⟨h1, e⟩⟩
        · left; omega
      clear hgo HSemi HStop hP hc1 hb1
      rcases hts with t1 | ⟨t1, hlt, t2, t3⟩
      all_goals
        go_wp2_with fail
        refine (rpast_eq s hs _ e0 P rfl he0 HP.out _).mono ?_
        rintro e w2 ⟨rfl, rfl⟩
        go_wp2
        go_ret3
        rw [HN.out]
        exact ⟨_, rfl, hown.out, hbl.out⟩

end Ck
end Go.Proofs.YtdbnlpnnfnodnaaDoor
