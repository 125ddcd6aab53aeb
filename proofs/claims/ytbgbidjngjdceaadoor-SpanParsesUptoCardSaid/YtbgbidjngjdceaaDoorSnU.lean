/-
  span: the document's Parse; SpanParses.
-/
import Derived.Test.YtbgbidjngjdceaaDoorSnR
set_option linter.unusedVariables false
set_option linter.unusedSimpArgs false
namespace Go.Proofs.YtbgbidjngjdceaaDoor
open Go.RowKit Go.Shelf
namespace Sn
open Oc Tg Ac

set_option maxRecDepth 100000 in
set_option maxHeartbeats 4000000 in
theorem rParse_any (s : ByteArray) (hs : s.size ≤ 1048576) (size : Int) (z0 : -9223372036854775808 ≤ size) (z1 : size ≤ 9223372036854775807) (w : World) :
    Calls Tryd.prog 10 #[.string s, .int .i64 size] w fun e w' => ∃ v, e = .returned (.tuple #[v, .int .i64 (parR s.data.toList size).2]) ∧ OwnN 45 w.heap.size v (parR s.data.toList size).1 w' ∧ Below w.heap.size w w' := by
  by_cases hneg : size < 0
  · have HP : Hid (parR s.data.toList size = ([], 1)) := (by unfold parR; rw [if_pos hneg] : parR s.data.toList size = ([], 1))
    go_enter Tryd.func10, Tryd.ntmps10
    go_wp2
    go_ret2
    rw [HP.out]
    exact ⟨_, rfl, ownN_empty _ _ (Nat.le_refl _), (Below.refl _ _).alloc (Nat.le_refl _) _⟩
  have hpos : 0 ≤ size := by omega
  by_cases h6 : s.size < 6
  · have HP : Hid (parR s.data.toList size = ([], 90)) := (parR_ref hpos (elR_short (by rw [size_list]; exact h6)) : parR s.data.toList size = ([], 90))
    clear hneg
    go_enter Tryd.func10, Tryd.ntmps10
    go_wp2
    go_ret2
    rw [HP.out]
    exact ⟨_, rfl, ownN_empty _ _ (Nat.le_refl _), (Below.refl _ _).alloc (Nat.le_refl _) _⟩
  have hge : 6 ≤ s.size := by omega
  have e6 : (s.extract 0 6).data.toList = s.data.toList.take 6 := by rw [Lib.extract_data]; simp
  have eD : s.extract 6 s.size = str (s.data.toList.drop 6) := by
    apply eq_list
    rw [Lib.extract_data, str_list, List.take_of_length_le]
    rw [List.length_drop, size_list]
    omega
  have hu : lowS (str [98, 121, 116, 101, 115, 61]) = str [98, 121, 116, 101, 115, 61] := by decide +kernel
  have HS : Hid (∀ W, Calls Tryd.prog 32 #[.string (s.extract 0 6), .string ⟨#[98, 121, 116, 101, 115, 61]⟩] W fun e w' => e = .returned (.bool (decide (lower (s.data.toList.take 6) = [98, 121, 116, 101, 115, 61]))) ∧ Below W.heap.size W w') := fun W => by
    have h := rSame_any (s.extract 0 6) (str [98, 121, 116, 101, 115, 61]) (by simp; unfold maxLen; omega) (by decide +kernel) W
    have e : decide (lowS (s.extract 0 6) = lowS (str [98, 121, 116, 101, 115, 61])) = decide (lower (s.data.toList.take 6) = [98, 121, 116, 101, 115, 61]) := by
      rw [hu, decide_eq_decide]
      unfold lowS
      rw [e6]
      exact ⟨fun h => str_inj h, fun h => by rw [h]⟩
    rw [e] at h
    exact h
  have dT : (decide (s.size < 6 : Prop)) = false := by simp; omega
  have dI : (decide ((s.size : Int) < 6)) = false := by simp; omega
  by_cases hun : lower (s.data.toList.take 6) = [98, 121, 116, 101, 115, 61]
  · have hl : (s.data.toList.drop 6).length ≤ s.size := by rw [List.length_drop, size_list]; omega
    have HL : Hid (∀ W, Calls Tryd.prog 33 #[.string (s.extract 6 s.size)] W fun e w' => ∃ v, e = .returned (.tuple #[v, .int .i64 (listR (s.data.toList.drop 6)).2]) ∧ OwnS W.heap.size v (listR (s.data.toList.drop 6)).1 w' ∧ Below W.heap.size W w') := fun W => by
      have h := rList_any (str (s.data.toList.drop 6)) (by rw [str_size]; omega) W
      rw [str_list] at h
      rw [eD]
      exact h
    have hel := elR_yes (by rw [size_list]; omega) hun
    rw [decide_eq_true hun] at HS
    have HP1 : Hid ((listR (s.data.toList.drop 6)).2 ≠ 0 ∨ (listR (s.data.toList.drop 6)).1.length = 0 → parR s.data.toList size = ([], 90)) := (fun h => parR_ref hpos (by
      rw [hel]
      rcases h with h | h
      · simp [h]
      · simp at h; simp [h]) : _ → parR s.data.toList size = _)
    have HP2 : Hid ((listR (s.data.toList.drop 6)).2 = 0 → (listR (s.data.toList.drop 6)).1.length ≠ 0 → parR s.data.toList size = ansR size (listR (s.data.toList.drop 6)).1) := (fun h1 h2 => by
      unfold parR
      rw [if_neg hneg, hel, if_neg]
      have h3 : 0 < (listR (s.data.toList.drop 6)).1.length := by omega
      rw [h1, decide_eq_true rfl, decide_eq_true h3]
      simp : _ → _ → parR s.data.toList size = _)
    obtain ⟨l1, l2⟩ := listR_short (s.data.toList.drop 6)
    clear hel hu e6 eD hun hneg
    have htl : (listR (s.data.toList.drop 6)).1.length ≤ 1048577 := by omega
    have HSh : Hid (∀ x ∈ (listR (s.data.toList.drop 6)).1, x.length ≤ 1048576) := (fun x hx => by have := l2 x hx; omega : ∀ x ∈ _, _)
    clear l1 l2 hl
    generalize parR s.data.toList size = PR at *
    generalize (listR (s.data.toList.drop 6)).1 = t at *
    generalize (listR (s.data.toList.drop 6)).2 = er at *
    go_enter Tryd.func10, Tryd.ntmps10
    go_wp2_with fail
    refine (HS.out _).mono ?_
    rintro e w1 ⟨rfl, hb1⟩
    have HB1 : Hid (Below w.heap.size w w1) := hb1
    clear hb1
    go_wp2_with fail
    refine (HL.out _).mono ?_
    rintro e w2 ⟨v, rfl, ho, hb2⟩
    have HB2 : Hid (Below w.heap.size w w2) := bel_trans HB1.out hb2
    have HR2 : Hid (RdS v t w2) := OwnS.rd ho
    obtain ⟨va, vc, rfl⟩ := OwnS.form ho
    clear ho hb2 HL HS
    have hz2 := HB2.out.size
    by_cases hz : er = 0
    · subst hz
      by_cases hn : t.length = 0
      · have HWr : Hid (PR = ([], 90)) := HP1.out (.inr hn)
        have hn' : ((t.length : Int) == 0) = true := by rw [beq_iff_eq]; omega
        clear HP1 HP2 hn
        go_wp2
        go_ret2
        rw [HWr.out]
        exact ⟨_, rfl, ownN_empty _ _ hz2, HB2.out.alloc hz2 _⟩
      have HW : Hid (PR = ansR size t) := HP2.out (by simp) hn
      have hn' : ((t.length : Int) == 0) = false := by rw [beq_eq_false_iff_ne]; omega
      clear HP1 HP2 hn
      go_wp2
      go_loopw [8, 9] (fun lv iv wr => ∃ k : Nat, k ≤ t.length ∧ iv = .int .i64 k ∧ Hid (∀ j, j < k → (askP (t.getD j []) size).2 = true) ∧ Hid (OwnN 45 w2.heap.size lv ((t.take k).filterMap (keepN size)) wr) ∧ Hid (Below w2.heap.size w2 wr)) (fun _ iv _ => t.length - (intOf iv).toNat)
      case atStart => exact ⟨0, Nat.zero_le _, rfl, (fun j hj => by omega : ∀ j, j < 0 → _), ownN_empty _ _ (Nat.le_refl _), (Below.refl _ _).alloc (Nat.le_refl _) _⟩
      case round =>
        obtain ⟨k, hk, rfl, hall, hown, hbl⟩ := hrel
        by_cases hlt : k < t.length
        · have hsz := hbl.out.size
          obtain ⟨a', c', e', hcs⟩ := HR2.out.below hbl.out
          injection e' with e1 _ e2
          subst e1 e2
          rcases hcs with h | ⟨g, o, rfl, hlc, hcell⟩
          · rw [h] at hlt; simp at hlt
          have p0 := hcell k hlt
          clear hcell
          have hxl := getD_short HSh.out k hlt
          have HRW : Hid (∀ w, Calls Tryd.prog 34 #[.string (str (t.getD k [])), .int .i64 size] w fun e w' => e = .returned (.tuple #[.agg #[.int .i64 (oneR (t.getD k []) size).1.1, .int .i64 (oneR (t.getD k []) size).1.2], .bool (oneR (t.getD k []) size).2.1, .bool (oneR (t.getD k []) size).2.2]) ∧ Below w.heap.size w w') := fun w => by
            have := rone_any (str (t.getD k [])) (by rw [str_size]; omega) size hpos z1 w
            rw [str_list] at this
            exact this
          have hok := oneR_ok (t.getD k []) size
          have HErr : Hid ((oneR (t.getD k []) size).2.2 = false → PR = ([], 90)) := (fun h => by rw [HW.out]; exact ansR_bad k hlt (hok.symm.trans h) : _ → PR = _)
          have HNext : Hid ((oneR (t.getD k []) size).2.2 = true → ∀ j, j < k + 1 → (askP (t.getD j []) size).2 = true) := (fun h j hj => by
            by_cases hjk : j = k
            · subst hjk; exact hok.symm.trans h
            · exact hall.out j (by omega) : _ → ∀ j, _)
          have HTk : Hid ((oneR (t.getD k []) size).2.2 = true → (t.take (k + 1)).filterMap (keepN size) = (t.take k).filterMap (keepN size) ++ (if (oneR (t.getD k []) size).2.1 then some (oneR (t.getD k []) size).1 else none).toList) := (fun h => by
            rw [oneR_keep _ _ hpos (hok.symm.trans h)]
            exact take_keep size t k hlt : _ → _ = _)
          have hlk : ((t.take k).filterMap (keepN size)).length + 1 ≤ 2147483648 := by have := keep_len size t k; omega
          clear hok
          generalize (t.take k).filterMap (keepN size) = acc at *
          generalize hK1 : oneR (t.getD k []) size = W1 at *
          obtain ⟨⟨x1, x2⟩, xm, xo⟩ := W1
          dsimp only at *
          clear hK1
          generalize str (t.getD k []) = X at *
          go_wp2_with fail
          refine (HRW.out _).mono ?_
          rintro e w5 ⟨rfl, hb5⟩
          have HB5 : Hid (Below w2.heap.size w2 w5) := bel_trans hbl.out hb5
          have HO5 : Hid (OwnN 45 w2.heap.size _ acc w5) := hown.out.below hb5
          clear hb5
          obtain ⟨w6, hw6⟩ : ∃ w6, w6 = w5.alloc (.cells #[.int .i64 x1, .int .i64 x2] 45) := ⟨_, rfl⟩
          have HPB : Hid (PB 45 w6 w5.heap.size (x1, x2)) := (by rw [hw6]; exact PB.new _ w5 (x1, x2) : PB _ _ _ _)
          have HB56 : Hid (Below w5.heap.size w5 w6) := (by rw [hw6]; exact (Below.refl _ w5).alloc (Nat.le_refl _) _ : Below _ _ _)
          have HB6 : Hid (Below w2.heap.size w2 w6) := bel_trans HB5.out HB56.out
          have HO6 : Hid (OwnN 45 w2.heap.size _ acc w6) := HO5.out.below HB56.out
          have hz6 := HB6.out.size
          have q0 := HPB.out.c0
          have q1 := HPB.out.c1
          have HZ6 : Hid (w6.heap.size = w5.heap.size + 1) := (by rw [hw6]; simp : w6.heap.size = w5.heap.size + 1)
          generalize hg : w5.heap.size = g5 at *
          cases xo with
          | false =>
            have HWr : Hid (PR = ([], 90)) := HErr.out rfl
            go_wp2
            rw [← hw6]
            go_ret2
            rw [HWr.out]
            have hoe := (ownN_empty 45 w6 hz6).mono hz2
            rw [HZ6.out] at hoe
            exact ⟨_, rfl, hoe, (HB2.out.trans (HB6.out.mono hz2)).alloc (by omega) _⟩
          | true =>
            have HN2' : Hid (∀ j, j < k + 1 → (askP (t.getD j []) size).2 = true) := (HNext.out rfl : ∀ j, _)
            have HTk2 := HTk.out rfl
            have HTk' : Hid (_ = _) := HTk2
            clear HErr HNext HTk HTk2
            cases xm with
            | false =>
              have HT2 : Hid ((t.take (k + 1)).filterMap (keepN size) = acc) := (by rw [HTk'.out]; simp : (t.take (k + 1)).filterMap (keepN size) = acc)
              clear HTk'
              go_wp2
              rw [← hw6]
              go_roundw
              case rel => exact ⟨k + 1, by omega, by go_num, HN2', (by rw [HT2.out]; exact HO6.out : OwnN _ _ _ _ _), HB6⟩
              case measure => simp [intOf]; omega
            | true =>
              have HT2 : Hid ((t.take (k + 1)).filterMap (keepN size) = acc ++ [(x1, x2)]) := (by rw [HTk'.out]; simp : (t.take (k + 1)).filterMap (keepN size) = acc ++ [(x1, x2)])
              clear HTk'
              go_wp2_with (at_builtin; rw [← hw6]; go_must (refine wp_appN 45 26 infoN2 Tryd.underlying26 rfl (.tmp 61) (.tmp 63) rfl w2.heap.size _ acc _ (x1, x2) _ _ rfl rfl (by simp [Act.eval, Act.put]) HO6.out _ (by simp [Act.eval, Act.put]) HZ6.out.symm hlk hz6 ?_; intro va7 wa7 hown7 hb7))
              have HO7 : Hid (OwnN 45 w2.heap.size va7 ((t.take (k + 1)).filterMap (keepN size)) wa7) := (by rw [HT2.out]; exact hown7 : OwnN _ _ _ _ _)
              have HB7 : Hid (Below w2.heap.size w2 wa7) := HB6.out.trans hb7
              clear hown7 hb7
              go_wp2
              go_roundw
              case rel => exact ⟨k + 1, by omega, by go_num, HN2', HO7, HB7⟩
              case measure => simp [intOf]; omega
        · obtain rfl : k = t.length := by omega
          have HWr : Hid (PR = (if (t.filterMap (keepN size)).length = 0 then ([], 91) else (t.filterMap (keepN size), 0))) := (by rw [HW.out]; exact ansR_ok hall.out : PR = _)
          rw [List.take_length] at hown
          generalize t.filterMap (keepN size) = acc at *
          obtain ⟨la, lc, rfl⟩ := hown.out.form
          have hszw := hbl.out.size
          by_cases hz : acc.length = 0
          · have hz' : ((acc.length : Int) == 0) = true := by rw [beq_iff_eq]; omega
            have HWs : Hid (PR = ([], 91)) := (by rw [HWr.out, if_pos hz] : PR = _)
            clear HWr hz
            go_wp2
            go_ret2
            rw [HWs.out]
            exact ⟨_, rfl, ownN_empty _ _ (by omega), (HB2.out.trans (hbl.out.mono hz2)).alloc (by omega) _⟩
          · have hz' : ((acc.length : Int) == 0) = false := by rw [beq_eq_false_iff_ne]; omega
            have HWs : Hid (PR = (acc, 0)) := (by rw [HWr.out, if_neg hz] : PR = _)
            clear HWr
            go_wp2
            go_ret2
            rw [HWs.out]
            exact ⟨_, rfl, hown.out.mono hz2, HB2.out.trans (hbl.out.mono hz2)⟩
    · have hz' : (er != 0) = true := by simp [hz]
      have HWr : Hid (PR = ([], 90)) := HP1.out (.inl hz)
      clear HP1 HP2
      go_wp2
      go_ret2
      rw [HWr.out]
      exact ⟨_, rfl, ownN_empty _ _ hz2, HB2.out.alloc hz2 _⟩
  · have HP : Hid (parR s.data.toList size = ([], 90)) := (parR_ref hpos (elR_not hun) : parR s.data.toList size = ([], 90))
    rw [decide_eq_false hun] at HS
    clear hneg hun hu e6 eD
    go_enter Tryd.func10, Tryd.ntmps10
    go_wp2_with fail
    refine (HS.out _).mono ?_
    rintro e w1 ⟨rfl, hb1⟩
    have HB1 : Hid (Below w.heap.size w w1) := hb1
    clear hb1
    go_wp2
    go_ret2
    rw [HP.out]
    exact ⟨_, rfl, ownN_empty _ _ HB1.out.size, HB1.out.alloc HB1.out.size _⟩

end Sn
end Go.Proofs.YtbgbidjngjdceaaDoor
