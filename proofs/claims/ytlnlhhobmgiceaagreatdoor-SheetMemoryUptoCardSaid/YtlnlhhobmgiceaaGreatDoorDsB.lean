/-
  sheet.Disposition.
-/
import Derived.Test.YtlnlhhobmgiceaaGreatDoorMgL
import Derived.Test.YtlnlhhobmgiceaaGreatDoorMgF
import Derived.Test.YtlnlhhobmgiceaaGreatDoorMgG
import Derived.Test.YtlnlhhobmgiceaaGreatDoorMgC
set_option linter.unusedVariables false
set_option linter.unusedSimpArgs false
namespace Go.Proofs.YtlnlhhobmgiceaaGreatDoor
open Go.RowKit Go.Shelf
namespace Ds
open Oc

theorem pstep_each (r : List UInt8) (x : Nat × List Prm) (h : pstep r = some (some x)) : ∀ p ∈ x.2, p.1.length ≤ r.length ∧ p.2.1.length ≤ r.length := by
  unfold pstep at h
  split at h
  · obtain ⟨y, hy, e⟩ := Option.map_eq_some_iff.1 h
    have hl := rp_le _ y hy
    rw [List.length_drop, List.length_drop] at hl
    cases e
    intro p hp
    split at hp
    · cases hp
    · simp at hp
      subst hp
      omega
  · cases h
theorem pgo_each : ∀ (f : Nat) (r : List UInt8) (y : List Prm × Nat), pgo f r = some y → ∀ p ∈ y.1, p.1.length ≤ r.length ∧ p.2.1.length ≤ r.length
  | 0, r, y, h => by cases h
  | f + 1, r, y, h => by
    rw [pgo] at h
    cases hp : pstep r with
    | none => rw [hp] at h; cases h
    | some o =>
      rw [hp] at h
      cases o with
      | none => cases h; exact fun p hp => by cases hp
      | some x =>
        have hx := pstep_le r x hp
        have he := pstep_each r x hp
        obtain ⟨z, hz, e⟩ := Option.map_eq_some_iff.1 h
        have ih := pgo_each f _ z hz
        rw [List.length_drop] at ih
        cases e
        intro p hp
        rcases List.mem_append.1 hp with h | h
        · exact he p h
        · have := ih p h
          omega
theorem params_each (l : List UInt8) : ∀ p ∈ (paramsR l).1, p.1.length ≤ l.length ∧ p.2.1.length ≤ l.length := by
  unfold paramsR
  cases h : prm l with
  | none => intro p hp; cases hp
  | some y => exact pgo_each _ _ _ h
theorem own_lowP {T B B' : Nat} {v : Value} {t : List Prm} {w : World} (h : OwnP T B v t w) (hB : B' ≤ B) : OwnP T B' v t w := by
  refine ⟨h.1, ?_⟩
  rcases h.2 with hn | ⟨g, cap, cur, rfl, hb, rest⟩
  · exact .inl hn
  · exact .inr ⟨g, cap, cur, rfl, by omega, rest⟩
theorem tail_of (s : ByteArray) (n : Nat) (h : n ≤ s.size) : s.extract n s.size = str (s.data.toList.drop n) := by
  apply ByteArray.ext
  apply Array.ext'
  rw [ByteArray.data_extract, Array.toList_extract]
  rw [show (str (s.data.toList.drop n)).data.toList = s.data.toList.drop n from rfl]
  simp [List.extract]
  rw [← size_list s]
  exact List.take_of_length_le (by rw [List.length_drop]; omega)

set_option maxRecDepth 100000 in
set_option maxHeartbeats 4000000 in
theorem Disposition_any (s : ByteArray) (hs : s.size ≤ 16777216) (w : World) (ht : Tab w) (hm : Tg.ML w) :
    Calls Tryz.prog 8 #[.string s] w fun e w' => ∃ v, e = .returned (.tuple #[.string (str (disR s.data.toList).1), v, .int .i64 (disR s.data.toList).2.2]) ∧ OwnP 47 w.heap.size v (disR s.data.toList).2.1 w' ∧ Below w.heap.size w w' := by
  have HT1 : Hid (∀ w, Calls Tryz.prog 27 #[.string s] w fun e w' => e = .returned (.string (str (trim s.data.toList))) ∧ Below w.heap.size w w') := fun w => Trim_any s (by unfold maxLen; omega) w
  have htl := trim_le s.data.toList
  rw [size_list] at htl
  rw [← prg_dis]
  unfold prgR
  dsimp only
  have htz := str_size (trim s.data.toList)
  have hts := str_list (trim s.data.toList)
  generalize hS1 : str (trim s.data.toList) = S1 at *
  rw [← hts]
  rw [← hts] at htz htl
  clear hts hS1
  have hS1 : S1.size ≤ 16777216 := by omega
  clear htz htl
  have hal := Tg.cutA_len 59 S1.data.toList
  rw [size_list] at hal
  have HC : Hid (∀ w, Tg.ML w → _) := fun w h => Tg.Cut_one S1 59 (by omega) w h
  have HP0 : Hid (∀ w, Tab w → _) := fun w t => Params_any (str (S1.data.toList.drop (Tg.cutA 59 S1.data.toList).length)) (by rw [str_size, List.length_drop, size_list]; omega) w t
  have HT2 : Hid (∀ w, _) := fun w => Trim_any (str (Tg.cutA 59 S1.data.toList)) (by rw [str_size]; unfold maxLen; omega) w
  have hAz := str_size (Tg.cutA 59 S1.data.toList)
  have hls : S1.extract (Tg.cutA 59 S1.data.toList).length S1.size = str (S1.data.toList.drop (Tg.cutA 59 S1.data.toList).length) := tail_of S1 _ hal
  have hlz : (str (S1.data.toList.drop (Tg.cutA 59 S1.data.toList).length)).size = S1.size - (Tg.cutA 59 S1.data.toList).length := by rw [str_size, List.length_drop, size_list]
  rw [str_list] at HP0 HT2
  have hpe := params_each (S1.data.toList.drop (Tg.cutA 59 S1.data.toList).length)
  have hps := paramsR_short (S1.data.toList.drop (Tg.cutA 59 S1.data.toList).length)
  have hpf := params_fit (S1.data.toList.drop (Tg.cutA 59 S1.data.toList).length)
  rw [List.length_drop, size_list] at hpe hps hpf ⊢
  generalize S1.data.toList.drop (Tg.cutA 59 S1.data.toList).length = D at *
  have hwl := trim_le (Tg.cutA 59 S1.data.toList)
  have HTk : Hid (∀ w, Tab w → _) := fun w t => IsToken_any (str (trim (Tg.cutA 59 S1.data.toList))) (by rw [str_size]; unfold maxLen; omega) w t
  have HLo : Hid (∀ w, _) := fun w => Lower_any (str (trim (Tg.cutA 59 S1.data.toList))) (by rw [str_size]; unfold maxLen; omega) w
  rw [str_list] at HTk
  rw [lowS_str] at HLo
  have HM : Hid (Tg.ML w) := hm
  have HTab : Hid (Tab w) := ht
  clear ht hm
  have HE : Hid (∀ p ∈ (paramsR D).1, p.1.length ≤ 16777216) := fun p hp => by have := (hpe p hp).1; omega
  clear hpe
  have HRR : Hid (∃ R : List UInt8 × List Prm3 × Int, R = (if (paramsR D).2.2 ≠ 0 ∨ (paramsR D).2.1 < ((S1.size - (Tg.cutA 59 S1.data.toList).length : Nat) : Int) ∨ isTok (trim (Tg.cutA 59 S1.data.toList)) = false ∨ lowOk (paramsR D).1 = false then ([], [], 152) else (lower (trim (Tg.cutA 59 S1.data.toList)), (paramsR D).1.map lowN, 0))) := (⟨_, rfl⟩ : ∃ R, R = _)
  obtain ⟨R, hR⟩ := HRR.out
  clear HRR
  rw [← hR]
  have hps' : (paramsR D).1.length ≤ 16777216 := by omega
  generalize paramsR D = P at *
  obtain ⟨P1, P2, P3⟩ := P
  dsimp only at *
  have HR : Hid (R = _) := hR
  clear hR
  generalize hA1 : str (Tg.cutA 59 S1.data.toList) = A1 at *
  generalize hW1 : str (trim (Tg.cutA 59 S1.data.toList)) = W1 at *
  generalize hWL : str (lower (trim (Tg.cutA 59 S1.data.toList))) = WL at *
  have HWL : Hid (str (lower (trim (Tg.cutA 59 S1.data.toList))) = WL) := hWL
  clear hA1 hW1 hWL
  generalize isTok (trim (Tg.cutA 59 S1.data.toList)) = WT at *
  generalize Tg.cutB 59 S1.data.toList = CB at *
  generalize Tg.has 59 S1.data.toList = CH at *
  generalize lower (trim (Tg.cutA 59 S1.data.toList)) = LT at *
  generalize hKK : (Tg.cutA 59 S1.data.toList).length = K at *
  clear hKK hwl
  generalize str D = L0 at *
  by_cases h3 : P3 = 0
  · by_cases h2 : P2 < ((S1.size - K : Nat) : Int)
    · have hRe : R = ([], [], 152) := by rw [HR.out, if_pos (.inr (.inl h2))]
      rw [hRe]
      clear hRe
      subst h3
      have h2' : P2 < (L0.size : Int) := by rw [hlz]; exact h2
      go_enter Tryz.func8, Tryz.ntmps8
      go_wp2_with fail
      refine (HT1.out _).mono ?_
      rintro e w1 ⟨rfl, hb1⟩
      have HB1 : Hid (Below w.heap.size w w1) := hb1
      clear hb1
      go_wp2_with fail
      refine (HC.out _ (HM.out.below HB1.out)).mono ?_
      rintro e w2 ⟨rfl, hb2⟩
      have HB2 : Hid (Below w.heap.size w w2) := HB1.out.trans (hb2.mono HB1.out.size)
      clear hb2
      go_wp2_with fail
      refine (HT2.out _).mono ?_
      rintro e w3 ⟨rfl, hb3⟩
      have HB3 : Hid (Below w.heap.size w w3) := HB2.out.trans (hb3.mono HB2.out.size)
      clear hb3
      go_wp2_with fail
      refine (HP0.out _ (HTab.out.below HB3.out (Nat.le_refl _))).mono ?_
      rintro e w4 ⟨v, rfl, ho4, hb4⟩
      have HO4 : Hid (OwnP 47 w.heap.size v P1 w4) := own_lowP ho4 HB3.out.size
      have HB4 : Hid (Below w.heap.size w w4) := HB3.out.trans (hb4.mono HB3.out.size)
      clear ho4 hb4
      go_wp2
      go_ret3
      exact ⟨.slice none 0 0, rfl, ownP_nil _ _ _, HB4.out⟩
    · have h2' : ¬ P2 < (L0.size : Int) := by rw [hlz]; exact h2
      cases WT with
      | false =>
        have hRe : R = ([], [], 152) := by rw [HR.out, if_pos (.inr (.inr (.inl rfl)))]
        rw [hRe]
        clear hRe
        subst h3
        go_enter Tryz.func8, Tryz.ntmps8
        go_wp2_with fail
        refine (HT1.out _).mono ?_
        rintro e w1 ⟨rfl, hb1⟩
        have HB1 : Hid (Below w.heap.size w w1) := hb1
        clear hb1
        go_wp2_with fail
        refine (HC.out _ (HM.out.below HB1.out)).mono ?_
        rintro e w2 ⟨rfl, hb2⟩
        have HB2 : Hid (Below w.heap.size w w2) := HB1.out.trans (hb2.mono HB1.out.size)
        clear hb2
        go_wp2_with fail
        refine (HT2.out _).mono ?_
        rintro e w3 ⟨rfl, hb3⟩
        have HB3 : Hid (Below w.heap.size w w3) := HB2.out.trans (hb3.mono HB2.out.size)
        clear hb3
        go_wp2_with fail
        refine (HP0.out _ (HTab.out.below HB3.out (Nat.le_refl _))).mono ?_
        rintro e w4 ⟨v, rfl, ho4, hb4⟩
        have HO4 : Hid (OwnP 47 w.heap.size v P1 w4) := own_lowP ho4 HB3.out.size
        have HB4 : Hid (Below w.heap.size w w4) := HB3.out.trans (hb4.mono HB3.out.size)
        clear ho4 hb4
        go_wp2_with fail
        refine (HTk.out _ (HTab.out.below HB4.out (Nat.le_refl _))).mono ?_
        rintro e w5 ⟨rfl, hb5⟩
        have HB5 : Hid (Below w.heap.size w w5) := HB4.out.trans (hb5.mono HB4.out.size)
        have HO5 : Hid (OwnP 47 w.heap.size v P1 w5) := Oc.OwnP.below HO4.out hb5
        clear hb5
        go_wp2
        go_ret3
        exact ⟨.slice none 0 0, rfl, ownP_nil _ _ _, HB5.out⟩
      | true =>
        cases hLK : lowOk P1 with
        | false =>
          have hRe : R = ([], [], 152) := by rw [HR.out, if_pos (.inr (.inr (.inr hLK)))]
          rw [hRe]
          clear hRe
          subst h3
          go_enter Tryz.func8, Tryz.ntmps8
          go_wp2_with fail
          refine (HT1.out _).mono ?_
          rintro e w1 ⟨rfl, hb1⟩
          have HB1 : Hid (Below w.heap.size w w1) := hb1
          clear hb1
          go_wp2_with fail
          refine (HC.out _ (HM.out.below HB1.out)).mono ?_
          rintro e w2 ⟨rfl, hb2⟩
          have HB2 : Hid (Below w.heap.size w w2) := HB1.out.trans (hb2.mono HB1.out.size)
          clear hb2
          go_wp2_with fail
          refine (HT2.out _).mono ?_
          rintro e w3 ⟨rfl, hb3⟩
          have HB3 : Hid (Below w.heap.size w w3) := HB2.out.trans (hb3.mono HB2.out.size)
          clear hb3
          go_wp2_with fail
          refine (HP0.out _ (HTab.out.below HB3.out (Nat.le_refl _))).mono ?_
          rintro e w4 ⟨v, rfl, ho4, hb4⟩
          have HO4 : Hid (OwnP 47 w.heap.size v P1 w4) := own_lowP ho4 HB3.out.size
          have HB4 : Hid (Below w.heap.size w w4) := HB3.out.trans (hb4.mono HB3.out.size)
          clear ho4 hb4
          go_wp2_with fail
          refine (HTk.out _ (HTab.out.below HB4.out (Nat.le_refl _))).mono ?_
          rintro e w5 ⟨rfl, hb5⟩
          have HB5 : Hid (Below w.heap.size w w5) := HB4.out.trans (hb5.mono HB4.out.size)
          have HO5 : Hid (OwnP 47 w.heap.size v P1 w5) := Oc.OwnP.below HO4.out hb5
          clear hb5
          go_wp2_with fail
          refine (lowerNames_any w.heap.size v P1 _ HO5.out HB5.out.size (by omega) (fun p hp => by have := HE.out p hp; omega)).mono ?_
          rintro e w6 ⟨rfl, hc6, hb6⟩; rw [hLK]
          have HB6 : Hid (Below w.heap.size w w6) := HB5.out.trans hb6
          have HC6 : Hid (lowOk P1 = true → OwnP 47 w.heap.size v (P1.map lowN) w6) := hc6
          clear hb6 hc6
          go_wp2
          go_ret3
          exact ⟨.slice none 0 0, rfl, ownP_nil _ _ _, HB6.out⟩
        | true =>
          have hRe : R = (LT, P1.map lowN, 0) := by rw [HR.out, if_neg (by rw [hLK]; simp [h3, h2])]
          rw [hRe]
          clear hRe
          dsimp only
          rw [HWL.out]
          subst h3
          go_enter Tryz.func8, Tryz.ntmps8
          go_wp2_with fail
          refine (HT1.out _).mono ?_
          rintro e w1 ⟨rfl, hb1⟩
          have HB1 : Hid (Below w.heap.size w w1) := hb1
          clear hb1
          go_wp2_with fail
          refine (HC.out _ (HM.out.below HB1.out)).mono ?_
          rintro e w2 ⟨rfl, hb2⟩
          have HB2 : Hid (Below w.heap.size w w2) := HB1.out.trans (hb2.mono HB1.out.size)
          clear hb2
          go_wp2_with fail
          refine (HT2.out _).mono ?_
          rintro e w3 ⟨rfl, hb3⟩
          have HB3 : Hid (Below w.heap.size w w3) := HB2.out.trans (hb3.mono HB2.out.size)
          clear hb3
          go_wp2_with fail
          refine (HP0.out _ (HTab.out.below HB3.out (Nat.le_refl _))).mono ?_
          rintro e w4 ⟨v, rfl, ho4, hb4⟩
          have HO4 : Hid (OwnP 47 w.heap.size v P1 w4) := own_lowP ho4 HB3.out.size
          have HB4 : Hid (Below w.heap.size w w4) := HB3.out.trans (hb4.mono HB3.out.size)
          clear ho4 hb4
          go_wp2_with fail
          refine (HTk.out _ (HTab.out.below HB4.out (Nat.le_refl _))).mono ?_
          rintro e w5 ⟨rfl, hb5⟩
          have HB5 : Hid (Below w.heap.size w w5) := HB4.out.trans (hb5.mono HB4.out.size)
          have HO5 : Hid (OwnP 47 w.heap.size v P1 w5) := Oc.OwnP.below HO4.out hb5
          clear hb5
          go_wp2_with fail
          refine (lowerNames_any w.heap.size v P1 _ HO5.out HB5.out.size (by omega) (fun p hp => by have := HE.out p hp; omega)).mono ?_
          rintro e w6 ⟨rfl, hc6, hb6⟩; rw [hLK]
          have HB6 : Hid (Below w.heap.size w w6) := HB5.out.trans hb6
          have HC6 : Hid (lowOk P1 = true → OwnP 47 w.heap.size v (P1.map lowN) w6) := hc6
          clear hb6 hc6
          go_wp2_with fail
          refine (HLo.out _).mono ?_
          rintro e w7 ⟨rfl, hb7⟩
          have HB7 : Hid (Below w.heap.size w w7) := HB6.out.trans (hb7.mono HB6.out.size)
          have HO7 : Hid (OwnP 47 w.heap.size v (P1.map lowN) w7) := Oc.OwnP.below (HC6.out hLK) hb7
          clear hb7
          go_wp2
          go_ret3
          exact ⟨v, rfl, HO7.out, HB7.out⟩
  · have hRe : R = ([], [], 152) := by rw [HR.out, if_pos (.inl h3)]
    rw [hRe]
    clear hRe
    go_enter Tryz.func8, Tryz.ntmps8
    go_wp2_with fail
    refine (HT1.out _).mono ?_
    rintro e w1 ⟨rfl, hb1⟩
    have HB1 : Hid (Below w.heap.size w w1) := hb1
    clear hb1
    go_wp2_with fail
    refine (HC.out _ (HM.out.below HB1.out)).mono ?_
    rintro e w2 ⟨rfl, hb2⟩
    have HB2 : Hid (Below w.heap.size w w2) := HB1.out.trans (hb2.mono HB1.out.size)
    clear hb2
    go_wp2_with fail
    refine (HT2.out _).mono ?_
    rintro e w3 ⟨rfl, hb3⟩
    have HB3 : Hid (Below w.heap.size w w3) := HB2.out.trans (hb3.mono HB2.out.size)
    clear hb3
    go_wp2_with fail
    refine (HP0.out _ (HTab.out.below HB3.out (Nat.le_refl _))).mono ?_
    rintro e w4 ⟨v, rfl, ho4, hb4⟩
    have HO4 : Hid (OwnP 47 w.heap.size v P1 w4) := own_lowP ho4 HB3.out.size
    have HB4 : Hid (Below w.heap.size w w4) := HB3.out.trans (hb4.mono HB3.out.size)
    clear ho4 hb4
    go_wp2
    go_ret3
    exact ⟨.slice none 0 0, rfl, ownP_nil _ _ _, HB4.out⟩

end Ds
end Go.Proofs.YtlnlhhobmgiceaaGreatDoor
