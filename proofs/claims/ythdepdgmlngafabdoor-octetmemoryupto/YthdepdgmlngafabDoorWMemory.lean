/-
  The law OctetMemory: the walk.
-/
import Derived.Test.YthdepdgmlngafabDoorMem2
import Derived.Test.YthdepdgmlngafabDoorRPrm2
import Derived.Test.YthdepdgmlngafabDoorToks
import Derived.Deep.RegionWith
import Derived.OpenShut
set_option linter.unusedVariables false
set_option linter.unusedSimpArgs false
namespace Go.Proofs.YthdepdgmlngafabDoor.octetMemoryUpto
open Go.RowKit
open Go.Proofs.YthdepdgmlngafabDoor.Oc

theorem gen_frame {P : Program} {c : Code} {Q : Exit → Act → World → Prop} {a : Act} {w : World} (h : ∀ fr, fr = a → Code.wp P c Q fr w) : Code.wp P c Q a w := h a rfl
theorem nA_even (A E : List (List UInt8)) (i : Nat) : nA A E (2 * i) = A.length := by unfold nA; rw [if_pos (by omega)]
theorem nA_odd (A E : List (List UInt8)) (i : Nat) : nA A E (2 * i + 1) = E.length := by unfold nA; rw [if_neg (by omega)]

set_option maxRecDepth 100000 in
set_option maxHeartbeats 8000000 in
theorem walk (a0 : ByteArray) (w0 : a0.size ≤ 1048576) (w : World) (t : Tab w ∧ Pow w) :
    Calls Tryd.prog 8 #[.string a0] w fun e w' => e = .returned (.bool true) ∧ Below w.heap.size w w' := by
  have HT : Hid (Tab w) := t.1
  have HP : Hid (Pow w) := t.2
  clear t
  obtain ⟨A, eA, HA⟩ : ∃ A eA, Hid (listR a0.data.toList = (A, eA)) := ⟨_, _, rfl⟩
  obtain ⟨E, eE, HE⟩ : ∃ E eE, Hid (tokensR a0.data.toList = (E, eE)) := ⟨_, _, rfl⟩
  obtain ⟨C, eC, eC2, HC⟩ : ∃ C e f, Hid (paramsR a0.data.toList = (C, e, f)) := ⟨_, _, _, rfl⟩
  have hA : A.length ≤ 1048577 := by
    have := (listR_short a0.data.toList).1
    rw [HA.out, size_list] at this
    dsimp only at this
    omega
  have hE : E.length ≤ 1048577 := by
    have h : (tokensR a0.data.toList).1.length ≤ 1048577 := by
      unfold tokensR
      split
      · split
        · rw [HA.out]; exact hA
        · simp
      · simp
    rw [HE.out] at h
    exact h
  have hC : C.length ≤ 1048577 := by
    have := paramsR_short a0.data.toList
    rw [HC.out, size_list] at this
    dsimp only at this
    omega
  go_enter Tryd.func8, Tryd.ntmps8
  go_wp2_with fail
  refine (awake_any _ HT.out).mono ?_
  rintro e w1 ⟨rfl, hb1⟩
  have HB1 : Hid (Below w.heap.size w w1) := hb1
  clear hb1
  go_wp2_with fail
  refine (rList_any a0 (by omega) _).mono ?_
  rintro e w2 ⟨vl, rfl, ho2, hb2⟩
  rw [HA.out] at ho2 ⊢
  have HO2 : Hid (OwnS w1.heap.size vl A w2) := ho2
  have HB2 : Hid (Below w1.heap.size w1 w2) := hb2
  clear ho2 hb2
  go_wp2_with fail
  refine (rTokens_any a0 (by omega) _).mono ?_
  rintro e w3 ⟨vk, rfl, ho3, hb3⟩
  rw [HE.out] at ho3 ⊢
  have HO3 : Hid (OwnS w2.heap.size vk E w3) := ho3
  have HB3 : Hid (Below w2.heap.size w2 w3) := hb3
  clear ho3 hb3
  go_wp2_with fail
  refine (rParams_any a0 (by omega) _).mono ?_
  rintro e w4 ⟨vp, rfl, ho4, hb4⟩
  rw [HC.out] at ho4 ⊢
  obtain ⟨V, hM, h0, h1, h2, h3, h4⟩ := Mx.start (B := w.heap.size) HB1.out.size HO2.out HB2.out HO3.out HB3.out ho4 hb4
  have HM : Hid (∃ N X, Mx w.heap.size A E C 0 0 0 0 V N X ((w4.alloc (.cells #[] 22)).alloc (.cells #[] 34))) := hM
  have HV : Hid (V 2 = vl ∧ V 3 = vk ∧ V 4 = vp) := ⟨h2, h3, h4⟩
  have HB4 : Hid (Below w.heap.size w ((w4.alloc (.cells #[] 22)).alloc (.cells #[] 34))) := by
    have b4 := bel_trans (bel_trans (bel_trans HB1.out HB2.out) HB3.out) hb4
    have s4 := b4.size
    exact (b4.alloc s4 _).alloc (by simp; omega) _
  have H0 : Hid (V 0 = .slice (some ⟨w4.heap.size, 0, none⟩) 0 0) := h0
  have H1 : Hid (V 1 = .slice (some ⟨w4.heap.size + 1, 0, none⟩) 0 0) := h1
  clear hM h0 h1 h2 h3 h4 ho4 hb4 HB1 HB2 HB3 HO2 HO3
  go_wp2
  go_loopw [10, 11, 12] (fun lv pv iv wr => ∃ (i : Nat) (V : Nat → Value), i ≤ 3 ∧ iv = .int .i64 i ∧ Hid (lv = V 0) ∧ Hid (pv = V 1) ∧ Hid (V 2 = vl ∧ V 3 = vk ∧ V 4 = vp) ∧ Hid (∃ N X, Mx w.heap.size A E C (2 * i) i (2 * i) i V N X wr) ∧ Hid (Below w.heap.size w wr)) (fun _ _ iv _ => 3 - (intOf iv).toNat)
  case atStart => exact ⟨0, V, by omega, rfl, H0.out.symm, H1.out.symm, HV, HM, HB4⟩
  case round =>
    clear HM HV HB4 H0 H1 V
    obtain ⟨i, V, hi, rfl, hlv, hpv, HV, HM, HB⟩ := hrel
    by_cases hlt : i < 3
    ·
      have hs0 := HB.out.size
      go_wp2_with fail
      refine (List_any a0 (by omega) _).mono ?_
      rintro e w2 ⟨va, rfl, ho2, hb2⟩
      rw [HA.out] at ho2 ⊢
      obtain ⟨aa, ca, rfl, _⟩ := ho2.rd
      have HR2 : Hid (RdS (.slice aa A.length ca) A w2) := ho2.rd
      have HM2 : Hid (∃ N X, Mx w.heap.size A E C (2 * i + 1) i (2 * i) i (upd V (10 + 2 * i) (.slice aa A.length ca)) N X w2) := by
        obtain ⟨N, X, M⟩ := HM.out
        exact M.addS (by omega) (by omega) hb2 hs0 ho2 (nA_even A E i).symm
      have HB2 : Hid (Below w.heap.size w w2) := bel_trans HB.out hb2
      have hs2 := HB2.out.size
      clear ho2 hb2 HM HB
      go_wp2_with fail
      refine (Tokens_any a0 (by omega) _ (HT.out.below HB2.out (Nat.le_refl _))).mono ?_
      rintro e w3 ⟨vb, rfl, ho3, hb3⟩
      rw [HE.out] at ho3 ⊢
      obtain ⟨ab, cb, rfl, _⟩ := ho3.rd
      have HR3 : Hid (RdS (.slice ab E.length cb) E w3) := ho3.rd
      have HR2b : Hid (RdS (.slice aa A.length ca) A w3) := HR2.out.below hb3
      have HM3 : Hid (∃ N X, Mx w.heap.size A E C (2 * i + 2) i (2 * i) i (upd (upd V (10 + 2 * i) (.slice aa A.length ca)) (10 + (2 * i + 1)) (.slice ab E.length cb)) N X w3) := by
        obtain ⟨N, X, M⟩ := HM2.out
        exact M.addS (by omega) (by omega) hb3 hs2 ho3 (nA_odd A E i).symm
      have HB3 : Hid (Below w.heap.size w w3) := bel_trans HB2.out hb3
      have hs3 := HB3.out.size
      clear ho3 hb3 HM2 HB2 HR2
      go_wp2_with fail
      refine (Params_any a0 (by omega) _ (HT.out.below HB3.out (Nat.le_refl _))).mono ?_
      rintro e w4 ⟨vc, rfl, ho4, hb4⟩
      rw [HC.out] at ho4 ⊢
      obtain ⟨ac, cc, rfl, _⟩ := ho4.rd
      have HR4 : Hid (RdP (.slice ac C.length cc) C w4) := ho4.rd
      have HR3b : Hid (RdS (.slice ab E.length cb) E w4) := HR3.out.below hb4
      have HR2c : Hid (RdS (.slice aa A.length ca) A w4) := HR2b.out.below hb4
      have HM4 : Hid (∃ N X, Mx w.heap.size A E C (2 * i + 2) (i + 1) (2 * i) i (upd (upd (upd V (10 + 2 * i) (.slice aa A.length ca)) (10 + (2 * i + 1)) (.slice ab E.length cb)) (20 + i) (.slice ac C.length cc)) N X w4) := by
        obtain ⟨N, X, M⟩ := HM3.out
        exact M.addP (by omega) (by omega) (by omega) hb4 hs3 ho4
      have HB4 : Hid (Below w.heap.size w w4) := bel_trans HB3.out hb4
      clear ho4 hb4 HM3 HB3 HR3 HR2b
      obtain ⟨V', hV'⟩ : ∃ V', V' = upd (upd (upd V (10 + 2 * i) (.slice aa A.length ca)) (10 + (2 * i + 1)) (.slice ab E.length cb)) (20 + i) (.slice ac C.length cc) := ⟨_, rfl⟩
      rw [← hV'] at HM4
      have HV2 : Hid (V' 2 = vl ∧ V' 3 = vk ∧ V' 4 = vp) := by
        rw [hV']
        simp only [upd]
        rw [if_neg (by omega), if_neg (by omega), if_neg (by omega), if_neg (by omega), if_neg (by omega), if_neg (by omega), if_neg (by omega), if_neg (by omega), if_neg (by omega)]
        exact HV.out
      have HVa : Hid (V' (10 + 2 * i) = (.slice aa A.length ca)) := by show V' (10 + 2 * i) = (.slice aa A.length ca); rw [hV', upd_other _ _ (by omega), upd_other _ _ (by omega), upd_same]
      have HVb : Hid (V' (10 + 2 * i + 1) = (.slice ab E.length cb)) := by show V' (10 + 2 * i + 1) = (.slice ab E.length cb); rw [hV', upd_other _ _ (by omega), show 10 + 2 * i + 1 = 10 + (2 * i + 1) by omega, upd_same]
      have HVc : Hid (V' (20 + i) = (.slice ac C.length cc)) := by show V' (20 + i) = (.slice ac C.length cc); rw [hV', upd_same]
      have hlv' : Hid (_ = V' 0) := hlv.out.trans (by rw [hV', upd_other _ _ (by omega), upd_other _ _ (by omega), upd_other _ _ (by omega)])
      have hpv' : Hid (_ = V' 1) := hpv.out.trans (by rw [hV', upd_other _ _ (by omega), upd_other _ _ (by omega), upd_other _ _ (by omega)])
      clear hV' hlv hpv HV
      have HRl : Hid (RdS vl A w4 ∧ RdS vk E w4 ∧ RdP vp C w4) := by
        obtain ⟨N, X, M⟩ := HM4.out
        have := M.rdL
        rw [HV2.out.1, HV2.out.2.1, HV2.out.2.2] at this
        exact this
      go_wp2_with fail
      refine (same_any (.slice aa A.length ca) vl A A _ HR2c.out HRl.out.1 (by omega) (by omega)).mono ?_
      rintro e w5 ⟨rfl, n5, rfl⟩
      rw [show decide (A = A) = true from decide_eq_true rfl]
      have b5 : Below w4.heap.size w4 (w4.drewN n5) := below_drewN (Below.refl _ _) _
      have HR3c : Hid (RdS (.slice ab E.length cb) E (w4.drewN n5)) := HR3b.out.below b5
      have HRk : Hid (RdS vk E (w4.drewN n5)) := HRl.out.2.1.below b5
      have HR4b : Hid (RdP (.slice ac C.length cc) C (w4.drewN n5)) := HR4.out.below b5
      have HRp : Hid (RdP vp C (w4.drewN n5)) := HRl.out.2.2.below b5
      have HB5 : Hid (Below w.heap.size w (w4.drewN n5)) := below_drewN HB4.out _
      have HM5 : Hid (∃ N X, Mx w.heap.size A E C (2 * i + 2) (i + 1) (2 * i) i V' N X (w4.drewN n5)) := by
        obtain ⟨N, X, M⟩ := HM4.out
        exact ⟨N, X, M.below b5⟩
      clear b5 HB4 HM4 HR2c HR3b HR4 HRl
      generalize w4.drewN n5 = w5 at *
      go_wp2_with fail
      refine (same_any (.slice ab E.length cb) vk E E _ HR3c.out HRk.out (by omega) (by omega)).mono ?_
      rintro e w6 ⟨rfl, n6, rfl⟩
      rw [show decide (E = E) = true from decide_eq_true rfl]
      have b6 : Below w5.heap.size w5 (w5.drewN n6) := below_drewN (Below.refl _ _) _
      have HR4c : Hid (RdP (.slice ac C.length cc) C (w5.drewN n6)) := HR4b.out.below b6
      have HRp6 : Hid (RdP vp C (w5.drewN n6)) := HRp.out.below b6
      have HB6 : Hid (Below w.heap.size w (w5.drewN n6)) := below_drewN HB5.out _
      have HM6 : Hid (∃ N X, Mx w.heap.size A E C (2 * i + 2) (i + 1) (2 * i) i V' N X (w5.drewN n6)) := by
        obtain ⟨N, X, M⟩ := HM5.out
        exact ⟨N, X, M.below b6⟩
      clear b6 HB5 HM5 HR3c HRk HR4b HRp
      generalize w5.drewN n6 = w6 at *
      go_wp2_with fail
      refine (alike_any (.slice ac C.length cc) vp C _ HR4c.out HRp6.out (by omega)).mono ?_
      rintro e w7 ⟨rfl, n7, rfl⟩
      have b7 : Below w6.heap.size w6 (w6.drewN n7) := below_drewN (Below.refl _ _) _
      have HB7 : Hid (Below w.heap.size w (w6.drewN n7)) := below_drewN HB6.out _
      have HM7 : Hid (∃ N X, Mx w.heap.size A E C (2 * i + 2) (i + 1) (2 * i) i V' N X (w6.drewN n7)) := by
        obtain ⟨N, X, M⟩ := HM6.out
        exact ⟨N, X, M.below b7⟩
      have hs7 := HB7.out.size
      clear b7 HB6 HM6 HR4c HRp6
      generalize w6.drewN n7 = w7 at *
      go_wp2_with (at_builtin; go_must (refine wp_appL rfl (.tmp 97) (.tmp 100) rfl HM7.out (by omega) (by omega) _ rfl (by exact hlv'.out) _ _ HVa.out HVb.out _ rfl (by simp) hs7 ?_))
      intro v8 w8 N8 X8 hM8 hb8
      have HM8 : Hid (∃ N X, Mx w.heap.size A E C (2 * i + 2) (i + 1) (2 * i + 2) i (upd V' 0 v8) N X w8) := ⟨N8, X8, hM8⟩
      have HB8 : Hid (Below w.heap.size w w8) := HB7.out.trans hb8
      have hs8 := HB8.out.size
      have hp8 : Hid (_ = (upd V' 0 v8) 1) := hpv'.out.trans (by rw [upd_other _ _ (by omega)])
      have hc8 : Hid ((upd V' 0 v8) (20 + i) = (.slice ac C.length cc)) := by show (upd V' 0 v8) (20 + i) = (.slice ac C.length cc); rw [upd_other _ _ (by omega)]; exact HVc.out
      clear hM8 hb8 HM7 HB7
      go_wp2_with (at_builtin; go_must (refine wp_appC rfl (.tmp 102) (.tmp 104) rfl HM8.out (by omega) (by omega) _ rfl (by exact hp8.out) _ hc8.out _ rfl (by simp) hs8 ?_))
      intro v9 w9 N9 X9 hM9 hb9
      have HM9 : Hid (∃ N X, Mx w.heap.size A E C (2 * (i + 1)) (i + 1) (2 * (i + 1)) (i + 1) (upd (upd V' 0 v8) 1 v9) N X w9) := ⟨N9, X9, hM9⟩
      have HB9 : Hid (Below w.heap.size w w9) := HB8.out.trans hb9
      have HV9 : Hid ((upd (upd V' 0 v8) 1 v9) 2 = vl ∧ (upd (upd V' 0 v8) 1 v9) 3 = vk ∧ (upd (upd V' 0 v8) 1 v9) 4 = vp) := by
        refine ⟨?_, ?_, ?_⟩
        · rw [upd_other _ _ (by omega), upd_other _ _ (by omega)]; exact HV2.out.1
        · rw [upd_other _ _ (by omega), upd_other _ _ (by omega)]; exact HV2.out.2.1
        · rw [upd_other _ _ (by omega), upd_other _ _ (by omega)]; exact HV2.out.2.2
      have hl9 : Hid (v8 = (upd (upd V' 0 v8) 1 v9) 0) := by show v8 = _; rw [upd_other _ _ (by omega), upd_same]
      have hp9 : Hid (v9 = (upd (upd V' 0 v8) 1 v9) 1) := by show v9 = _; rw [upd_same]
      clear hM9 hb9 HM8 HB8
      go_wp2
      go_roundw
      case rel => exact ⟨i + 1, _, by omega, by go_num, hl9, hp9, HV9, HM9, HB9⟩
      case measure => simp [intOf]; omega
    · obtain rfl : i = 3 := by omega
      rw [show (((3 : Nat) : Nat) : Int) = 3 from rfl]
      have P := Ph.start HM.out
      obtain ⟨g0, c0, hv0, h60⟩ := P.formL
      obtain ⟨g1, c1, hv1, h31⟩ := P.formC
      have e0 := hlv.out.trans hv0
      have e1 := hpv.out.trans hv1
      subst e0 e1
      have HPh : Hid (Ph w.heap.size A E C V 0 0 0 0 wr) := P
      have HV0 : Hid (V 0 = .slice (some ⟨g0, 0, none⟩) 6 c0) := hv0
      have HV1 : Hid (V 1 = .slice (some ⟨g1, 0, none⟩) 3 c1) := hv1
      clear P hv0 hv1 hlv hpv HM hi hlt
      go_wp2
      go_loopw [20] (fun iv wr => ∃ i : Nat, i ≤ 6 ∧ iv = .int .i64 i ∧ Hid (Ph w.heap.size A E C V i 0 0 0 wr) ∧ Hid (Below w.heap.size w wr)) (fun iv _ => 6 - (intOf iv).toNat)
      case atStart => exact ⟨0, by omega, rfl, HPh, HB⟩
      case round =>
        clear HPh HB
        obtain ⟨i, hi, rfl, HPh, HB⟩ := hrel
        by_cases hlt : i < 6
        ·
          go_wp2
          rw [show decide ((i : Int) < 6) = true from decide_eq_true (by omega)]
          go_loopw [21] (fun jv wr => ∃ j : Nat, j ≤ nA A E i ∧ jv = .int .i64 j ∧ Hid (Ph w.heap.size A E C V i j 0 0 wr) ∧ Hid (Below w.heap.size w wr)) (fun jv _ => nA A E i - (intOf jv).toNat)
          case atStart => exact ⟨0, by omega, rfl, HPh, HB⟩
          case round =>
            clear HPh HB
            obtain ⟨j, hj, rfl, HPh, HB⟩ := hrel
            have hcL := HPh.out.cellL HV0.out i hlt
            have hn : nA A E i ≤ 1048577 := by unfold nA; split <;> assumption
            by_cases hjn : j < nA A E i
            · rcases HPh.out.formS i hlt with ⟨_, h⟩ | ⟨g, cap, hv, hcap⟩
              · omega
              rw [hv] at hcL
              have HVi : Hid (V (10 + i) = .slice (some ⟨g, 0, none⟩) (nA A E i) cap) := hv
              clear hv
              have HPh1 : Hid (Ph w.heap.size A E C V i j 0 0 wr.drew) := HPh.out.below (below_drewN (Below.refl _ _) 1)
              have HB1 : Hid (Below w.heap.size w wr.drew) := below_drewN HB.out 1
              have HPw : Hid (Pow wr.drew) := HP.out.below HB1.out (Nat.le_refl _)
              go_wp2_with fail
              refine gen_frame (fun fr hfr => ?_)
              have fsz : fr.tmps.size = 286 := by rw [hfr]; rfl
              have f10 : fr.tmps[10]'(by rw [fsz]; decide) = .slice (some ⟨g0, 0, none⟩) 6 c0 := by subst hfr; rfl
              have f20 : fr.tmps[20]'(by rw [fsz]; decide) = .int .i64 (i : Int) := by subst hfr; rfl
              have f21 : fr.tmps[21]'(by rw [fsz]; decide) = .int .i64 (j : Int) := by subst hfr; rfl
              have wr1 : IntKind.i64.wrap (1000 * (i : Int)) = 1000 * (i : Int) := by rw [IntKind.wrap_i64]; omega
              have wr2 : IntKind.i64.wrap (1000 * (i : Int) + (j : Int)) = 1000 * (i : Int) + (j : Int) := by rw [IntKind.wrap_i64]; omega
              have HFR : Hid (fr = _) := hfr
              clear hfr
              go_region_with (go_at_call 23; refine (Digits_any (1000 * (i : Int) + (j : Int)) (by omega) (by omega) _ HPw.out).mono ?_; rintro e w5 ⟨rfl, hb5⟩; have P5 := HPh1.out.below hb5; have hc5 := P5.cellL HV0.out i hlt; rw [HVi.out] at hc5; obtain ⟨⟨u5, hu5⟩, hz5⟩ := P5.freeS i hlt HVi.out j hjn; have HP5 : Hid (Ph w.heap.size A E C V i j 0 0 w5) := P5; have HB5 : Hid (Below w.heap.size w w5) := bel_trans HB1.out hb5; clear P5 hb5)
              all_goals
                have HPn : Hid (Ph w.heap.size A E C V i (j + 1) 0 0 (w5.setCell ⟨g, j, none⟩ (.string (str (Lib.itoa (1000 * (i : Int) + (j : Int))))))) := by
                  have := HP5.out.setS hlt hjn HVi.out
                  rw [← dg_int] at this
                  exact this
                have HBn : Hid (Below w.heap.size w (w5.setCell ⟨g, j, none⟩ (.string (str (Lib.itoa (1000 * (i : Int) + (j : Int))))))) := HB5.out.setCell (p := ⟨g, j, none⟩) (HP5.out.geS i hlt HVi.out) _
                rw [HFR.out]
                clear f10 f20 f21 fsz wr1 wr2 HFR hc5 hu5 hz5 HP5 HB5
                generalize w5.setCell ⟨g, j, none⟩ (.string (str (Lib.itoa (1000 * (i : Int) + (j : Int))))) = w6 at *
                go_wp2
                go_roundw
                case rel => exact ⟨j + 1, by omega, by go_num, HPn, HBn⟩
                case measure => simp [intOf]; omega
            · obtain rfl : j = nA A E i := by omega
              rcases HPh.out.formS i hlt with ⟨hv, hz⟩ | ⟨g, cap, hv, hcap⟩
              all_goals
                rw [hv] at hcL
                have HPn : Hid (Ph w.heap.size A E C V (i + 1) 0 0 0 wr) := HPh.out.nextS
                clear hv
                go_wp2
                go_roundw
                case rel => exact ⟨i + 1, by omega, by go_num, HPn, HB⟩
                case measure => simp [intOf]; omega
        · obtain rfl : i = 6 := by omega
          rw [show (((6 : Nat) : Nat) : Int) = 6 from rfl]
          clear hlt hi
          go_wp2
          go_loopw [22] (fun kv wr => ∃ k : Nat, k ≤ 3 ∧ kv = .int .i64 k ∧ Hid (Ph w.heap.size A E C V 6 0 k 0 wr) ∧ Hid (Below w.heap.size w wr)) (fun kv _ => 3 - (intOf kv).toNat)
          case atStart => exact ⟨0, by omega, rfl, HPh, HB⟩
          case round =>
            clear HPh HB
            obtain ⟨k, hk, rfl, HPh, HB⟩ := hrel
            by_cases hlt : k < 3
            ·
              go_wp2
              rw [show decide ((k : Int) < 3) = true from decide_eq_true (by omega)]
              go_loopw [23] (fun lv wr => ∃ l : Nat, l ≤ C.length ∧ lv = .int .i64 l ∧ Hid (Ph w.heap.size A E C V 6 0 k l wr) ∧ Hid (Below w.heap.size w wr)) (fun lv _ => C.length - (intOf lv).toNat)
              case atStart => exact ⟨0, by omega, rfl, HPh, HB⟩
              case round =>
                clear HPh HB
                obtain ⟨l, hl, rfl, HPh, HB⟩ := hrel
                have hcC := HPh.out.cellC HV1.out k hlt
                by_cases hjn : l < C.length
                · rcases HPh.out.formP k hlt with ⟨_, h⟩ | ⟨g, cap, hv, hcap⟩
                  · omega
                  rw [hv] at hcC
                  have HVi : Hid (V (20 + k) = .slice (some ⟨g, 0, none⟩) C.length cap) := hv
                  clear hv
                  have HPh1 : Hid (Ph w.heap.size A E C V 6 0 k l wr.drew) := HPh.out.below (below_drewN (Below.refl _ _) 1)
                  have HB1 : Hid (Below w.heap.size w wr.drew) := below_drewN HB.out 1
                  have HPw : Hid (Pow wr.drew) := HP.out.below HB1.out (Nat.le_refl _)
                  go_wp2_with fail
                  refine gen_frame (fun fr hfr => ?_)
                  have fsz : fr.tmps.size = 286 := by rw [hfr]; rfl
                  have f11 : fr.tmps[11]'(by rw [fsz]; decide) = .slice (some ⟨g1, 0, none⟩) 3 c1 := by subst hfr; rfl
                  have f22 : fr.tmps[22]'(by rw [fsz]; decide) = .int .i64 (k : Int) := by subst hfr; rfl
                  have f23 : fr.tmps[23]'(by rw [fsz]; decide) = .int .i64 (l : Int) := by subst hfr; rfl
                  have wr1 : IntKind.i64.wrap (1000 * (k : Int)) = 1000 * (k : Int) := by rw [IntKind.wrap_i64]; omega
                  have wr2 : IntKind.i64.wrap (1000 * (k : Int) + (l : Int)) = 1000 * (k : Int) + (l : Int) := by rw [IntKind.wrap_i64]; omega
                  have HFR : Hid (fr = _) := hfr
                  clear hfr
                  go_region_with (go_at_call 23; refine (Digits_any (1000 * (k : Int) + (l : Int)) (by omega) (by omega) _ HPw.out).mono ?_; rintro e w5 ⟨rfl, hb5⟩; have P5 := HPh1.out.below hb5; have hc5 := P5.cellC HV1.out k hlt; rw [HVi.out] at hc5; obtain ⟨⟨u5, hu5⟩, hz5⟩ := P5.freeP k hlt HVi.out (l * 3) (by omega); obtain ⟨⟨u6, hu6⟩, hz6⟩ := P5.freeP k hlt HVi.out (l * 3 + 1) (by omega); obtain ⟨⟨u7, hu7⟩, hz7⟩ := P5.freeP k hlt HVi.out (l * 3 + 2) (by omega); have HP5 : Hid (Ph w.heap.size A E C V 6 0 k l w5) := P5; have HB5 : Hid (Below w.heap.size w w5) := bel_trans HB1.out hb5; clear P5 hb5)
                  all_goals
                    have HPn : Hid (Ph w.heap.size A E C V 6 0 k (l + 1) (((w5.setCell ⟨g, l * 3, none⟩ (.string (str (Lib.itoa (1000 * (k : Int) + (l : Int)))))).setCell ⟨g, l * 3 + 1, none⟩ (.string ⟨#[]⟩)).setCell ⟨g, l * 3 + 2, none⟩ (.bool false))) := by
                      have := HP5.out.setP hlt hjn HVi.out (.string ⟨#[]⟩) (.bool false)
                      rw [← dg_int] at this
                      exact this
                    have HBn : Hid (Below w.heap.size w (((w5.setCell ⟨g, l * 3, none⟩ (.string (str (Lib.itoa (1000 * (k : Int) + (l : Int)))))).setCell ⟨g, l * 3 + 1, none⟩ (.string ⟨#[]⟩)).setCell ⟨g, l * 3 + 2, none⟩ (.bool false))) := by
                      have hge := HP5.out.geP k hlt HVi.out
                      exact ((HB5.out.setCell (p := ⟨g, l * 3, none⟩) hge _).setCell (p := ⟨g, l * 3 + 1, none⟩) hge _).setCell (p := ⟨g, l * 3 + 2, none⟩) hge _
                    rw [HFR.out]
                    clear f11 f22 f23 fsz wr1 wr2 HFR hc5 hu5 hz5 hu6 hz6 hu7 hz7 HP5 HB5
                    generalize (((w5.setCell ⟨g, l * 3, none⟩ (.string (str (Lib.itoa (1000 * (k : Int) + (l : Int)))))).setCell ⟨g, l * 3 + 1, none⟩ (.string ⟨#[]⟩)).setCell ⟨g, l * 3 + 2, none⟩ (.bool false)) = w6 at *
                    go_wp2
                    go_roundw
                    case rel => exact ⟨l + 1, by omega, by go_num, HPn, HBn⟩
                    case measure => simp [intOf]; omega
                · obtain rfl : l = C.length := by omega
                  rcases HPh.out.formP k hlt with ⟨hv, hz⟩ | ⟨g, cap, hv, hcap⟩
                  all_goals
                    rw [hv] at hcC
                    have HPn : Hid (Ph w.heap.size A E C V 6 0 (k + 1) 0 wr) := HPh.out.nextP
                    clear hv
                    go_wp2
                    go_roundw
                    case rel => exact ⟨k + 1, by omega, by go_num, HPn, HB⟩
                    case measure => simp [intOf]; omega
            · obtain rfl : k = 3 := by omega
              rw [show (((3 : Nat) : Nat) : Int) = 3 from rfl]
              clear hlt hk
              go_wp2
              go_loopw [24] (fun iv wr => ∃ i : Nat, i ≤ 6 ∧ iv = .int .i64 i ∧ Hid (Ph w.heap.size A E C V 6 0 3 0 wr) ∧ Hid (Below w.heap.size w wr)) (fun iv _ => 6 - (intOf iv).toNat)
              case atStart => exact ⟨0, by omega, rfl, HPh, HB⟩
              case round =>
                clear HPh HB
                obtain ⟨i, hi, rfl, HPh, HB⟩ := hrel
                by_cases hlt : i < 6
                ·
                  have hcL := HPh.out.cellL HV0.out i hlt
                  have hn : nA A E i ≤ 1048577 := by unfold nA; split <;> assumption
                  have HPA : Hid (PhA w.heap.size A E C V (10 + i) (V (10 + i)) 0 wr) := HPh.out.alias (10 + i) (by unfold dom; omega)
                  clear HPh
                  go_wp2
                  rw [show decide ((i : Int) < 6) = true from decide_eq_true (by omega)]
                  go_loopw [25, 26] (fun gv jv wr => ∃ j : Nat, j ≤ 20 ∧ jv = .int .i64 j ∧ Hid (PhA w.heap.size A E C V (10 + i) gv j wr) ∧ Hid (Below w.heap.size w wr)) (fun _ jv _ => 20 - (intOf jv).toNat)
                  case atStart => exact ⟨0, by omega, rfl, HPA, HB⟩
                  case round =>
                    clear HPA HB hcL
                    obtain ⟨j, hj, rfl, HPA, HB⟩ := hrel
                    by_cases hjn : j < 20
                    · have HPw : Hid (Pow wr) := HP.out.below HB.out (Nat.le_refl _)
                      go_wp2_with fail
                      refine (Digits_any (i : Int) (by omega) (by omega) _ HPw.out).mono ?_
                      rintro e w5 ⟨rfl, hb5⟩
                      have HPA5 : Hid (PhA w.heap.size A E C V (10 + i) u25 j w5) := HPA.out.below hb5
                      have HB5 : Hid (Below w.heap.size w w5) := bel_trans HB.out hb5
                      have hs5 := HB5.out.size
                      have hz : (⟨#[103, 114, 111, 119, 110]⟩ : ByteArray).size + (str (Lib.itoa (i : Int))).size ≤ 9223372036854775807 := by
                        have hl := Lib.itoa_length_le (i : Int) (by omega) (by omega)
                        rw [str_size]
                        show 5 + _ ≤ _
                        omega
                      generalize str (Lib.itoa (i : Int)) = y at *
                      clear hb5 HPA HB HPw
                      go_wp2_with (at_builtin; go_must (refine wp_growS rfl (.tmp 173) (.tmp 177) rfl hlt _ HPA5.out (by omega) rfl _ _ rfl (by simp) hs5 ?_))
                      intro v6 w6 hP6 hb6
                      have HP6 : Hid (PhA w.heap.size A E C V (10 + i) v6 (j + 1) w6) := hP6
                      have HB6 : Hid (Below w.heap.size w w6) := HB5.out.trans hb6
                      clear hP6 hb6 HPA5 HB5
                      go_wp2
                      go_roundw
                      case rel => exact ⟨j + 1, by omega, by go_num, HP6, HB6⟩
                      case measure => simp [intOf]; omega
                    · obtain rfl : j = 20 := by omega
                      have HPn : Hid (Ph w.heap.size A E C V 6 0 3 0 wr) := HPA.out.done
                      go_wp2
                      go_roundw
                      case rel => exact ⟨i + 1, by omega, by go_num, HPn, HB⟩
                      case measure => simp [intOf]; omega
                · obtain rfl : i = 6 := by omega
                  rw [show (((6 : Nat) : Nat) : Int) = 6 from rfl]
                  clear hlt hi
                  go_wp2
                  go_loopw [27] (fun iv wr => ∃ i : Nat, i ≤ 3 ∧ iv = .int .i64 i ∧ Hid (Ph w.heap.size A E C V 6 0 3 0 wr) ∧ Hid (Below w.heap.size w wr)) (fun iv _ => 3 - (intOf iv).toNat)
                  case atStart => exact ⟨0, by omega, rfl, HPh, HB⟩
                  case round =>
                    clear HPh HB
                    obtain ⟨i, hi, rfl, HPh, HB⟩ := hrel
                    by_cases hlt : i < 3
                    ·
                      have hcC := HPh.out.cellC HV1.out i hlt
                      have HPA : Hid (PhA w.heap.size A E C V (20 + i) (V (20 + i)) 0 wr) := HPh.out.alias (20 + i) (by unfold dom; omega)
                      clear HPh
                      go_wp2
                      rw [show decide ((i : Int) < 3) = true from decide_eq_true (by omega)]
                      go_loopw [28, 29] (fun gv jv wr => ∃ j : Nat, j ≤ 20 ∧ jv = .int .i64 j ∧ Hid (PhA w.heap.size A E C V (20 + i) gv j wr) ∧ Hid (Below w.heap.size w wr)) (fun _ jv _ => 20 - (intOf jv).toNat)
                      case atStart => exact ⟨0, by omega, rfl, HPA, HB⟩
                      case round =>
                        clear HPA HB hcC
                        obtain ⟨j, hj, rfl, HPA, HB⟩ := hrel
                        by_cases hjn : j < 20
                        · have HPw : Hid (Pow wr) := HP.out.below HB.out (Nat.le_refl _)
                          go_wp2_with fail
                          refine (Digits_any (i : Int) (by omega) (by omega) _ HPw.out).mono ?_
                          rintro e w5 ⟨rfl, hb5⟩
                          have HPA5 : Hid (PhA w.heap.size A E C V (20 + i) u28 j w5) := HPA.out.below hb5
                          have HB5 : Hid (Below w.heap.size w w5) := bel_trans HB.out hb5
                          have hs5 := HB5.out.size
                          have hz : (⟨#[103, 114, 111, 119, 110]⟩ : ByteArray).size + (str (Lib.itoa (i : Int))).size ≤ 9223372036854775807 := by
                            have hl := Lib.itoa_length_le (i : Int) (by omega) (by omega)
                            rw [str_size]
                            show 5 + _ ≤ _
                            omega
                          generalize str (Lib.itoa (i : Int)) = y at *
                          clear hb5 HPA HB HPw
                          go_wp2_with (at_builtin; go_must (refine wp_growP rfl (.tmp 193) (.tmp 198) rfl hlt _ HPA5.out (by omega) rfl _ _ _ _ rfl (by simp) hs5 ?_))
                          intro v6 w6 hP6 hb6
                          have HP6 : Hid (PhA w.heap.size A E C V (20 + i) v6 (j + 1) w6) := hP6
                          have HB6 : Hid (Below w.heap.size w w6) := HB5.out.trans hb6
                          clear hP6 hb6 HPA5 HB5
                          go_wp2
                          go_roundw
                          case rel => exact ⟨j + 1, by omega, by go_num, HP6, HB6⟩
                          case measure => simp [intOf]; omega
                        · obtain rfl : j = 20 := by omega
                          have HPn : Hid (Ph w.heap.size A E C V 6 0 3 0 wr) := HPA.out.done
                          go_wp2
                          go_roundw
                          case rel => exact ⟨i + 1, by omega, by go_num, HPn, HB⟩
                          case measure => simp [intOf]; omega
                    · obtain rfl : i = 3 := by omega
                      rw [show (((3 : Nat) : Nat) : Int) = 3 from rfl]
                      clear hlt hi
                      go_wp2
                      go_loopw [30] (fun iv wr => ∃ i : Nat, i ≤ 6 ∧ iv = .int .i64 i ∧ Hid (Ph w.heap.size A E C V 6 0 3 0 wr) ∧ Hid (Below w.heap.size w wr)) (fun iv _ => 6 - (intOf iv).toNat)
                      case atStart => exact ⟨0, by omega, rfl, HPh, HB⟩
                      case round =>
                        clear HPh HB
                        obtain ⟨i, hi, rfl, HPh, HB⟩ := hrel
                        by_cases hlt : i < 6
                        ·
                          go_wp2
                          rw [show decide ((i : Int) < 6) = true from decide_eq_true (by omega)]
                          go_loopw [31] (fun jv wr => ∃ j : Nat, j ≤ nA A E i ∧ jv = .int .i64 j ∧ Hid (Ph w.heap.size A E C V 6 0 3 0 wr) ∧ Hid (Below w.heap.size w wr)) (fun jv _ => nA A E i - (intOf jv).toNat)
                          case atStart => exact ⟨0, by omega, rfl, HPh, HB⟩
                          case round =>
                            clear HPh HB
                            obtain ⟨j, hj, rfl, HPh, HB⟩ := hrel
                            have hcL := HPh.out.cellL HV0.out i hlt
                            have hn : nA A E i ≤ 1048577 := by unfold nA; split <;> assumption
                            by_cases hjn : j < nA A E i
                            · rcases HPh.out.formS i hlt with ⟨_, h⟩ | ⟨g, cap, hv, hcap⟩
                              · omega
                              rw [hv] at hcL
                              have hcu := HPh.out.readS i hlt hv j hjn
                              rw [← dg_int] at hcu
                              obtain ⟨y, HY⟩ : ∃ y, Hid (str (Lib.itoa (1000 * (i : Int) + (j : Int))) = y) := ⟨_, rfl⟩
                              rw [HY.out] at hcu
                              have HVi : Hid (V (10 + i) = .slice (some ⟨g, 0, none⟩) (nA A E i) cap) := hv
                              clear hv
                              have HPh1 : Hid (Ph w.heap.size A E C V 6 0 3 0 wr.drew) := HPh.out.below (below_drewN (Below.refl _ _) 1)
                              have HB1 : Hid (Below w.heap.size w wr.drew) := below_drewN HB.out 1
                              have HPw : Hid (Pow wr.drew) := HP.out.below HB1.out (Nat.le_refl _)
                              go_wp2_with fail
                              refine gen_frame (fun fr hfr => ?_)
                              have fsz : fr.tmps.size = 286 := by rw [hfr]; rfl
                              have f10 : fr.tmps[10]'(by rw [fsz]; decide) = .slice (some ⟨g0, 0, none⟩) 6 c0 := by subst hfr; rfl
                              have f30 : fr.tmps[30]'(by rw [fsz]; decide) = .int .i64 (i : Int) := by subst hfr; rfl
                              have f31 : fr.tmps[31]'(by rw [fsz]; decide) = .int .i64 (j : Int) := by subst hfr; rfl
                              have wr1 : IntKind.i64.wrap (1000 * (i : Int)) = 1000 * (i : Int) := by rw [IntKind.wrap_i64]; omega
                              have wr2 : IntKind.i64.wrap (1000 * (i : Int) + (j : Int)) = 1000 * (i : Int) + (j : Int) := by rw [IntKind.wrap_i64]; omega
                              have HFR : Hid (fr = _) := hfr
                              clear hfr
                              go_region_with (go_at_call 23; refine (Digits_any (1000 * (i : Int) + (j : Int)) (by omega) (by omega) _ HPw.out).mono ?_; rw [HY.out]; rintro e w5 ⟨rfl, hb5⟩; have P5 := HPh1.out.below hb5; have hc5 := P5.cellL HV0.out i hlt; rw [HVi.out] at hc5; have hu5 := P5.readS i hlt HVi.out j hjn; rw [← dg_int, HY.out] at hu5; have HP5 : Hid (Ph w.heap.size A E C V 6 0 3 0 w5) := P5; have HB5 : Hid (Below w.heap.size w w5) := bel_trans HB1.out hb5; clear P5 hb5)
                              all_goals
                                change Exit.then _ _ Exit.normal (Act.mk (Array.setIfInBounds _ 227 (.bool false)) _) w5
                                rw [HFR.out]
                                clear f10 f30 f31 fsz wr1 wr2 HFR hc5 hu5 hcu hcL
                                simp only [List.setIfInBounds_toArray, List.set_cons_succ, List.set_cons_zero]
                                go_wp2
                                go_roundw
                                case rel => exact ⟨j + 1, by omega, by go_num, HP5, HB5⟩
                                case measure => simp [intOf]; omega
                            · obtain rfl : j = nA A E i := by omega
                              rcases HPh.out.formS i hlt with ⟨hv, hz⟩ | ⟨g, cap, hv, hcap⟩
                              all_goals
                                rw [hv] at hcL
                                clear hv
                                go_wp2
                                go_roundw
                                case rel => exact ⟨i + 1, by omega, by go_num, HPh, HB⟩
                                case measure => simp [intOf]; omega
                        · obtain rfl : i = 6 := by omega
                          rw [show (((6 : Nat) : Nat) : Int) = 6 from rfl]
                          clear hlt hi
                          go_wp2
                          go_loopw [32] (fun kv wr => ∃ k : Nat, k ≤ 3 ∧ kv = .int .i64 k ∧ Hid (Ph w.heap.size A E C V 6 0 3 0 wr) ∧ Hid (Below w.heap.size w wr)) (fun kv _ => 3 - (intOf kv).toNat)
                          case atStart => exact ⟨0, by omega, rfl, HPh, HB⟩
                          case round =>
                            clear HPh HB
                            obtain ⟨k, hk, rfl, HPh, HB⟩ := hrel
                            by_cases hlt : k < 3
                            ·
                              go_wp2
                              rw [show decide ((k : Int) < 3) = true from decide_eq_true (by omega)]
                              go_loopw [33] (fun lv wr => ∃ l : Nat, l ≤ C.length ∧ lv = .int .i64 l ∧ Hid (Ph w.heap.size A E C V 6 0 3 0 wr) ∧ Hid (Below w.heap.size w wr)) (fun lv _ => C.length - (intOf lv).toNat)
                              case atStart => exact ⟨0, by omega, rfl, HPh, HB⟩
                              case round =>
                                clear HPh HB
                                obtain ⟨l, hl, rfl, HPh, HB⟩ := hrel
                                have hcC := HPh.out.cellC HV1.out k hlt
                                by_cases hjn : l < C.length
                                · rcases HPh.out.formP k hlt with ⟨_, h⟩ | ⟨g, cap, hv, hcap⟩
                                  · omega
                                  rw [hv] at hcC
                                  have hcu := HPh.out.readP k hlt hv l hjn
                                  rw [← dg_int] at hcu
                                  obtain ⟨y, HY⟩ : ∃ y, Hid (str (Lib.itoa (1000 * (k : Int) + (l : Int))) = y) := ⟨_, rfl⟩
                                  rw [HY.out] at hcu
                                  have HVi : Hid (V (20 + k) = .slice (some ⟨g, 0, none⟩) C.length cap) := hv
                                  clear hv
                                  have HPh1 : Hid (Ph w.heap.size A E C V 6 0 3 0 wr.drew) := HPh.out.below (below_drewN (Below.refl _ _) 1)
                                  have HB1 : Hid (Below w.heap.size w wr.drew) := below_drewN HB.out 1
                                  have HPw : Hid (Pow wr.drew) := HP.out.below HB1.out (Nat.le_refl _)
                                  go_wp2_with fail
                                  refine gen_frame (fun fr hfr => ?_)
                                  have fsz : fr.tmps.size = 286 := by rw [hfr]; rfl
                                  have f11 : fr.tmps[11]'(by rw [fsz]; decide) = .slice (some ⟨g1, 0, none⟩) 3 c1 := by subst hfr; rfl
                                  have f32 : fr.tmps[32]'(by rw [fsz]; decide) = .int .i64 (k : Int) := by subst hfr; rfl
                                  have f33 : fr.tmps[33]'(by rw [fsz]; decide) = .int .i64 (l : Int) := by subst hfr; rfl
                                  have wr1 : IntKind.i64.wrap (1000 * (k : Int)) = 1000 * (k : Int) := by rw [IntKind.wrap_i64]; omega
                                  have wr2 : IntKind.i64.wrap (1000 * (k : Int) + (l : Int)) = 1000 * (k : Int) + (l : Int) := by rw [IntKind.wrap_i64]; omega
                                  have HFR : Hid (fr = _) := hfr
                                  clear hfr
                                  go_region_with (go_at_call 23; refine (Digits_any (1000 * (k : Int) + (l : Int)) (by omega) (by omega) _ HPw.out).mono ?_; rw [HY.out]; rintro e w5 ⟨rfl, hb5⟩; have P5 := HPh1.out.below hb5; have hc5 := P5.cellC HV1.out k hlt; rw [HVi.out] at hc5; have hu5 := P5.readP k hlt HVi.out l hjn; rw [← dg_int, HY.out] at hu5; have HP5 : Hid (Ph w.heap.size A E C V 6 0 3 0 w5) := P5; have HB5 : Hid (Below w.heap.size w w5) := bel_trans HB1.out hb5; clear P5 hb5)
                                  all_goals
                                    change Exit.then _ _ Exit.normal (Act.mk (Array.setIfInBounds _ 256 (.bool false)) _) w5
                                    rw [HFR.out]
                                    clear f11 f32 f33 fsz wr1 wr2 HFR hc5 hu5 hcu hcC
                                    simp only [List.setIfInBounds_toArray, List.set_cons_succ, List.set_cons_zero]
                                    go_wp2
                                    go_roundw
                                    case rel => exact ⟨l + 1, by omega, by go_num, HP5, HB5⟩
                                    case measure => simp [intOf]; omega
                                · obtain rfl : l = C.length := by omega
                                  rcases HPh.out.formP k hlt with ⟨hv, hz⟩ | ⟨g, cap, hv, hcap⟩
                                  all_goals
                                    rw [hv] at hcC
                                    clear hv
                                    go_wp2
                                    go_roundw
                                    case rel => exact ⟨k + 1, by omega, by go_num, HPh, HB⟩
                                    case measure => simp [intOf]; omega
                            · obtain rfl : k = 3 := by omega
                              rw [show (((3 : Nat) : Nat) : Int) = 3 from rfl]
                              have HRl : Hid (RdS vl A wr ∧ RdS vk E wr ∧ RdP vp C wr) := by
                                have := HPh.out.rdL
                                rw [HV.out.1, HV.out.2.1, HV.out.2.2] at this
                                exact this
                              clear hlt hk HPh
                              go_wp2_with fail
                              refine (List_any a0 (by omega) _).mono ?_
                              rintro e w2 ⟨va, rfl, ho2, hb2⟩
                              rw [HA.out] at ho2 ⊢
                              have HR2 : Hid (RdS va A w2) := ho2.rd
                              have HRl2 : Hid (RdS vl A w2 ∧ RdS vk E w2 ∧ RdP vp C w2) := ⟨HRl.out.1.below hb2, HRl.out.2.1.below hb2, HRl.out.2.2.below hb2⟩
                              have HB2 : Hid (Below w.heap.size w w2) := bel_trans HB.out hb2
                              clear ho2 hb2 HB HRl
                              go_wp2_with fail
                              refine (Tokens_any a0 (by omega) _ (HT.out.below HB2.out (Nat.le_refl _))).mono ?_
                              rintro e w3 ⟨vb, rfl, ho3, hb3⟩
                              rw [HE.out] at ho3 ⊢
                              have HR3 : Hid (RdS vb E w3) := ho3.rd
                              have HR2b : Hid (RdS va A w3) := HR2.out.below hb3
                              have HRl3 : Hid (RdS vl A w3 ∧ RdS vk E w3 ∧ RdP vp C w3) := ⟨HRl2.out.1.below hb3, HRl2.out.2.1.below hb3, HRl2.out.2.2.below hb3⟩
                              have HB3 : Hid (Below w.heap.size w w3) := bel_trans HB2.out hb3
                              clear ho3 hb3 HB2 HRl2 HR2
                              go_wp2_with fail
                              refine (Params_any a0 (by omega) _ (HT.out.below HB3.out (Nat.le_refl _))).mono ?_
                              rintro e w4 ⟨vc, rfl, ho4, hb4⟩
                              rw [HC.out] at ho4 ⊢
                              have HR4 : Hid (RdP vc C w4) := ho4.rd
                              have HR3b : Hid (RdS vb E w4) := HR3.out.below hb4
                              have HR2c : Hid (RdS va A w4) := HR2b.out.below hb4
                              have HRl4 : Hid (RdS vl A w4 ∧ RdS vk E w4 ∧ RdP vp C w4) := ⟨HRl3.out.1.below hb4, HRl3.out.2.1.below hb4, HRl3.out.2.2.below hb4⟩
                              have HB4 : Hid (Below w.heap.size w w4) := bel_trans HB3.out hb4
                              clear ho4 hb4 HB3 HRl3 HR3 HR2b
                              go_wp2_with fail
                              refine (same_any va vl A A _ HR2c.out HRl4.out.1 (by omega) (by omega)).mono ?_
                              rintro e w5 ⟨rfl, n5, rfl⟩
                              rw [show decide (A = A) = true from decide_eq_true rfl]
                              have b5 : Below w4.heap.size w4 (w4.drewN n5) := below_drewN (Below.refl _ _) _
                              have HR3c : Hid (RdS vb E (w4.drewN n5)) := HR3b.out.below b5
                              have HRk : Hid (RdS vk E (w4.drewN n5)) := HRl4.out.2.1.below b5
                              have HR4b : Hid (RdP vc C (w4.drewN n5)) := HR4.out.below b5
                              have HRp : Hid (RdP vp C (w4.drewN n5)) := HRl4.out.2.2.below b5
                              have HB5 : Hid (Below w.heap.size w (w4.drewN n5)) := below_drewN HB4.out _
                              clear b5 HB4 HR2c HR3b HR4 HRl4
                              generalize w4.drewN n5 = w5 at *
                              go_wp2_with fail
                              refine (same_any vb vk E E _ HR3c.out HRk.out (by omega) (by omega)).mono ?_
                              rintro e w6 ⟨rfl, n6, rfl⟩
                              rw [show decide (E = E) = true from decide_eq_true rfl]
                              have b6 : Below w5.heap.size w5 (w5.drewN n6) := below_drewN (Below.refl _ _) _
                              have HR4c : Hid (RdP vc C (w5.drewN n6)) := HR4b.out.below b6
                              have HRp6 : Hid (RdP vp C (w5.drewN n6)) := HRp.out.below b6
                              have HB6 : Hid (Below w.heap.size w (w5.drewN n6)) := below_drewN HB5.out _
                              clear b6 HB5 HR3c HRk HR4b HRp
                              generalize w5.drewN n6 = w6 at *
                              go_wp2_with fail
                              refine (alike_any vc vp C _ HR4c.out HRp6.out (by omega)).mono ?_
                              rintro e w7 ⟨rfl, n7, rfl⟩
                              have HB7 : Hid (Below w.heap.size w (w6.drewN n7)) := below_drewN HB6.out _
                              clear HB6 HR4c HRp6
                              generalize w6.drewN n7 = w7 at *
                              go_wp2
                              go_ret
                              exact ⟨rfl, HB7.out⟩

end Go.Proofs.YthdepdgmlngafabDoor.octetMemoryUpto
