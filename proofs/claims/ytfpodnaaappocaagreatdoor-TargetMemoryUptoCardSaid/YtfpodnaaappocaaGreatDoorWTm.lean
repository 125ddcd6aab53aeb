/-
  The law TargetMemory: the walk (written by mkwtm.py).
-/
import Derived.Test.YtfpodnaaappocaaGreatDoorMgV
import Derived.Test.YtfpodnaaappocaaGreatDoorMgA1
import Derived.Test.YtfpodnaaappocaaGreatDoorMgB1
import Derived.Test.YtfpodnaaappocaaGreatDoorGAw
import Derived.Test.YtfpodnaaappocaaGreatDoorMgU
import Derived.Deep.RegionWith
import Derived.OpenShut
set_option linter.unusedVariables false
set_option linter.unusedSimpArgs false
namespace Go.Proofs.YtfpodnaaappocaaGreatDoor
open Go.RowKit Go.Shelf
namespace Tg
open Oc

theorem gen_frame {P : Program} {c : Code} {Q : Exit → Act → World → Prop} {a : Act} {w : World} (h : ∀ fr, fr = a → Code.wp P c Q fr w) : Code.wp P c Q a w := h a rfl

theorem Ph.lenS {B : Nat} {A E : List (List UInt8)} {C : List Prm} {V : Nat → Value} {i j k l : Nat} {w : World} (P : Ph B A E C V i j k l w) (q : Nat) (hq : q < 3) : ∃ a c, V (10 + q) = .slice a A.length c := by
  rcases P.formS q hq with ⟨e, h⟩ | ⟨g, cap, e, _⟩
  · unfold nA at h
    exact ⟨none, 0, by rw [e, h]⟩
  · exact ⟨_, _, e⟩
theorem Ph.lenP {B : Nat} {A E : List (List UInt8)} {C : List Prm} {V : Nat → Value} {i j k l : Nat} {w : World} (P : Ph B A E C V i j k l w) (q : Nat) (hq : q < 3) : ∃ a c, V (20 + q) = .slice a C.length c := by
  rcases P.formP q hq with ⟨e, h⟩ | ⟨g, cap, e, _⟩
  · exact ⟨none, 0, by rw [e, h]⟩
  · exact ⟨_, _, e⟩

set_option maxRecDepth 100000 in
set_option maxHeartbeats 8000000 in
theorem walk_TargetMemory (p : ByteArray) (hp : p.size ≤ 1048576) (q : ByteArray) (hq : q.size ≤ 1048576) (w : World) (hm : ML w) :
    Calls Tryz.prog 3 #[.string p, .string q] w fun e w' => e = .returned (.bool true) ∧ Below w.heap.size w w' := by
  have HML : Hid (ML w) := hm
  clear hm
  have HS1 : Hid (∀ W, ML W → _) := fun W h => Segments_any p (by omega) W h
  have HS2 : Hid (∀ W, _) := fun W => rSegments_any p (by omega) W
  have HQ1 : Hid (∀ W, ML W → _) := fun W h => Query_any q (by omega) W h
  have HQ2 : Hid (∀ W, _) := fun W => rQuery_any q (by omega) W
  have hA := segR_len p.data.toList
  have hC := queryR_len q.data.toList
  rw [size_list] at hA hC
  generalize segR p.data.toList = SR at *
  generalize queryR q.data.toList = QR at *
  obtain ⟨A, eA⟩ := SR
  obtain ⟨C, eC, eC2⟩ := QR
  dsimp only at HS1 HS2 HQ1 HQ2 hA hC
  generalize (eC : Int) = zC at *
  have hA' : A.length ≤ 1048577 := by omega
  have hC' : C.length ≤ 1048577 := by omega
  go_enter Tryz.func3, Tryz.ntmps3
  go_wp2_with fail
  refine (HS2.out _).mono ?_
  rintro e w2 ⟨vl, rfl, ho2, hb2⟩
  have HO2 : Hid (OwnS w.heap.size vl A w2) := ho2
  have HB2 : Hid (Below w.heap.size w w2) := hb2
  clear ho2 hb2
  go_wp2_with fail
  refine (HQ2.out _).mono ?_
  rintro e w4 ⟨vp, rfl, ho4, hb4⟩
  obtain ⟨V, hM, h0, h1, h2, h3, h4⟩ := Mx.start (B := w.heap.size) (E := []) (Nat.le_refl _) HO2.out HB2.out (ownS_nil w2.heap.size w2) (Below.refl _ w2) ho4 hb4
  have HM : Hid (∃ N X, Mx w.heap.size A [] C 0 0 0 0 V N X ((w4.alloc (.cells #[] 22)).alloc (.cells #[] 33))) := hM
  have HV : Hid (V 2 = vl ∧ V 4 = vp) := ⟨h2, h4⟩
  have HB4 : Hid (Below w.heap.size w ((w4.alloc (.cells #[] 22)).alloc (.cells #[] 33))) := by
    have b4 := bel_trans HB2.out hb4
    have s4 := b4.size
    exact (b4.alloc s4 _).alloc (by simp; omega) _
  have H0 : Hid (V 0 = .slice (some ⟨w4.heap.size, 0, none⟩) 0 0) := h0
  have H1 : Hid (V 1 = .slice (some ⟨w4.heap.size + 1, 0, none⟩) 0 0) := h1
  clear hM h0 h1 h2 h3 h4 ho4 hb4 HB2 HO2
  go_wp2
  go_loopw [10, 11, 12] (fun lv pv iv wr => ∃ (i : Nat) (V : Nat → Value), i ≤ 3 ∧ iv = .int .i64 i ∧ Hid (lv = V 0) ∧ Hid (pv = V 1) ∧ Hid (V 2 = vl ∧ V 4 = vp) ∧ Hid (∃ N X, Mx w.heap.size A [] C i i i i V N X wr) ∧ Hid (Below w.heap.size w wr)) (fun _ _ iv _ => 3 - (intOf iv).toNat)
  case atStart => exact ⟨0, V, by omega, rfl, H0.out.symm, H1.out.symm, HV, HM, HB4⟩
  case round =>
    clear HM HV HB4 H0 H1 V
    obtain ⟨i, V, hi, rfl, hlv, hpv, HV, HM, HB⟩ := hrel
    by_cases hlt : i < 3
    ·
      have hs0 := HB.out.size
      go_wp2_with fail
      refine (HS1.out _ (HML.out.below HB.out)).mono ?_
      rintro e w2 ⟨va, rfl, ho2, hb2⟩
      obtain ⟨aa, ca, rfl, _⟩ := ho2.rd
      have HR2 : Hid (RdS (.slice aa A.length ca) A w2) := ho2.rd
      have HM2 : Hid (∃ N X, Mx w.heap.size A [] C (i + 1) i i i (upd V (10 + i) (.slice aa A.length ca)) N X w2) := by
        obtain ⟨N, X, M⟩ := HM.out
        exact M.addS (by omega) (by omega) hb2 hs0 ho2 rfl
      have HB2 : Hid (Below w.heap.size w w2) := bel_trans HB.out hb2
      have hs2 := HB2.out.size
      clear ho2 hb2 HM HB
      go_wp2_with fail
      refine (HQ1.out _ (HML.out.below HB2.out)).mono ?_
      rintro e w4 ⟨vc, rfl, ho4, hb4⟩
      obtain ⟨ac, cc, rfl, _⟩ := ho4.rd
      have HR4 : Hid (RdQ (.slice ac C.length cc) C w4) := ho4.rd
      have HR2c : Hid (RdS (.slice aa A.length ca) A w4) := HR2.out.below hb4
      have HM4 : Hid (∃ N X, Mx w.heap.size A [] C (i + 1) (i + 1) i i (upd (upd V (10 + i) (.slice aa A.length ca)) (20 + i) (.slice ac C.length cc)) N X w4) := by
        obtain ⟨N, X, M⟩ := HM2.out
        exact M.addP (by omega) (by omega) (by omega) hb4 hs2 ho4
      have HB4 : Hid (Below w.heap.size w w4) := bel_trans HB2.out hb4
      clear ho4 hb4 HM2 HB2 HR2
      obtain ⟨V', hV'⟩ : ∃ V', V' = upd (upd V (10 + i) (.slice aa A.length ca)) (20 + i) (.slice ac C.length cc) := ⟨_, rfl⟩
      rw [← hV'] at HM4
      have HV2 : Hid (V' 2 = vl ∧ V' 4 = vp) := by
        rw [hV']
        simp only [upd]
        rw [if_neg (by omega), if_neg (by omega), if_neg (by omega), if_neg (by omega)]
        exact HV.out
      have HVa : Hid (V' (10 + i) = (.slice aa A.length ca)) := by show V' (10 + i) = (.slice aa A.length ca); rw [hV', upd_other _ _ (by omega), upd_same]
      have HVc : Hid (V' (20 + i) = (.slice ac C.length cc)) := by show V' (20 + i) = (.slice ac C.length cc); rw [hV', upd_same]
      have hlv' : Hid (_ = V' 0) := hlv.out.trans (by rw [hV', upd_other _ _ (by omega), upd_other _ _ (by omega)])
      have hpv' : Hid (_ = V' 1) := hpv.out.trans (by rw [hV', upd_other _ _ (by omega), upd_other _ _ (by omega)])
      clear hV' hlv hpv HV
      have HRl : Hid (RdS vl A w4 ∧ RdQ vp C w4) := by
        obtain ⟨N, X, M⟩ := HM4.out
        have := M.rdL
        rw [HV2.out.1, HV2.out.2] at this
        exact ⟨this.1, this.2.2⟩
      go_wp2_with fail
      refine (same_any (.slice aa A.length ca) vl A A _ HR2c.out HRl.out.1 (by omega) (by omega)).mono ?_
      rintro e w5 ⟨rfl, n5, rfl⟩
      rw [show decide (A = A) = true from decide_eq_true rfl]
      have b5 : Below w4.heap.size w4 (w4.drewN n5) := below_drewN (Below.refl _ _) _
      have HR4b : Hid (RdQ (.slice ac C.length cc) C (w4.drewN n5)) := HR4.out.below b5
      have HRp : Hid (RdQ vp C (w4.drewN n5)) := HRl.out.2.below b5
      have HB5 : Hid (Below w.heap.size w (w4.drewN n5)) := below_drewN HB4.out _
      have HM5 : Hid (∃ N X, Mx w.heap.size A [] C (i + 1) (i + 1) i i V' N X (w4.drewN n5)) := by
        obtain ⟨N, X, M⟩ := HM4.out
        exact ⟨N, X, M.below b5⟩
      clear b5 HB4 HM4 HR2c HR4 HRl
      generalize w4.drewN n5 = w6 at *
      go_wp2_with fail
      refine (pairs_any (.slice ac C.length cc) vp C _ HR4b.out HRp.out (by omega)).mono ?_
      rintro e w7 ⟨rfl, n7, rfl⟩
      have b7 : Below w6.heap.size w6 (w6.drewN n7) := below_drewN (Below.refl _ _) _
      have HB7 : Hid (Below w.heap.size w (w6.drewN n7)) := below_drewN HB5.out _
      have HM7 : Hid (∃ N X, Mx w.heap.size A [] C (i + 1) (i + 1) i i V' N X (w6.drewN n7)) := by
        obtain ⟨N, X, M⟩ := HM5.out
        exact ⟨N, X, M.below b7⟩
      have hs7 := HB7.out.size
      clear b7 HB5 HM5 HR4b HRp
      generalize w6.drewN n7 = w7 at *
      go_wp2_with (at_builtin; go_must (refine wp_appL rfl (.tmp 71) (.tmp 73) rfl HM7.out (by omega) (by omega) _ rfl (by exact hlv'.out) _ HVa.out _ rfl (by simp) hs7 ?_))
      intro v8 w8 N8 X8 hM8 hb8
      have HM8 : Hid (∃ N X, Mx w.heap.size A [] C (i + 1) (i + 1) (i + 1) i (upd V' 0 v8) N X w8) := ⟨N8, X8, hM8⟩
      have HB8 : Hid (Below w.heap.size w w8) := HB7.out.trans hb8
      have hs8 := HB8.out.size
      have hp8 : Hid (_ = (upd V' 0 v8) 1) := hpv'.out.trans (by rw [upd_other _ _ (by omega)])
      have hc8 : Hid ((upd V' 0 v8) (20 + i) = (.slice ac C.length cc)) := by show (upd V' 0 v8) (20 + i) = (.slice ac C.length cc); rw [upd_other _ _ (by omega)]; exact HVc.out
      clear hM8 hb8 HM7 HB7
      go_wp2_with (at_builtin; go_must (refine wp_appC rfl (.tmp 75) (.tmp 77) rfl HM8.out (by omega) (by omega) _ rfl (by exact hp8.out) _ hc8.out _ rfl (by simp) hs8 ?_))
      intro v9 w9 N9 X9 hM9 hb9
      have HM9 : Hid (∃ N X, Mx w.heap.size A [] C (i + 1) (i + 1) (i + 1) (i + 1) (upd (upd V' 0 v8) 1 v9) N X w9) := ⟨N9, X9, hM9⟩
      have HB9 : Hid (Below w.heap.size w w9) := HB8.out.trans hb9
      have HV9 : Hid ((upd (upd V' 0 v8) 1 v9) 2 = vl ∧ (upd (upd V' 0 v8) 1 v9) 4 = vp) := by
        refine ⟨?_, ?_⟩
        · rw [upd_other _ _ (by omega), upd_other _ _ (by omega)]; exact HV2.out.1
        · rw [upd_other _ _ (by omega), upd_other _ _ (by omega)]; exact HV2.out.2
      have hl9 : Hid (v8 = (upd (upd V' 0 v8) 1 v9) 0) := by show v8 = _; rw [upd_other _ _ (by omega), upd_same]
      have hp9 : Hid (v9 = (upd (upd V' 0 v8) 1 v9) 1) := by show v9 = _; rw [upd_same]
      clear hM9 hb9 HM8 HB8
      go_wp2
      go_roundw
      case rel => exact ⟨i + 1, _, by omega, by go_num, hl9, hp9, HV9, HM9, HB9⟩
      case measure => simp [intOf]; omega
    · obtain rfl : i = 3 := by omega
      rw [show (((3 : Nat) : Nat) : Int) = 3 from rfl]
      have P := Ph.start HM.out
      obtain ⟨g0, c0, hv0, h60⟩ := P.formL
      obtain ⟨g1, c1, hv1, h31⟩ := P.formC
      have e0 := hlv.out.trans hv0
      have e1 := hpv.out.trans hv1
      subst e0 e1
      have HPh : Hid (Ph w.heap.size A [] C V 0 0 0 0 wr) := P
      have HV0 : Hid (V 0 = .slice (some ⟨g0, 0, none⟩) 3 c0) := hv0
      have HV1 : Hid (V 1 = .slice (some ⟨g1, 0, none⟩) 3 c1) := hv1
      clear P hv0 hv1 hlv hpv HM hi hlt
      go_wp2
      go_loopw [18] (fun iv wr => ∃ i : Nat, i ≤ 3 ∧ iv = .int .i64 i ∧ Hid (Ph w.heap.size A [] C V i 0 i 0 wr) ∧ Hid (Below w.heap.size w wr)) (fun iv _ => 3 - (intOf iv).toNat)
      case atStart => exact ⟨0, by omega, rfl, HPh, HB⟩
      case round =>
        clear HPh HB
        obtain ⟨i, hi, rfl, HPh, HB⟩ := hrel
        by_cases hlt : i < 3
        ·
          go_wp2
          rw [show decide ((i : Int) < 3) = true from decide_eq_true (by omega)]
          go_loopw [19] (fun jv wr => ∃ j : Nat, j ≤ A.length ∧ jv = .int .i64 j ∧ Hid (Ph w.heap.size A [] C V i j i 0 wr) ∧ Hid (Below w.heap.size w wr)) (fun jv _ => A.length - (intOf jv).toNat)
          case atStart => exact ⟨0, by omega, rfl, HPh, HB⟩
          case round =>
            clear HPh HB
            obtain ⟨j, hj, rfl, HPh, HB⟩ := hrel
            have hcL := HPh.out.cellL HV0.out i hlt
            by_cases hjn : j < A.length
            · rcases HPh.out.formS i hlt with ⟨_, h⟩ | ⟨g, cap, hv, hcap⟩
              · unfold nA at h; omega
              rw [hv] at hcL
              have HVi : Hid (V (10 + i) = .slice (some ⟨g, 0, none⟩) A.length cap) := hv
              have hcap' : A.length ≤ cap := hcap
              clear hv hcap
              have HPh1 : Hid (Ph w.heap.size A [] C V i j i 0 wr.drew) := HPh.out.below (below_drewN (Below.refl _ _) 1)
              have HB1 : Hid (Below w.heap.size w wr.drew) := below_drewN HB.out 1
              have hil : (str (Lib.itoa (1000 * (i : Int) + (j : Int)))).size ≤ 30 := by
                have hl := Lib.itoa_length_le (1000 * (i : Int) + (j : Int)) (by omega) (by omega)
                rw [str_size]; omega
              have hz4 : 4 + (str (Lib.itoa (1000 * (i : Int) + (j : Int)))).size ≤ 9223372036854775807 := by omega
              have HDg : Hid (∀ W, Calls Tryz.prog 10 #[.int .i64 (1000 * (i : Int) + (j : Int))] W fun e w' => e = .returned (.string (str (Lib.itoa (1000 * (i : Int) + (j : Int))))) ∧ Below (World.heap W).size W w') := fun W => rDigits_any (1000 * (i : Int) + (j : Int)) (by omega) (by omega) W
              have HDd : Hid (.string ((⟨#[109, 97, 114, 107]⟩ : ByteArray) ++ str (Lib.itoa (1000 * (i : Int) + (j : Int)))) = dg i j) := dg_int i j
              generalize str (Lib.itoa (1000 * (i : Int) + (j : Int))) = Y at *
              go_wp2_with fail
              refine gen_frame (fun fr hfr => ?_)
              have fsz : fr.tmps.size = 228 := by rw [hfr]; rfl
              have f10 : fr.tmps[10]'(by rw [fsz]; decide) = .slice (some ⟨g0, 0, none⟩) 3 c0 := by subst hfr; rfl
              have f18 : fr.tmps[18]'(by rw [fsz]; decide) = .int .i64 (i : Int) := by subst hfr; rfl
              have f19 : fr.tmps[19]'(by rw [fsz]; decide) = .int .i64 (j : Int) := by subst hfr; rfl
              have wr1 : IntKind.i64.wrap (1000 * (i : Int)) = 1000 * (i : Int) := by rw [IntKind.wrap_i64]; omega
              have wr2 : IntKind.i64.wrap (1000 * (i : Int) + (j : Int)) = 1000 * (i : Int) + (j : Int) := by rw [IntKind.wrap_i64]; omega
              have HFR : Hid (fr = _) := hfr
              clear hfr
              go_region_with (go_at_call 10; refine (HDg.out _).mono ?_; rintro e w5 ⟨rfl, hb5⟩; have P5 := HPh1.out.below hb5; have hc5 := P5.cellL HV0.out i hlt; rw [HVi.out] at hc5; obtain ⟨⟨u5, hu5⟩, hz5⟩ := P5.freeS i hlt HVi.out j hjn; have HP5 : Hid (Ph w.heap.size A [] C V i j i 0 w5) := P5; have HB5 : Hid (Below w.heap.size w w5) := bel_trans HB1.out hb5; clear P5 hb5)
              all_goals
                have HPn : Hid (Ph w.heap.size A [] C V i (j + 1) i 0 (w5.setCell ⟨g, j, none⟩ (.string ((⟨#[109, 97, 114, 107]⟩ : ByteArray) ++ Y)))) := by
                  have := HP5.out.setS hlt hjn HVi.out
                  rw [← HDd.out] at this
                  exact this
                have HBn : Hid (Below w.heap.size w (w5.setCell ⟨g, j, none⟩ (.string ((⟨#[109, 97, 114, 107]⟩ : ByteArray) ++ Y)))) := HB5.out.setCell (p := ⟨g, j, none⟩) (HP5.out.geS i hlt HVi.out) _
                rw [HFR.out]
                clear f10 f18 f19 fsz wr1 wr2 HFR hc5 hu5 hz5 HP5 HB5
                generalize w5.setCell ⟨g, j, none⟩ (.string ((⟨#[109, 97, 114, 107]⟩ : ByteArray) ++ Y)) = w6 at *
                go_wp2
                go_roundw
                case rel => exact ⟨j + 1, by omega, by go_num, HPn, HBn⟩
                case measure => simp [intOf]; omega
            · obtain rfl : j = A.length := by omega
              have HPn : Hid (Ph w.heap.size A [] C V (i + 1) 0 i 0 wr) := HPh.out.nextS
              obtain ⟨a', c', hv⟩ := HPh.out.lenS i hlt
              all_goals
                rw [hv] at hcL
                clear hv
                go_wp2
                go_loopw [20] (fun lv wr => ∃ l : Nat, l ≤ C.length ∧ lv = .int .i64 l ∧ Hid (Ph w.heap.size A [] C V (i + 1) 0 i l wr) ∧ Hid (Below w.heap.size w wr)) (fun lv _ => C.length - (intOf lv).toNat)
                case atStart => exact ⟨0, by omega, rfl, HPn, HB⟩
                case round =>
                  clear HPh HB HPn
                  obtain ⟨l, hl, rfl, HPh, HB⟩ := hrel
                  have hcC := HPh.out.cellC HV1.out i hlt
                  by_cases hjn : l < C.length
                  · rcases HPh.out.formP i hlt with ⟨_, h⟩ | ⟨g, cap, hv, hcap⟩
                    · omega
                    rw [hv] at hcC
                    have HVi : Hid (V (20 + i) = .slice (some ⟨g, 0, none⟩) C.length cap) := hv
                    clear hv
                    have HPh1 : Hid (Ph w.heap.size A [] C V (i + 1) 0 i l wr.drew) := HPh.out.below (below_drewN (Below.refl _ _) 1)
                    have HB1 : Hid (Below w.heap.size w wr.drew) := below_drewN HB.out 1
                    have hil : (str (Lib.itoa (1000 * (i : Int) + (l : Int)))).size ≤ 30 := by
                      have hl := Lib.itoa_length_le (1000 * (i : Int) + (l : Int)) (by omega) (by omega)
                      rw [str_size]; omega
                    have hz4 : 4 + (str (Lib.itoa (1000 * (i : Int) + (l : Int)))).size ≤ 9223372036854775807 := by omega
                    have HDg : Hid (∀ W, Calls Tryz.prog 10 #[.int .i64 (1000 * (i : Int) + (l : Int))] W fun e w' => e = .returned (.string (str (Lib.itoa (1000 * (i : Int) + (l : Int))))) ∧ Below (World.heap W).size W w') := fun W => rDigits_any (1000 * (i : Int) + (l : Int)) (by omega) (by omega) W
                    have HDd : Hid (.string ((⟨#[109, 97, 114, 107]⟩ : ByteArray) ++ str (Lib.itoa (1000 * (i : Int) + (l : Int)))) = dg i l) := dg_int i l
                    generalize str (Lib.itoa (1000 * (i : Int) + (l : Int))) = Y at *
                    go_wp2_with fail
                    refine gen_frame (fun fr hfr => ?_)
                    have fsz : fr.tmps.size = 228 := by rw [hfr]; rfl
                    have f11 : fr.tmps[11]'(by rw [fsz]; decide) = .slice (some ⟨g1, 0, none⟩) 3 c1 := by subst hfr; rfl
                    have f18 : fr.tmps[18]'(by rw [fsz]; decide) = .int .i64 (i : Int) := by subst hfr; rfl
                    have f20 : fr.tmps[20]'(by rw [fsz]; decide) = .int .i64 (l : Int) := by subst hfr; rfl
                    have wr1 : IntKind.i64.wrap (1000 * (i : Int)) = 1000 * (i : Int) := by rw [IntKind.wrap_i64]; omega
                    have wr2 : IntKind.i64.wrap (1000 * (i : Int) + (l : Int)) = 1000 * (i : Int) + (l : Int) := by rw [IntKind.wrap_i64]; omega
                    have HFR : Hid (fr = _) := hfr
                    clear hfr
                    go_region_with (go_at_call 10; refine (HDg.out _).mono ?_; rintro e w5 ⟨rfl, hb5⟩; have P5 := HPh1.out.below hb5; have hc5 := P5.cellC HV1.out i hlt; rw [HVi.out] at hc5; obtain ⟨⟨u5, hu5⟩, hz5⟩ := P5.freeP i hlt HVi.out (l * 3) (by omega); obtain ⟨⟨u6, hu6⟩, hz6⟩ := P5.freeP i hlt HVi.out (l * 3 + 1) (by omega); obtain ⟨⟨u7, hu7⟩, hz7⟩ := P5.freeP i hlt HVi.out (l * 3 + 2) (by omega); have HP5 : Hid (Ph w.heap.size A [] C V (i + 1) 0 i l w5) := P5; have HB5 : Hid (Below w.heap.size w w5) := bel_trans HB1.out hb5; clear P5 hb5)
                    all_goals
                      have HPn : Hid (Ph w.heap.size A [] C V (i + 1) 0 i (l + 1) (((w5.setCell ⟨g, l * 3, none⟩ (.string ((⟨#[109, 97, 114, 107]⟩ : ByteArray) ++ Y))).setCell ⟨g, l * 3 + 1, none⟩ (.string ⟨#[]⟩)).setCell ⟨g, l * 3 + 2, none⟩ (.bool false))) := by
                        have := HP5.out.setP hlt hjn HVi.out (.string ⟨#[]⟩) (.bool false)
                        rw [← HDd.out] at this
                        exact this
                      have HBn : Hid (Below w.heap.size w (((w5.setCell ⟨g, l * 3, none⟩ (.string ((⟨#[109, 97, 114, 107]⟩ : ByteArray) ++ Y))).setCell ⟨g, l * 3 + 1, none⟩ (.string ⟨#[]⟩)).setCell ⟨g, l * 3 + 2, none⟩ (.bool false))) := by
                        have hge := HP5.out.geP i hlt HVi.out
                        exact ((HB5.out.setCell (p := ⟨g, l * 3, none⟩) hge _).setCell (p := ⟨g, l * 3 + 1, none⟩) hge _).setCell (p := ⟨g, l * 3 + 2, none⟩) hge _
                      rw [HFR.out]
                      clear f11 f18 f20 fsz wr1 wr2 HFR hc5 hu5 hz5 hu6 hz6 hu7 hz7 HP5 HB5
                      generalize (((w5.setCell ⟨g, l * 3, none⟩ (.string ((⟨#[109, 97, 114, 107]⟩ : ByteArray) ++ Y))).setCell ⟨g, l * 3 + 1, none⟩ (.string ⟨#[]⟩)).setCell ⟨g, l * 3 + 2, none⟩ (.bool false)) = w6 at *
                      go_wp2
                      go_roundw
                      case rel => exact ⟨l + 1, by omega, by go_num, HPn, HBn⟩
                      case measure => simp [intOf]; omega
                  · obtain rfl : l = C.length := by omega
                    have HPm : Hid (Ph w.heap.size A [] C V (i + 1) 0 (i + 1) 0 wr) := HPh.out.nextP
                    obtain ⟨a', c', hv⟩ := HPh.out.lenP i hlt
                    all_goals
                      rw [hv] at hcC
                      clear hv
                      go_wp2
                      go_roundw
                      case rel => exact ⟨i + 1, by omega, by go_num, HPm, HB⟩
                      case measure => simp [intOf]; omega
        · obtain rfl : i = 3 := by omega
          rw [show (((3 : Nat) : Nat) : Int) = 3 from rfl]
          clear hlt hi
          go_wp2
          go_loopw [21] (fun iv wr => ∃ i : Nat, i ≤ 3 ∧ iv = .int .i64 i ∧ Hid (Ph w.heap.size A [] C V 3 0 3 0 wr) ∧ Hid (Below w.heap.size w wr)) (fun iv _ => 3 - (intOf iv).toNat)
          case atStart => exact ⟨0, by omega, rfl, HPh, HB⟩
          case round =>
            clear HPh HB
            obtain ⟨i, hi, rfl, HPh, HB⟩ := hrel
            by_cases hlt : i < 3
            ·
              have hcL := HPh.out.cellL HV0.out i hlt
              have hcC := HPh.out.cellC HV1.out i hlt
              have HPA : Hid (PhB w.heap.size A [] C V i (V (10 + i)) (V (20 + i)) 0 0 wr) := HPh.out.both i hlt
              clear HPh
              go_wp2
              rw [show decide ((i : Int) < 3) = true from decide_eq_true (by omega)]
              go_loopw [22, 23, 24] (fun gv hv jv wr => ∃ j : Nat, j ≤ 20 ∧ jv = .int .i64 j ∧ Hid (PhB w.heap.size A [] C V i gv hv j j wr) ∧ Hid (Below w.heap.size w wr)) (fun _ _ jv _ => 20 - (intOf jv).toNat)
              case atStart => exact ⟨0, by omega, rfl, HPA, HB⟩
              case round =>
                clear HPA HB hcL hcC
                obtain ⟨j, hj, rfl, HPA, HB⟩ := hrel
                by_cases hjn : j < 20
                · have hs5 := HB.out.size
                  have hnl : nA A [] i + j + 1 ≤ 2147483648 := by unfold nA; omega
                  go_wp2_with (at_builtin; go_must (refine wp_growS rfl (.tmp 146) (.tmp 147) rfl hlt _ _ HPA.out hnl rfl _ _ rfl (by simp) hs5 ?_))
                  intro v6 w6 hP6 hb6
                  have HP6 : Hid (PhB w.heap.size A [] C V i v6 u23 (j + 1) j w6) := hP6
                  have HB6 : Hid (Below w.heap.size w w6) := HB.out.trans hb6
                  have hs6 := HB6.out.size
                  clear hP6 hb6 HPA HB
                  go_wp2_with (at_builtin; go_must (refine wp_growP rfl (.tmp 149) (.tmp 151) rfl hlt _ _ HP6.out (by omega) rfl _ _ _ _ rfl (by simp) hs6 ?_))
                  intro v7 w7 hP7 hb7
                  have HP7 : Hid (PhB w.heap.size A [] C V i v6 v7 (j + 1) (j + 1) w7) := hP7
                  have HB7 : Hid (Below w.heap.size w w7) := HB6.out.trans hb7
                  clear hP7 hb7 HP6 HB6
                  go_wp2
                  go_roundw
                  case rel => exact ⟨j + 1, by omega, by go_num, HP7, HB7⟩
                  case measure => simp [intOf]; omega
                · obtain rfl : j = 20 := by omega
                  have HPn : Hid (Ph w.heap.size A [] C V 3 0 3 0 wr) := HPA.out.done
                  go_wp2
                  go_roundw
                  case rel => exact ⟨i + 1, by omega, by go_num, HPn, HB⟩
                  case measure => simp [intOf]; omega
            · obtain rfl : i = 3 := by omega
              rw [show (((3 : Nat) : Nat) : Int) = 3 from rfl]
              clear hlt hi
              go_wp2
              go_loopw [25] (fun iv wr => ∃ i : Nat, i ≤ 3 ∧ iv = .int .i64 i ∧ Hid (Ph w.heap.size A [] C V 3 0 3 0 wr) ∧ Hid (Below w.heap.size w wr)) (fun iv _ => 3 - (intOf iv).toNat)
              case atStart => exact ⟨0, by omega, rfl, HPh, HB⟩
              case round =>
                clear HPh HB
                obtain ⟨i, hi, rfl, HPh, HB⟩ := hrel
                by_cases hlt : i < 3
                ·
                  go_wp2
                  rw [show decide ((i : Int) < 3) = true from decide_eq_true (by omega)]
                  go_loopw [26] (fun jv wr => ∃ j : Nat, j ≤ A.length ∧ jv = .int .i64 j ∧ Hid (Ph w.heap.size A [] C V 3 0 3 0 wr) ∧ Hid (Below w.heap.size w wr)) (fun jv _ => A.length - (intOf jv).toNat)
                  case atStart => exact ⟨0, by omega, rfl, HPh, HB⟩
                  case round =>
                    clear HPh HB
                    obtain ⟨j, hj, rfl, HPh, HB⟩ := hrel
                    have hcL := HPh.out.cellL HV0.out i hlt
                    by_cases hjn : j < A.length
                    · rcases HPh.out.formS i hlt with ⟨_, h⟩ | ⟨g, cap, hv, hcap⟩
                      · unfold nA at h; omega
                      rw [hv] at hcL
                      have hcu := HPh.out.readS i hlt hv j hjn
                      rw [← dg_int] at hcu
                      have HVi : Hid (V (10 + i) = .slice (some ⟨g, 0, none⟩) A.length cap) := hv
                      have hcap' : A.length ≤ cap := hcap
                      clear hv hcap
                      have HPh1 : Hid (Ph w.heap.size A [] C V 3 0 3 0 wr.drew) := HPh.out.below (below_drewN (Below.refl _ _) 1)
                      have HB1 : Hid (Below w.heap.size w wr.drew) := below_drewN HB.out 1
                      have hil : (str (Lib.itoa (1000 * (i : Int) + (j : Int)))).size ≤ 30 := by
                        have hl := Lib.itoa_length_le (1000 * (i : Int) + (j : Int)) (by omega) (by omega)
                        rw [str_size]; omega
                      have hz4 : 4 + (str (Lib.itoa (1000 * (i : Int) + (j : Int)))).size ≤ 9223372036854775807 := by omega
                      have HDg : Hid (∀ W, Calls Tryz.prog 10 #[.int .i64 (1000 * (i : Int) + (j : Int))] W fun e w' => e = .returned (.string (str (Lib.itoa (1000 * (i : Int) + (j : Int))))) ∧ Below (World.heap W).size W w') := fun W => rDigits_any (1000 * (i : Int) + (j : Int)) (by omega) (by omega) W
                      have HDd : Hid (dg i j = .string ((⟨#[109, 97, 114, 107]⟩ : ByteArray) ++ str (Lib.itoa (1000 * (i : Int) + (j : Int))))) := (dg_int i j).symm
                      generalize str (Lib.itoa (1000 * (i : Int) + (j : Int))) = Y at *
                      go_wp2_with fail
                      refine gen_frame (fun fr hfr => ?_)
                      have fsz : fr.tmps.size = 228 := by rw [hfr]; rfl
                      have f10 : fr.tmps[10]'(by rw [fsz]; decide) = .slice (some ⟨g0, 0, none⟩) 3 c0 := by subst hfr; rfl
                      have f25 : fr.tmps[25]'(by rw [fsz]; decide) = .int .i64 (i : Int) := by subst hfr; rfl
                      have f26 : fr.tmps[26]'(by rw [fsz]; decide) = .int .i64 (j : Int) := by subst hfr; rfl
                      have wr1 : IntKind.i64.wrap (1000 * (i : Int)) = 1000 * (i : Int) := by rw [IntKind.wrap_i64]; omega
                      have wr2 : IntKind.i64.wrap (1000 * (i : Int) + (j : Int)) = 1000 * (i : Int) + (j : Int) := by rw [IntKind.wrap_i64]; omega
                      have HFR : Hid (fr = _) := hfr
                      clear hfr
                      go_region_with (go_at_call 10; refine (HDg.out _).mono ?_; rintro e w5 ⟨rfl, hb5⟩; have P5 := HPh1.out.below hb5; have hc5 := P5.cellL HV0.out i hlt; rw [HVi.out] at hc5; have hu5 := P5.readS i hlt HVi.out j hjn; rw [HDd.out] at hu5; have HP5 : Hid (Ph w.heap.size A [] C V 3 0 3 0 w5) := P5; have HB5 : Hid (Below w.heap.size w w5) := bel_trans HB1.out hb5; clear P5 hb5)
                      all_goals
                        change Exit.then _ _ Exit.normal (Act.mk (Array.setIfInBounds _ 181 (.bool false)) _) w5
                        rw [HFR.out]
                        clear f10 f25 f26 fsz wr1 wr2 HFR hc5 hu5 hcu hcL
                        simp only [List.setIfInBounds_toArray, List.set_cons_succ, List.set_cons_zero]
                        go_wp2
                        go_roundw
                        case rel => exact ⟨j + 1, by omega, by go_num, HP5, HB5⟩
                        case measure => simp [intOf]; omega
                    · obtain rfl : j = A.length := by omega
                      obtain ⟨a', c', hv⟩ := HPh.out.lenS i hlt
                      all_goals
                        rw [hv] at hcL
                        clear hv
                        go_wp2
                        go_loopw [27] (fun lv wr => ∃ l : Nat, l ≤ C.length ∧ lv = .int .i64 l ∧ Hid (Ph w.heap.size A [] C V 3 0 3 0 wr) ∧ Hid (Below w.heap.size w wr)) (fun lv _ => C.length - (intOf lv).toNat)
                        case atStart => exact ⟨0, by omega, rfl, HPh, HB⟩
                        case round =>
                          clear HPh HB
                          obtain ⟨l, hl, rfl, HPh, HB⟩ := hrel
                          have hcC := HPh.out.cellC HV1.out i hlt
                          by_cases hjn : l < C.length
                          · rcases HPh.out.formP i hlt with ⟨_, h⟩ | ⟨g, cap, hv, hcap⟩
                            · omega
                            rw [hv] at hcC
                            have hcu := HPh.out.readP i hlt hv l hjn
                            rw [← dg_int] at hcu
                            have HVi : Hid (V (20 + i) = .slice (some ⟨g, 0, none⟩) C.length cap) := hv
                            clear hv
                            have HPh1 : Hid (Ph w.heap.size A [] C V 3 0 3 0 wr.drew) := HPh.out.below (below_drewN (Below.refl _ _) 1)
                            have HB1 : Hid (Below w.heap.size w wr.drew) := below_drewN HB.out 1
                            have hil : (str (Lib.itoa (1000 * (i : Int) + (l : Int)))).size ≤ 30 := by
                              have hl := Lib.itoa_length_le (1000 * (i : Int) + (l : Int)) (by omega) (by omega)
                              rw [str_size]; omega
                            have hz4 : 4 + (str (Lib.itoa (1000 * (i : Int) + (l : Int)))).size ≤ 9223372036854775807 := by omega
                            have HDg : Hid (∀ W, Calls Tryz.prog 10 #[.int .i64 (1000 * (i : Int) + (l : Int))] W fun e w' => e = .returned (.string (str (Lib.itoa (1000 * (i : Int) + (l : Int))))) ∧ Below (World.heap W).size W w') := fun W => rDigits_any (1000 * (i : Int) + (l : Int)) (by omega) (by omega) W
                            have HDd : Hid (dg i l = .string ((⟨#[109, 97, 114, 107]⟩ : ByteArray) ++ str (Lib.itoa (1000 * (i : Int) + (l : Int))))) := (dg_int i l).symm
                            generalize str (Lib.itoa (1000 * (i : Int) + (l : Int))) = Y at *
                            go_wp2_with fail
                            refine gen_frame (fun fr hfr => ?_)
                            have fsz : fr.tmps.size = 228 := by rw [hfr]; rfl
                            have f11 : fr.tmps[11]'(by rw [fsz]; decide) = .slice (some ⟨g1, 0, none⟩) 3 c1 := by subst hfr; rfl
                            have f25 : fr.tmps[25]'(by rw [fsz]; decide) = .int .i64 (i : Int) := by subst hfr; rfl
                            have f27 : fr.tmps[27]'(by rw [fsz]; decide) = .int .i64 (l : Int) := by subst hfr; rfl
                            have wr1 : IntKind.i64.wrap (1000 * (i : Int)) = 1000 * (i : Int) := by rw [IntKind.wrap_i64]; omega
                            have wr2 : IntKind.i64.wrap (1000 * (i : Int) + (l : Int)) = 1000 * (i : Int) + (l : Int) := by rw [IntKind.wrap_i64]; omega
                            have HFR : Hid (fr = _) := hfr
                            clear hfr
                            go_region_with (go_at_call 10; refine (HDg.out _).mono ?_; rintro e w5 ⟨rfl, hb5⟩; have P5 := HPh1.out.below hb5; have hc5 := P5.cellC HV1.out i hlt; rw [HVi.out] at hc5; have hu5 := P5.readP i hlt HVi.out l hjn; rw [HDd.out] at hu5; have HP5 : Hid (Ph w.heap.size A [] C V 3 0 3 0 w5) := P5; have HB5 : Hid (Below w.heap.size w w5) := bel_trans HB1.out hb5; clear P5 hb5)
                            all_goals
                              change Exit.then _ _ Exit.normal (Act.mk (Array.setIfInBounds _ 205 (.bool false)) _) w5
                              rw [HFR.out]
                              clear f11 f25 f27 fsz wr1 wr2 HFR hc5 hu5 hcu hcC
                              simp only [List.setIfInBounds_toArray, List.set_cons_succ, List.set_cons_zero]
                              go_wp2
                              go_roundw
                              case rel => exact ⟨l + 1, by omega, by go_num, HP5, HB5⟩
                              case measure => simp [intOf]; omega
                          · obtain rfl : l = C.length := by omega
                            obtain ⟨a', c', hv⟩ := HPh.out.lenP i hlt
                            all_goals
                              rw [hv] at hcC
                              clear hv
                              go_wp2
                              go_roundw
                              case rel => exact ⟨i + 1, by omega, by go_num, HPh, HB⟩
                              case measure => simp [intOf]; omega
                · obtain rfl : i = 3 := by omega
                  rw [show (((3 : Nat) : Nat) : Int) = 3 from rfl]
                  have HRl : Hid (RdS vl A wr ∧ RdQ vp C wr) := by
                    have := HPh.out.rdL
                    rw [HV.out.1, HV.out.2] at this
                    exact ⟨this.1, this.2.2⟩
                  clear hlt hi HPh
                  go_wp2_with fail
                  refine (HS1.out _ (HML.out.below HB.out)).mono ?_
                  rintro e w2 ⟨va, rfl, ho2, hb2⟩
                  have HR2 : Hid (RdS va A w2) := ho2.rd
                  have HRl2 : Hid (RdS vl A w2 ∧ RdQ vp C w2) := ⟨HRl.out.1.below hb2, HRl.out.2.below hb2⟩
                  have HB2 : Hid (Below w.heap.size w w2) := bel_trans HB.out hb2
                  clear ho2 hb2 HB HRl
                  go_wp2_with fail
                  refine (HQ1.out _ (HML.out.below HB2.out)).mono ?_
                  rintro e w4 ⟨vc, rfl, ho4, hb4⟩
                  have HR4 : Hid (RdQ vc C w4) := ho4.rd
                  have HR2c : Hid (RdS va A w4) := HR2.out.below hb4
                  have HRl4 : Hid (RdS vl A w4 ∧ RdQ vp C w4) := ⟨HRl2.out.1.below hb4, HRl2.out.2.below hb4⟩
                  have HB4 : Hid (Below w.heap.size w w4) := bel_trans HB2.out hb4
                  clear ho4 hb4 HB2 HRl2 HR2
                  go_wp2_with fail
                  refine (awake_any _ (HML.out.below HB4.out)).mono ?_
                  rintro e w5 ⟨rfl, hb5⟩
                  have HR5 : Hid (RdQ vc C w5) := HR4.out.below hb5
                  have HR5c : Hid (RdS va A w5) := HR2c.out.below hb5
                  have HRl5 : Hid (RdS vl A w5 ∧ RdQ vp C w5) := ⟨HRl4.out.1.below hb5, HRl4.out.2.below hb5⟩
                  have HB5 : Hid (Below w.heap.size w w5) := bel_trans HB4.out hb5
                  clear hb5 HB4 HRl4 HR2c HR4
                  go_wp2_with fail
                  refine (same_any va vl A A _ HR5c.out HRl5.out.1 (by omega) (by omega)).mono ?_
                  rintro e w6 ⟨rfl, n6, rfl⟩
                  rw [show decide (A = A) = true from decide_eq_true rfl]
                  have b6 : Below w5.heap.size w5 (w5.drewN n6) := below_drewN (Below.refl _ _) _
                  have HR6 : Hid (RdQ vc C (w5.drewN n6)) := HR5.out.below b6
                  have HRp : Hid (RdQ vp C (w5.drewN n6)) := HRl5.out.2.below b6
                  have HB6 : Hid (Below w.heap.size w (w5.drewN n6)) := below_drewN HB5.out _
                  clear b6 HB5 HR5c HR5 HRl5
                  generalize w5.drewN n6 = w6 at *
                  go_wp2_with fail
                  refine (pairs_any vc vp C _ HR6.out HRp.out (by omega)).mono ?_
                  rintro e w7 ⟨rfl, n7, rfl⟩
                  have HB7 : Hid (Below w.heap.size w (w6.drewN n7)) := below_drewN HB6.out _
                  clear HB6 HR6 HRp
                  generalize w6.drewN n7 = w7 at *
                  go_wp2
                  go_ret
                  exact ⟨rfl, HB7.out⟩

end Tg
end Go.Proofs.YtfpodnaaappocaaGreatDoor
