/-
  The law SheetMemory: the walk (written by mkwsm.py).
-/
import Derived.Test.YtlnlhhobmgiceaaGreatDoorMgV
import Derived.Test.YtlnlhhobmgiceaaGreatDoorSrX
import Derived.Test.YtlnlhhobmgiceaaGreatDoorZQa
import Derived.Test.YtlnlhhobmgiceaaGreatDoorMgW
import Derived.Test.YtlnlhhobmgiceaaGreatDoorMgU
import Derived.Deep.RegionWith
import Derived.BigQuiet
import Derived.OpenShut
set_option linter.unusedVariables false
set_option linter.unusedSimpArgs false
namespace Go.Proofs.YtlnlhhobmgiceaaGreatDoor
open Go.RowKit Go.Shelf
namespace Sr
open Oc Tg Zq

theorem gen_frame {P : Program} {c : Code} {Q : Exit → Act → World → Prop} {a : Act} {w : World} (h : ∀ fr, fr = a → Code.wp P c Q fr w) : Code.wp P c Q a w := h a rfl
def kdM (A E : List Tg.Prm) (C : List Pt.P5) : Kd := ⟨34, 47, 40, 49, fun q => if q = 4 then 62 else 57, fun q => if q = 4 then 5 else 3, fun q => if q = 2 then A.length else if q = 3 then E.length else C.length, fun q => if q = 2 then encQ A else if q = 3 then encP E else Pt.encT C, fun q => if q % 2 = 0 then A.length else E.length, fun _ => C.length⟩
theorem n1_even (A E : List Tg.Prm) (C : List Pt.P5) (i : Nat) : (kdM A E C).n1 (2 * i) = A.length := by show (if _ then _ else _) = _; rw [if_pos (by omega)]
theorem n1_odd (A E : List Tg.Prm) (C : List Pt.P5) (i : Nat) : (kdM A E C).n1 (2 * i + 1) = E.length := by show (if _ then _ else _) = _; rw [if_neg (by omega)]
theorem n1_le {A E : List Tg.Prm} (C : List Pt.P5) (hA : A.length ≤ 1048577) (hE : E.length ≤ 1048577) (q : Nat) : (kdM A E C).n1 q ≤ 1048577 := by show (if _ then _ else _) ≤ _; split <;> assumption
theorem rows_rd {A E : List Tg.Prm} {C : List Pt.P5} {B : Nat} {V : Nat → Value} {w : World} (h : ∀ q, 2 ≤ q → q < 5 → w.ownsRow B ((kdM A E C).tf q) ((kdM A E C).sf q) (V q) ((kdM A E C).nf q) ((kdM A E C).xf q)) : RdQ (V 2) A w ∧ RdQ (V 3) E w ∧ Pt.RdT (V 4) C w :=
  ⟨OwnQ.rd (T := 57) (B := B) (h 2 (by omega) (by omega)), Ds.rdq (OwnP.rd (T := 57) (B := B) (h 3 (by omega) (by omega))), Pt.OwnT.rd (T := 62) (B := B) (h 4 (by omega) (by omega))⟩
theorem infoLQ : (Tryz.prog.info? 34).map (fun i => (i.zero, i.size, i.bytes)) = some (some (.slice none 0 0), 1, 24) := by kernel_rfl
theorem infoLT : (Tryz.prog.info? 40).map (fun i => (i.zero, i.size, i.bytes)) = some (some (.slice none 0 0), 1, 24) := by kernel_rfl

set_option maxRecDepth 100000 in
set_option maxHeartbeats 8000000 in
theorem walk_SheetMemory (s0 s1 s2 s3 : ByteArray) (hz : s0.size + s1.size + s2.size + s3.size ≤ 1048576) (w : World) (ht : Tab w) (hm : ML w) (hg : Er.Gw w) :
    Calls Tryz.prog 3 #[.agg #[.string s0, .string s1, .string s2, .string s3]] w fun e w' => e = .returned (.bool true) ∧ Below w.heap.size w w' := by
  have HA : Hid (∀ W, Below w.heap.size w W → Calls _ _ _ W _) := fun W bl => awake15_any W (hm.below bl)
  have HQ : Hid (∀ W, Below w.heap.size w W → Calls _ _ _ W _) := fun W bl => Pairs_any s0 (by omega) W (hm.below bl)
  have HrQ : Hid (∀ W, Calls _ _ _ W _) := fun W => rPairs15_any s0 (by omega) W
  have HD : Hid (∀ W, Below w.heap.size w W → Calls _ _ _ W _) := fun W bl => Ds.Disposition_any s1 (by omega) W (ht.below bl (Nat.le_refl _)) (hm.below bl)
  have HrD : Hid (∀ W, Calls _ _ _ W _) := fun W => Ds.rDisposition_any s1 (by omega) W
  have HP : Hid (∀ W, Below w.heap.size w W → Calls _ _ _ W _) := fun W bl => Parse_any s2 s3 9 (by omega) (by omega) (by omega) W (ht.below bl (Nat.le_refl _)) (hm.below bl) ⟨ht.below bl (Nat.le_refl _), hm.below bl⟩ (hg.below bl)
  have HrP : Hid (∀ W, Calls _ _ _ W _) := fun W => rParse_any s2 s3 9 (by omega) (by omega) (by omega) W
  unfold Ans at HrP
  have hA := shpR_len s0.data.toList
  have hE := Ds.disR_len s1.data.toList
  have hC := parR_len s2.data.toList s3.data.toList 9
  rw [size_list] at hA hE hC
  generalize shpR s0.data.toList = QR at *
  generalize Ds.disR s1.data.toList = DR at *
  generalize parR s2.data.toList s3.data.toList 9 = PR at *
  obtain ⟨A, eA, fA⟩ := QR
  obtain ⟨eE, E, fE⟩ := DR
  obtain ⟨C, eC, fC⟩ := PR
  dsimp only at HQ HrQ HD HrD HP HrP hA hE hC
  have hA' : A.length ≤ 1048577 := by omega
  have hE' : E.length ≤ 1048577 := by omega
  have hC' : C.length ≤ 1048577 := by omega
  generalize (eA : Int) = zA at *
  generalize str eE = yE at *
  clear hA hE hC ht hm hg
  have HPp : Hid (∀ (v1 v2 : Value) (t : List Tg.Prm) W, RdQ v1 t W → RdQ v2 t W → t.length ≤ 4294967296 → Calls _ _ _ W _) := fun v1 v2 t W h1 h2 h3 => pairs15_any v1 v2 t W h1 h2 h3
  have HPt : Hid (∀ (v1 v2 : Value) W, Pt.RdT v1 C W → Pt.RdT v2 C W → Calls _ _ _ W _) := fun v1 v2 W h1 h2 => Wr.parts15_any v1 v2 C W h1 h2 (by omega)
  obtain ⟨W0, hW0⟩ : ∃ W0, W0 = w.alloc (.cells #[.string s0, .string s1, .string s2, .string s3] 23) := ⟨_, rfl⟩
  have HB0 : Hid (Below w.heap.size w W0) := (by rw [hW0]; exact (Below.refl _ w).alloc (Nat.le_refl _) _ : Below _ _ _)
  have c0 : W0.cell? ⟨w.heap.size, 0, none⟩ = some (.string s0) := by rw [hW0, Lib.cell_of_heap (heap_alloc_new w _)]; rfl
  have c1 : W0.cell? ⟨w.heap.size, 1, none⟩ = some (.string s1) := by rw [hW0, Lib.cell_of_heap (heap_alloc_new w _)]; rfl
  have c2 : W0.cell? ⟨w.heap.size, 2, none⟩ = some (.string s2) := by rw [hW0, Lib.cell_of_heap (heap_alloc_new w _)]; rfl
  have c3 : W0.cell? ⟨w.heap.size, 3, none⟩ = some (.string s3) := by rw [hW0, Lib.cell_of_heap (heap_alloc_new w _)]; rfl
  go_enter Tryz.func3, Tryz.ntmps3
  go_wp2_with fail
  rw [← hW0]
  go_quiet (fail)
  clear c0 c1 c2 c3
  have HBq : Hid (Below w.heap.size w (W0.drewN nq)) := below_drewN HB0.out nq
  generalize W0.drewN nq = W1 at *
  have hsW := HBq.out.size
  clear hW0 HB0 W0
  go_wp2_with fail
  refine (HrQ.out _).mono ?_
  rintro e w1 ⟨vx, rfl, ho1, hb1⟩
  have HO1 : Hid (OwnQ 57 W1.heap.size vx A w1) := ho1
  have HB1 : Hid (Below W1.heap.size W1 w1) := hb1
  clear ho1 hb1
  go_wp2_with fail
  refine (HrD.out _).mono ?_
  rintro e w2 ⟨vy, rfl, ho2, hb2⟩
  have HO2 : Hid (OwnP 57 w1.heap.size vy E w2) := ho2
  have HB2 : Hid (Below w1.heap.size w1 w2) := hb2
  clear ho2 hb2
  go_wp2_with fail
  refine (HrP.out _).mono ?_
  rintro e w4 ⟨vz, rfl, ho4, hb4⟩
  obtain ⟨V, hM, h0, h1, h2, h3, h4⟩ := Mq.start (k := kdM A E C) (B := w.heap.size) hsW HO1.out HB1.out HO2.out HB2.out ho4 hb4
  have HM : Hid (∃ N X, Mq (kdM A E C) w.heap.size 0 0 0 0 V N X ((w4.alloc (.cells #[] 34)).alloc (.cells #[] 40))) := hM
  have HV : Hid (V 2 = vx ∧ V 3 = vy ∧ V 4 = vz) := ⟨h2, h3, h4⟩
  have HB4 : Hid (Below w.heap.size w ((w4.alloc (.cells #[] 34)).alloc (.cells #[] 40))) := by
    have b4 := bel_trans (bel_trans (bel_trans HBq.out HB1.out) HB2.out) hb4
    have s4 := b4.size
    exact (b4.alloc s4 _).alloc (by simp; omega) _
  have H0 : Hid (V 0 = .slice (some ⟨w4.heap.size, 0, none⟩) 0 0) := h0
  have H1 : Hid (V 1 = .slice (some ⟨w4.heap.size + 1, 0, none⟩) 0 0) := h1
  clear hM h0 h1 h2 h3 h4 ho4 hb4 HB1 HB2 HO1 HO2 HBq hsW
  go_wp2
  go_loopw [16, 17, 18] (fun lv pv iv wr => ∃ (i : Nat) (V : Nat → Value), i ≤ 3 ∧ iv = .int .i64 i ∧ Hid (lv = V 0) ∧ Hid (pv = V 1) ∧ Hid (V 2 = vx ∧ V 3 = vy ∧ V 4 = vz) ∧ Hid (∃ N X, Mq (kdM A E C) w.heap.size (2 * i) i (2 * i) i V N X wr) ∧ Hid (Below w.heap.size w wr)) (fun _ _ iv _ => 3 - (intOf iv).toNat)
  case atStart => exact ⟨0, V, by omega, rfl, H0.out.symm, H1.out.symm, HV, HM, HB4⟩
  case round =>
    clear HM HV HB4 H0 H1 V
    obtain ⟨i, V, hi, rfl, hlv, hpv, HV, HM, HB⟩ := hrel
    by_cases hlt : i < 3
    ·
      have hs0 := HB.out.size
      go_wp2_with fail
      refine (HQ.out _ HB.out).mono ?_
      rintro e w2 ⟨va, rfl, ho2, hb2⟩
      obtain ⟨aa, ca, rfl, _⟩ := OwnQ.rd ho2
      have HR2 : Hid (RdQ (.slice aa A.length ca) A w2) := OwnQ.rd ho2
      have HM2 : Hid (∃ N X, Mq (kdM A E C) w.heap.size (2 * i + 1) i (2 * i) i (upd V (10 + 2 * i) (.slice aa A.length ca)) N X w2) := by
        obtain ⟨N, X, M⟩ := HM.out
        exact M.addA (by omega) (by omega) hb2 hs0 ho2 (n1_even A E C i).symm
      have HB2 : Hid (Below w.heap.size w w2) := bel_trans HB.out hb2
      have hs2 := HB2.out.size
      clear ho2 hb2 HM HB
      go_wp2_with fail
      refine (HD.out _ HB2.out).mono ?_
      rintro e w3 ⟨vb, rfl, ho3, hb3⟩
      obtain ⟨ab, cb, rfl, _⟩ := OwnP.rd ho3
      have HR3 : Hid (RdQ (.slice ab E.length cb) E w3) := Ds.rdq (OwnP.rd ho3)
      have HR23 : Hid (RdQ (.slice aa A.length ca) A w3) := HR2.out.below hb3
      have HM3 : Hid (∃ N X, Mq (kdM A E C) w.heap.size (2 * i + 1 + 1) i (2 * i) i (upd (upd V (10 + 2 * i) (.slice aa A.length ca)) (10 + (2 * i + 1)) (.slice ab E.length cb)) N X w3) := by
        obtain ⟨N, X, M⟩ := HM2.out
        exact M.addA (by omega) (by omega) hb3 hs2 ho3 (n1_odd A E C i).symm
      have HB3 : Hid (Below w.heap.size w w3) := bel_trans HB2.out hb3
      have hs3 := HB3.out.size
      clear ho3 hb3 HM2 HB2 HR2
      go_wp2_with fail
      refine (HP.out _ HB3.out).mono ?_
      rintro e w4 ⟨vc, rfl, ho4, hb4⟩
      obtain ⟨ac, cc, rfl, _⟩ := Pt.OwnT.rd ho4
      have HR4 : Hid (Pt.RdT (.slice ac C.length cc) C w4) := Pt.OwnT.rd ho4
      have HR24 : Hid (RdQ (.slice aa A.length ca) A w4) := HR23.out.below hb4
      have HR34 : Hid (RdQ (.slice ab E.length cb) E w4) := HR3.out.below hb4
      have HM4 : Hid (∃ N X, Mq (kdM A E C) w.heap.size (2 * i + 1 + 1) (i + 1) (2 * i) i (upd (upd (upd V (10 + 2 * i) (.slice aa A.length ca)) (10 + (2 * i + 1)) (.slice ab E.length cb)) (50 + i) (.slice ac C.length cc)) N X w4) := by
        obtain ⟨N, X, M⟩ := HM3.out
        exact M.addB (by omega) (by omega) (by omega) hb4 hs3 ho4 rfl
      have HB4 : Hid (Below w.heap.size w w4) := bel_trans HB3.out hb4
      clear ho4 hb4 HM3 HB3 HR23 HR3
      obtain ⟨V', hV'⟩ : ∃ V', V' = (upd (upd (upd V (10 + 2 * i) (.slice aa A.length ca)) (10 + (2 * i + 1)) (.slice ab E.length cb)) (50 + i) (.slice ac C.length cc)) := ⟨_, rfl⟩
      rw [← hV'] at HM4
      have HV2 : Hid (V' 2 = vx ∧ V' 3 = vy ∧ V' 4 = vz) := by
        rw [hV']
        simp only [upd]
        rw [if_neg (by omega), if_neg (by omega), if_neg (by omega), if_neg (by omega), if_neg (by omega), if_neg (by omega), if_neg (by omega), if_neg (by omega), if_neg (by omega)]
        exact HV.out
      have HVs : Hid ([(.slice aa A.length ca : Value), .slice ab E.length cb] = (List.range 2).map (fun j => V' (10 + (2 * i + j)))) := (by
        show _ = [V' (10 + (2 * i + 0)), V' (10 + (2 * i + 1))]
        rw [hV', upd_other _ _ (by omega), upd_other _ _ (by omega), Nat.add_zero, upd_same, upd_other _ _ (by omega), upd_same] : _ = _)
      have HVc : Hid (V' (50 + i) = .slice ac C.length cc) := by show V' (50 + i) = .slice ac C.length cc; rw [hV', upd_same]
      have hlv' : Hid (_ = V' 0) := hlv.out.trans (by rw [hV', upd_other _ _ (by omega), upd_other _ _ (by omega), upd_other _ _ (by omega)])
      have hpv' : Hid (_ = V' 1) := hpv.out.trans (by rw [hV', upd_other _ _ (by omega), upd_other _ _ (by omega), upd_other _ _ (by omega)])
      clear hV' hlv hpv HV
      have HRl : Hid (RdQ vx A w4 ∧ RdQ vy E w4 ∧ Pt.RdT vz C w4) := by
        obtain ⟨N, X, M⟩ := HM4.out
        have := rows_rd (fun q h1 h2 => M.row q h1 h2)
        rw [HV2.out.1, HV2.out.2.1, HV2.out.2.2] at this
        exact this
      go_wp2_with fail
      refine (HPp.out _ _ A _ HR24.out HRl.out.1 (by omega)).mono ?_
      rintro e w5 ⟨rfl, n5, hw5⟩
      have b5 : Below w4.heap.size w4 w5 := by rw [hw5]; exact below_drewN (Below.refl _ _) _
      have HR35 : Hid (RdQ (.slice ab E.length cb) E w5) := HR34.out.below b5
      have HR45 : Hid (Pt.RdT (.slice ac C.length cc) C w5) := HR4.out.below b5
      have HRl5 : Hid (RdQ vy E w5 ∧ Pt.RdT vz C w5) := ⟨HRl.out.2.1.below b5, HRl.out.2.2.below b5⟩
      have HB5 : Hid (Below w.heap.size w w5) := bel_trans HB4.out b5
      have HM5 : Hid (∃ N X, Mq (kdM A E C) w.heap.size (2 * i + 1 + 1) (i + 1) (2 * i) i V' N X w5) := by
        obtain ⟨N, X, M⟩ := HM4.out
        exact ⟨N, X, M.below b5⟩
      clear b5 hw5 HB4 HM4 HR24 HR34 HR4 HRl
      go_wp2_with fail
      refine (HPp.out _ _ E _ HR35.out HRl5.out.1 (by omega)).mono ?_
      rintro e w6 ⟨rfl, n6, hw6⟩
      have b6 : Below w5.heap.size w5 w6 := by rw [hw6]; exact below_drewN (Below.refl _ _) _
      have HR46 : Hid (Pt.RdT (.slice ac C.length cc) C w6) := HR45.out.below b6
      have HRl6 : Hid (Pt.RdT vz C w6) := HRl5.out.2.below b6
      have HB6 : Hid (Below w.heap.size w w6) := bel_trans HB5.out b6
      have HM6 : Hid (∃ N X, Mq (kdM A E C) w.heap.size (2 * i + 1 + 1) (i + 1) (2 * i) i V' N X w6) := by
        obtain ⟨N, X, M⟩ := HM5.out
        exact ⟨N, X, M.below b6⟩
      clear b6 hw6 HB5 HM5 HR35 HR45 HRl5
      go_wp2_with fail
      refine (HPt.out _ _ _ HR46.out HRl6.out).mono ?_
      rintro e w7 ⟨rfl, n7, hw7⟩
      have b7 : Below w6.heap.size w6 w7 := by rw [hw7]; exact below_drewN (Below.refl _ _) _
      have HB7 : Hid (Below w.heap.size w w7) := bel_trans HB6.out b7
      have HM7 : Hid (∃ N X, Mq (kdM A E C) w.heap.size (2 * i + 1 + 1) (i + 1) (2 * i) i V' N X w7) := by
        obtain ⟨N, X, M⟩ := HM6.out
        exact ⟨N, X, M.below b7⟩
      have hs7 := HB7.out.size
      clear b7 hw7 HB6 HM6 HR46 HRl6
      go_wp2_with (at_builtin; go_must (refine wp_appA (k := kdM A E C) 32 Tryz.underlying32 infoLQ rfl (.tmp 119) (.tmp 122) rfl HM7.out 2 (by decide) (by omega) (by omega) _ rfl (by exact hlv'.out) _ HVs.out _ rfl (by simp) hs7 ?_))
      intro v8 w8 N8 X8 hM8 hb8
      have HM8 : Hid (∃ N X, Mq (kdM A E C) w.heap.size (2 * i + 1 + 1) (i + 1) (2 * i + 2) i (upd V' 0 v8) N X w8) := ⟨N8, X8, hM8⟩
      have HB8 : Hid (Below w.heap.size w w8) := HB7.out.trans hb8
      have hs8 := HB8.out.size
      have hp8 : Hid (_ = (upd V' 0 v8) 1) := hpv'.out.trans (by rw [upd_other _ _ (by omega)])
      have hc8 : Hid ([(.slice ac C.length cc : Value)] = (List.range 1).map (fun j => (upd V' 0 v8) (50 + (i + j)))) := (by
        show _ = [(upd V' 0 v8) (50 + (i + 0))]
        rw [upd_other _ _ (by omega), Nat.add_zero, HVc.out] : _ = _)
      clear hM8 hb8 HM7 HB7
      go_wp2_with (at_builtin; go_must (refine wp_appB (k := kdM A E C) 33 Tryz.underlying33 infoLT rfl (.tmp 124) (.tmp 126) rfl HM8.out 1 (by decide) (by omega) (by omega) _ rfl (by exact hp8.out) _ hc8.out _ rfl (by simp) hs8 ?_))
      intro v9 w9 N9 X9 hM9 hb9
      have HM9 : Hid (∃ N X, Mq (kdM A E C) w.heap.size (2 * (i + 1)) (i + 1) (2 * (i + 1)) (i + 1) (upd (upd V' 0 v8) 1 v9) N X w9) := ⟨N9, X9, hM9⟩
      have HB9 : Hid (Below w.heap.size w w9) := HB8.out.trans hb9
      have HV9 : Hid ((upd (upd V' 0 v8) 1 v9) 2 = vx ∧ (upd (upd V' 0 v8) 1 v9) 3 = vy ∧ (upd (upd V' 0 v8) 1 v9) 4 = vz) := by
        rw [upd_other _ _ (by omega), upd_other _ _ (by omega), upd_other _ _ (by omega), upd_other _ _ (by omega), upd_other _ _ (by omega), upd_other _ _ (by omega)]
        exact HV2.out
      have hl9 : Hid (v8 = (upd (upd V' 0 v8) 1 v9) 0) := by show v8 = _; rw [upd_other _ _ (by omega), upd_same]
      have hp9 : Hid (v9 = (upd (upd V' 0 v8) 1 v9) 1) := by show v9 = _; rw [upd_same]
      clear hM9 hb9 HM8 HB8
      go_wp2
      go_roundw
      case rel => exact ⟨i + 1, _, by omega, by go_num, hl9, hp9, HV9, HM9, HB9⟩
      case measure => simp [intOf]; omega
    · obtain rfl : i = 3 := by omega
      rw [show (((3 : Nat) : Nat) : Int) = 3 from rfl]
      have P0 := Pq.start HM.out
      obtain ⟨g0, c0, hv0, h60⟩ := P0.form0
      obtain ⟨g1, c1, hv1, h31⟩ := P0.form1
      have e0 := hlv.out.trans hv0
      have e1 := hpv.out.trans hv1
      subst e0 e1
      have HPh : Hid (Pq (kdM A E C) w.heap.size V 0 0 0 0 wr) := P0
      have HV0 : Hid (V 0 = .slice (some ⟨g0, 0, none⟩) 6 c0) := hv0
      have HV1 : Hid (V 1 = .slice (some ⟨g1, 0, none⟩) 3 c1) := hv1
      clear P0 hv0 hv1 hlv hpv HM hi hlt
      go_wp2
      go_loopw [28] (fun iv wr => ∃ i : Nat, i ≤ 6 ∧ iv = .int .i64 i ∧ Hid (Pq (kdM A E C) w.heap.size V i 0 0 0 wr) ∧ Hid (Below w.heap.size w wr)) (fun iv _ => 6 - (intOf iv).toNat)
      case atStart => exact ⟨0, by omega, rfl, HPh, HB⟩
      case round =>
        clear HPh HB
        obtain ⟨i, hi, rfl, HPh, HB⟩ := hrel
        by_cases hlt : i < 6
        ·
          go_wp2
          rw [show decide ((i : Int) < 6) = true from decide_eq_true (by omega)]
          go_loopw [29] (fun jv wr => ∃ j : Nat, j ≤ (kdM A E C).n1 i ∧ jv = .int .i64 j ∧ Hid (Pq (kdM A E C) w.heap.size V i j 0 0 wr) ∧ Hid (Below w.heap.size w wr)) (fun jv _ => (kdM A E C).n1 i - (intOf jv).toNat)
          case atStart => exact ⟨0, by omega, rfl, HPh, HB⟩
          case round =>
            clear HPh HB
            obtain ⟨j, hj, rfl, HPh, HB⟩ := hrel
            have hcL := HPh.out.cell0 HV0.out i hlt
            have hn : (kdM A E C).n1 i ≤ 1048577 := n1_le C hA' hE' i
            by_cases hjn : j < (kdM A E C).n1 i
            · rcases HPh.out.formA i hlt with ⟨_, h⟩ | ⟨g, cap, hv, hcap⟩
              · omega
              rw [hv] at hcL
              have HVi : Hid (V (10 + i) = .slice (some ⟨g, 0, none⟩) ((kdM A E C).n1 i) cap) := hv
              clear hv
              have HPh1 : Hid (Pq (kdM A E C) w.heap.size V i j 0 0 wr.drew) := HPh.out.below (below_drewN (Below.refl _ _) 1)
              have HB1 : Hid (Below w.heap.size w wr.drew) := below_drewN HB.out 1
              have HJn : Hid (j < (kdM A E C).n1 i) := hjn
              have HNn : Hid (∀ c, c < 3 → j * 3 + c < (kdM A E C).n1 i * 3) := fun c hc => by omega
              obtain ⟨n, hnn⟩ : ∃ n, n = (kdM A E C).n1 i := ⟨_, rfl⟩
              rw [← hnn] at hj hcL hn hjn hcap
              have HN : Hid (n = (kdM A E C).n1 i) := hnn
              clear hnn
              have hil : (str (Lib.itoa (100 * (i : Int) + (j : Int)))).size ≤ 30 := by
                have hl := Lib.itoa_length_le (100 * (i : Int) + (j : Int)) (by omega) (by omega)
                rw [str_size]; omega
              have hz4 : 4 + (str (Lib.itoa (100 * (i : Int) + (j : Int)))).size ≤ 9223372036854775807 := by omega
              have HDg : Hid (∀ W, Calls Tryz.prog 12 #[.int .i64 (100 * (i : Int) + (j : Int))] W fun e w' => e = .returned (.string (str (Lib.itoa (100 * (i : Int) + (j : Int))))) ∧ Below (World.heap W).size W w') := fun W => rDigits_any (100 * (i : Int) + (j : Int)) (by omega) (by omega) W
              have HDd : Hid (.string ((⟨#[109, 97, 114, 107]⟩ : ByteArray) ++ str (Lib.itoa (100 * (i : Int) + (j : Int)))) = dg i j) := dg_int i j
              generalize str (Lib.itoa (100 * (i : Int) + (j : Int))) = Y at *
              go_wp2_with fail
              refine gen_frame (fun fr hfr => ?_)
              have fsz : fr.tmps.size = 315 := by rw [hfr]; rfl
              have fL : fr.tmps[16]'(by rw [fsz]; decide) = .slice (some ⟨g0, 0, none⟩) 6 c0 := by subst hfr; rfl
              have fI : fr.tmps[28]'(by rw [fsz]; decide) = .int .i64 (i : Int) := by subst hfr; rfl
              have fJ : fr.tmps[29]'(by rw [fsz]; decide) = .int .i64 (j : Int) := by subst hfr; rfl
              have wr1 : IntKind.i64.wrap (100 * (i : Int)) = 100 * (i : Int) := by rw [IntKind.wrap_i64]; omega
              have wr2 : IntKind.i64.wrap (100 * (i : Int) + (j : Int)) = 100 * (i : Int) + (j : Int) := by rw [IntKind.wrap_i64]; omega
              have HFR : Hid (fr = _) := hfr
              clear hfr
              go_region_with (go_at_call 12; refine (HDg.out _).mono ?_; rintro e w5 ⟨rfl, hb5⟩; have P5 := HPh1.out.below hb5; have hc5 := P5.cell0 HV0.out i hlt; rw [HVi.out, ← HN.out] at hc5; obtain ⟨⟨u5, hu5⟩, hz5⟩ := P5.freeA i hlt HVi.out (j * 3) (by have := HN.out; omega); obtain ⟨⟨u6, hu6⟩, hz6⟩ := P5.freeA i hlt HVi.out (j * 3 + 1) (by have := HN.out; omega); obtain ⟨⟨u7, hu7⟩, hz7⟩ := P5.freeA i hlt HVi.out (j * 3 + 2) (by have := HN.out; omega); have HP5 : Hid (Pq (kdM A E C) w.heap.size V i j 0 0 w5) := P5; have HB5 : Hid (Below w.heap.size w w5) := bel_trans HB1.out hb5; clear P5 hb5)
              all_goals
                have HPn : Hid (Pq (kdM A E C) w.heap.size V i (j + 1) 0 0 (((w5.setCell ⟨g, j * 3, none⟩ (.string ((⟨#[109, 97, 114, 107]⟩ : ByteArray) ++ Y))).setCell ⟨g, j * 3 + 1, none⟩ (.string ⟨#[]⟩)).setCell ⟨g, j * 3 + 2, none⟩ (.bool false))) := by
                  have := HP5.out.setA hlt HJn.out HVi.out (.string ⟨#[]⟩) (.bool false)
                  rw [← HDd.out] at this
                  exact this
                have HBn : Hid (Below w.heap.size w (((w5.setCell ⟨g, j * 3, none⟩ (.string ((⟨#[109, 97, 114, 107]⟩ : ByteArray) ++ Y))).setCell ⟨g, j * 3 + 1, none⟩ (.string ⟨#[]⟩)).setCell ⟨g, j * 3 + 2, none⟩ (.bool false))) := by
                  have hge := HP5.out.geA i hlt HVi.out
                  exact (((HB5.out.setCell (p := ⟨g, j * 3, none⟩) hge _).setCell (p := ⟨g, j * 3 + 1, none⟩) hge _).setCell (p := ⟨g, j * 3 + 2, none⟩) hge _)
                rw [HFR.out]
                clear fL fI fJ fsz wr1 wr2 HFR hc5 hu5 hz5 hu6 hz6 hu7 hz7 HP5 HB5
                generalize (((w5.setCell ⟨g, j * 3, none⟩ (.string ((⟨#[109, 97, 114, 107]⟩ : ByteArray) ++ Y))).setCell ⟨g, j * 3 + 1, none⟩ (.string ⟨#[]⟩)).setCell ⟨g, j * 3 + 2, none⟩ (.bool false)) = w6 at *
                go_wp2
                go_roundw
                case rel => exact ⟨j + 1, by have := HN.out; omega, by go_num, HPn, HBn⟩
                case measure => have := HN.out; simp [intOf]; omega
            · obtain rfl : j = (kdM A E C).n1 i := by omega
              have HPn : Hid (Pq (kdM A E C) w.heap.size V (i + 1) 0 0 0 wr) := HPh.out.nextA
              obtain ⟨a', c', hv⟩ := HPh.out.lenA i hlt
              rw [hv] at hcL
              clear hv HPh
              generalize (kdM A E C).n1 i = n at *
              go_wp2
              go_roundw
              case rel => exact ⟨i + 1, by omega, by go_num, HPn, HB⟩
              case measure => simp [intOf]; omega
        · obtain rfl : i = 6 := by omega
          rw [show (((6 : Nat) : Nat) : Int) = 6 from rfl]
          have HPx : Hid (Pq (kdM A E C) w.heap.size V 6 0 0 0 wr) := HPh.out
          clear HPh
          have HPh := HPx
          clear HPx hlt hi
          go_wp2
          go_loopw [30] (fun iv wr => ∃ i : Nat, i ≤ 3 ∧ iv = .int .i64 i ∧ Hid (Pq (kdM A E C) w.heap.size V 6 0 i 0 wr) ∧ Hid (Below w.heap.size w wr)) (fun iv _ => 3 - (intOf iv).toNat)
          case atStart => exact ⟨0, by omega, rfl, HPh, HB⟩
          case round =>
            clear HPh HB
            obtain ⟨i, hi, rfl, HPh, HB⟩ := hrel
            by_cases hlt : i < 3
            ·
              go_wp2
              rw [show decide ((i : Int) < 3) = true from decide_eq_true (by omega)]
              go_loopw [31] (fun jv wr => ∃ j : Nat, j ≤ (kdM A E C).n2 i ∧ jv = .int .i64 j ∧ Hid (Pq (kdM A E C) w.heap.size V 6 0 i j wr) ∧ Hid (Below w.heap.size w wr)) (fun jv _ => (kdM A E C).n2 i - (intOf jv).toNat)
              case atStart => exact ⟨0, by omega, rfl, HPh, HB⟩
              case round =>
                clear HPh HB
                obtain ⟨j, hj, rfl, HPh, HB⟩ := hrel
                have hcL := HPh.out.cell1 HV1.out i hlt
                have hn : (kdM A E C).n2 i ≤ 1048577 := hC'
                by_cases hjn : j < (kdM A E C).n2 i
                · rcases HPh.out.formB i hlt with ⟨_, h⟩ | ⟨g, cap, hv, hcap⟩
                  · omega
                  rw [hv] at hcL
                  have HVi : Hid (V (50 + i) = .slice (some ⟨g, 0, none⟩) ((kdM A E C).n2 i) cap) := hv
                  clear hv
                  have HPh1 : Hid (Pq (kdM A E C) w.heap.size V 6 0 i j wr.drew) := HPh.out.below (below_drewN (Below.refl _ _) 1)
                  have HB1 : Hid (Below w.heap.size w wr.drew) := below_drewN HB.out 1
                  have HJn : Hid (j < (kdM A E C).n2 i) := hjn
                  have HNn : Hid (∀ c, c < 5 → j * 5 + c < (kdM A E C).n2 i * 5) := fun c hc => by omega
                  obtain ⟨n, hnn⟩ : ∃ n, n = (kdM A E C).n2 i := ⟨_, rfl⟩
                  rw [← hnn] at hj hcL hn hjn hcap
                  have HN : Hid (n = (kdM A E C).n2 i) := hnn
                  clear hnn
                  have hil : (str (Lib.itoa (100 * (i : Int) + (j : Int)))).size ≤ 30 := by
                    have hl := Lib.itoa_length_le (100 * (i : Int) + (j : Int)) (by omega) (by omega)
                    rw [str_size]; omega
                  have hz4 : 4 + (str (Lib.itoa (100 * (i : Int) + (j : Int)))).size ≤ 9223372036854775807 := by omega
                  have HDg : Hid (∀ W, Calls Tryz.prog 12 #[.int .i64 (100 * (i : Int) + (j : Int))] W fun e w' => e = .returned (.string (str (Lib.itoa (100 * (i : Int) + (j : Int))))) ∧ Below (World.heap W).size W w') := fun W => rDigits_any (100 * (i : Int) + (j : Int)) (by omega) (by omega) W
                  have HDd : Hid (.string ((⟨#[109, 97, 114, 107]⟩ : ByteArray) ++ str (Lib.itoa (100 * (i : Int) + (j : Int)))) = dg i j) := dg_int i j
                  generalize str (Lib.itoa (100 * (i : Int) + (j : Int))) = Y at *
                  go_wp2_with fail
                  refine gen_frame (fun fr hfr => ?_)
                  have fsz : fr.tmps.size = 315 := by rw [hfr]; rfl
                  have fL : fr.tmps[17]'(by rw [fsz]; decide) = .slice (some ⟨g1, 0, none⟩) 3 c1 := by subst hfr; rfl
                  have fI : fr.tmps[30]'(by rw [fsz]; decide) = .int .i64 (i : Int) := by subst hfr; rfl
                  have fJ : fr.tmps[31]'(by rw [fsz]; decide) = .int .i64 (j : Int) := by subst hfr; rfl
                  have wr1 : IntKind.i64.wrap (100 * (i : Int)) = 100 * (i : Int) := by rw [IntKind.wrap_i64]; omega
                  have wr2 : IntKind.i64.wrap (100 * (i : Int) + (j : Int)) = 100 * (i : Int) + (j : Int) := by rw [IntKind.wrap_i64]; omega
                  have HFR : Hid (fr = _) := hfr
                  clear hfr
                  go_region_with (go_at_call 12; refine (HDg.out _).mono ?_; rintro e w5 ⟨rfl, hb5⟩; have P5 := HPh1.out.below hb5; have hc5 := P5.cell1 HV1.out i hlt; rw [HVi.out, ← HN.out] at hc5; obtain ⟨⟨u5, hu5⟩, hz5⟩ := P5.freeB i hlt HVi.out (j * 5) (by have := HN.out; omega); obtain ⟨⟨u6, hu6⟩, hz6⟩ := P5.freeB i hlt HVi.out (j * 5 + 1) (by have := HN.out; omega); obtain ⟨⟨u7, hu7⟩, hz7⟩ := P5.freeB i hlt HVi.out (j * 5 + 2) (by have := HN.out; omega); obtain ⟨⟨u8, hu8⟩, hz8⟩ := P5.freeB i hlt HVi.out (j * 5 + 3) (by have := HN.out; omega); obtain ⟨⟨u9, hu9⟩, hz9⟩ := P5.freeB i hlt HVi.out (j * 5 + 4) (by have := HN.out; omega); have HP5 : Hid (Pq (kdM A E C) w.heap.size V 6 0 i j w5) := P5; have HB5 : Hid (Below w.heap.size w w5) := bel_trans HB1.out hb5; clear P5 hb5)
                  all_goals
                    have HPn : Hid (Pq (kdM A E C) w.heap.size V 6 0 i (j + 1) (((((w5.setCell ⟨g, j * 5, none⟩ (.string ((⟨#[109, 97, 114, 107]⟩ : ByteArray) ++ Y))).setCell ⟨g, j * 5 + 1, none⟩ (.string ⟨#[]⟩)).setCell ⟨g, j * 5 + 2, none⟩ (.string ⟨#[]⟩)).setCell ⟨g, j * 5 + 3, none⟩ (.string ⟨#[]⟩)).setCell ⟨g, j * 5 + 4, none⟩ (.bool false))) := by
                      have := HP5.out.setB hlt HJn.out HVi.out (.string ⟨#[]⟩) (.string ⟨#[]⟩) (.string ⟨#[]⟩) (.bool false)
                      rw [← HDd.out] at this
                      exact this
                    have HBn : Hid (Below w.heap.size w (((((w5.setCell ⟨g, j * 5, none⟩ (.string ((⟨#[109, 97, 114, 107]⟩ : ByteArray) ++ Y))).setCell ⟨g, j * 5 + 1, none⟩ (.string ⟨#[]⟩)).setCell ⟨g, j * 5 + 2, none⟩ (.string ⟨#[]⟩)).setCell ⟨g, j * 5 + 3, none⟩ (.string ⟨#[]⟩)).setCell ⟨g, j * 5 + 4, none⟩ (.bool false))) := by
                      have hge := HP5.out.geB i hlt HVi.out
                      exact (((((HB5.out.setCell (p := ⟨g, j * 5, none⟩) hge _).setCell (p := ⟨g, j * 5 + 1, none⟩) hge _).setCell (p := ⟨g, j * 5 + 2, none⟩) hge _).setCell (p := ⟨g, j * 5 + 3, none⟩) hge _).setCell (p := ⟨g, j * 5 + 4, none⟩) hge _)
                    rw [HFR.out]
                    clear fL fI fJ fsz wr1 wr2 HFR hc5 hu5 hz5 hu6 hz6 hu7 hz7 hu8 hz8 hu9 hz9 HP5 HB5
                    generalize (((((w5.setCell ⟨g, j * 5, none⟩ (.string ((⟨#[109, 97, 114, 107]⟩ : ByteArray) ++ Y))).setCell ⟨g, j * 5 + 1, none⟩ (.string ⟨#[]⟩)).setCell ⟨g, j * 5 + 2, none⟩ (.string ⟨#[]⟩)).setCell ⟨g, j * 5 + 3, none⟩ (.string ⟨#[]⟩)).setCell ⟨g, j * 5 + 4, none⟩ (.bool false)) = w6 at *
                    go_wp2
                    go_roundw
                    case rel => exact ⟨j + 1, by have := HN.out; omega, by go_num, HPn, HBn⟩
                    case measure => have := HN.out; simp [intOf]; omega
                · obtain rfl : j = (kdM A E C).n2 i := by omega
                  have HPn : Hid (Pq (kdM A E C) w.heap.size V 6 0 (i + 1) 0 wr) := HPh.out.nextB
                  obtain ⟨a', c', hv⟩ := HPh.out.lenB i hlt
                  rw [hv] at hcL
                  clear hv HPh
                  generalize (kdM A E C).n2 i = n at *
                  go_wp2
                  go_roundw
                  case rel => exact ⟨i + 1, by omega, by go_num, HPn, HB⟩
                  case measure => simp [intOf]; omega
            · obtain rfl : i = 3 := by omega
              rw [show (((3 : Nat) : Nat) : Int) = 3 from rfl]
              clear hlt hi
              go_wp2
              go_loopw [32] (fun iv wr => ∃ i : Nat, i ≤ 6 ∧ iv = .int .i64 i ∧ Hid (Pq (kdM A E C) w.heap.size V 6 0 3 0 wr) ∧ Hid (Below w.heap.size w wr)) (fun iv _ => 6 - (intOf iv).toNat)
              case atStart => exact ⟨0, by omega, rfl, HPh, HB⟩
              case round =>
                clear HPh HB
                obtain ⟨i, hi, rfl, HPh, HB⟩ := hrel
                by_cases hlt : i < 6
                ·
                  have hcL := HPh.out.cell0 HV0.out i hlt
                  have HPA : Hid (PqA (kdM A E C) w.heap.size V (10 + i) (V (10 + i)) 0 wr) := HPh.out.alias (10 + i) (by unfold domQ; omega)
                  clear HPh
                  go_wp2
                  rw [show decide ((i : Int) < 6) = true from decide_eq_true (by omega)]
                  go_loopw [33, 34] (fun gv jv wr => ∃ j : Nat, j ≤ 20 ∧ jv = .int .i64 j ∧ Hid (PqA (kdM A E C) w.heap.size V (10 + i) gv j wr) ∧ Hid (Below w.heap.size w wr)) (fun _ jv _ => 20 - (intOf jv).toNat)
                  case atStart => exact ⟨0, by omega, rfl, HPA, HB⟩
                  case round =>
                    clear HPA HB hcL
                    obtain ⟨j, hj, rfl, HPA, HB⟩ := hrel
                    by_cases hjn : j < 20
                    · have hs5 := HB.out.size
                      have HNl : Hid ((kdM A E C).n1 i + j + 1 ≤ 2147483648) := by
                        have hq : (kdM A E C).n1 i ≤ 1048577 := n1_le C hA' hE' i
                        show (kdM A E C).n1 i + j + 1 ≤ 2147483648
                        omega
                      go_wp2_with (at_builtin; go_must (refine wp_growA (k := kdM A E C) _ 40 (by decide) Tryz.underlying34 infoQ rfl rfl (.tmp 198) (.tmp 200) rfl hlt _ HPA.out HNl.out rfl _ _ _ ⟨rfl, rfl, rfl⟩ _ rfl (by simp) hs5 ?_))
                      intro v6 w6 hP6 hb6
                      have HP6 : Hid (PqA (kdM A E C) w.heap.size V (10 + i) v6 (j + 1) w6) := hP6
                      have HB6 : Hid (Below w.heap.size w w6) := HB.out.trans hb6
                      clear hP6 hb6 HPA HB
                      go_wp2
                      go_roundw
                      case rel => exact ⟨j + 1, by omega, by go_num, HP6, HB6⟩
                      case measure => simp [intOf]; omega
                    · obtain rfl : j = 20 := by omega
                      have HPn : Hid (Pq (kdM A E C) w.heap.size V 6 0 3 0 wr) := HPA.out.done
                      go_wp2
                      go_roundw
                      case rel => exact ⟨i + 1, by omega, by go_num, HPn, HB⟩
                      case measure => simp [intOf]; omega
                · obtain rfl : i = 6 := by omega
                  rw [show (((6 : Nat) : Nat) : Int) = 6 from rfl]
                  clear hlt hi
                  go_wp2
                  go_loopw [35] (fun iv wr => ∃ i : Nat, i ≤ 3 ∧ iv = .int .i64 i ∧ Hid (Pq (kdM A E C) w.heap.size V 6 0 3 0 wr) ∧ Hid (Below w.heap.size w wr)) (fun iv _ => 3 - (intOf iv).toNat)
                  case atStart => exact ⟨0, by omega, rfl, HPh, HB⟩
                  case round =>
                    clear HPh HB
                    obtain ⟨i, hi, rfl, HPh, HB⟩ := hrel
                    by_cases hlt : i < 3
                    ·
                      have hcL := HPh.out.cell1 HV1.out i hlt
                      have HPA : Hid (PqA (kdM A E C) w.heap.size V (50 + i) (V (50 + i)) 0 wr) := HPh.out.alias (50 + i) (by unfold domQ; omega)
                      clear HPh
                      go_wp2
                      rw [show decide ((i : Int) < 3) = true from decide_eq_true (by omega)]
                      go_loopw [36, 37] (fun gv jv wr => ∃ j : Nat, j ≤ 20 ∧ jv = .int .i64 j ∧ Hid (PqA (kdM A E C) w.heap.size V (50 + i) gv j wr) ∧ Hid (Below w.heap.size w wr)) (fun _ jv _ => 20 - (intOf jv).toNat)
                      case atStart => exact ⟨0, by omega, rfl, HPA, HB⟩
                      case round =>
                        clear HPA HB hcL
                        obtain ⟨j, hj, rfl, HPA, HB⟩ := hrel
                        by_cases hjn : j < 20
                        · have hs5 := HB.out.size
                          have HNl : Hid ((kdM A E C).n2 i + j + 1 ≤ 2147483648) := by
                            have hq : (kdM A E C).n2 i ≤ 1048577 := hC'
                            show (kdM A E C).n2 i + j + 1 ≤ 2147483648
                            omega
                          go_wp2_with (at_builtin; go_must (refine wp_growB (k := kdM A E C) _ 72 (by decide) Tryz.underlying40 Pt.infoT1 rfl rfl (.tmp 216) (.tmp 218) rfl hlt _ HPA.out HNl.out rfl _ _ _ _ _ ⟨rfl, rfl, rfl, rfl, rfl⟩ _ rfl (by simp) hs5 ?_))
                          intro v6 w6 hP6 hb6
                          have HP6 : Hid (PqA (kdM A E C) w.heap.size V (50 + i) v6 (j + 1) w6) := hP6
                          have HB6 : Hid (Below w.heap.size w w6) := HB.out.trans hb6
                          clear hP6 hb6 HPA HB
                          go_wp2
                          go_roundw
                          case rel => exact ⟨j + 1, by omega, by go_num, HP6, HB6⟩
                          case measure => simp [intOf]; omega
                        · obtain rfl : j = 20 := by omega
                          have HPn : Hid (Pq (kdM A E C) w.heap.size V 6 0 3 0 wr) := HPA.out.done
                          go_wp2
                          go_roundw
                          case rel => exact ⟨i + 1, by omega, by go_num, HPn, HB⟩
                          case measure => simp [intOf]; omega
                    · obtain rfl : i = 3 := by omega
                      rw [show (((3 : Nat) : Nat) : Int) = 3 from rfl]
                      clear hlt hi
                      go_wp2
                      go_loopw [38] (fun iv wr => ∃ i : Nat, i ≤ 6 ∧ iv = .int .i64 i ∧ Hid (Pq (kdM A E C) w.heap.size V 6 0 3 0 wr) ∧ Hid (Below w.heap.size w wr)) (fun iv _ => 6 - (intOf iv).toNat)
                      case atStart => exact ⟨0, by omega, rfl, HPh, HB⟩
                      case round =>
                        clear HPh HB
                        obtain ⟨i, hi, rfl, HPh, HB⟩ := hrel
                        by_cases hlt : i < 6
                        ·
                          go_wp2
                          rw [show decide ((i : Int) < 6) = true from decide_eq_true (by omega)]
                          go_loopw [39] (fun jv wr => ∃ j : Nat, j ≤ (kdM A E C).n1 i ∧ jv = .int .i64 j ∧ Hid (Pq (kdM A E C) w.heap.size V 6 0 3 0 wr) ∧ Hid (Below w.heap.size w wr)) (fun jv _ => (kdM A E C).n1 i - (intOf jv).toNat)
                          case atStart => exact ⟨0, by omega, rfl, HPh, HB⟩
                          case round =>
                            clear HPh HB
                            obtain ⟨j, hj, rfl, HPh, HB⟩ := hrel
                            have hcL := HPh.out.cell0 HV0.out i hlt
                            have hn : (kdM A E C).n1 i ≤ 1048577 := n1_le C hA' hE' i
                            by_cases hjn : j < (kdM A E C).n1 i
                            · rcases HPh.out.formA i hlt with ⟨_, h⟩ | ⟨g, cap, hv, hcap⟩
                              · omega
                              rw [hv] at hcL
                              have hcu := HPh.out.readA i hlt hv j hjn
                              rw [← dg_int] at hcu
                              have HVi : Hid (V (10 + i) = .slice (some ⟨g, 0, none⟩) ((kdM A E C).n1 i) cap) := hv
                              clear hv
                              have HPh1 : Hid (Pq (kdM A E C) w.heap.size V 6 0 3 0 wr.drew) := HPh.out.below (below_drewN (Below.refl _ _) 1)
                              have HB1 : Hid (Below w.heap.size w wr.drew) := below_drewN HB.out 1
                              have HJn : Hid (j < (kdM A E C).n1 i) := hjn
                              obtain ⟨n, hnn⟩ : ∃ n, n = (kdM A E C).n1 i := ⟨_, rfl⟩
                              rw [← hnn] at hj hcL hn hjn hcap
                              have HN : Hid (n = (kdM A E C).n1 i) := hnn
                              clear hnn
                              have hil : (str (Lib.itoa (100 * (i : Int) + (j : Int)))).size ≤ 30 := by
                                have hl := Lib.itoa_length_le (100 * (i : Int) + (j : Int)) (by omega) (by omega)
                                rw [str_size]; omega
                              have hz4 : 4 + (str (Lib.itoa (100 * (i : Int) + (j : Int)))).size ≤ 9223372036854775807 := by omega
                              have HDg : Hid (∀ W, Calls Tryz.prog 12 #[.int .i64 (100 * (i : Int) + (j : Int))] W fun e w' => e = .returned (.string (str (Lib.itoa (100 * (i : Int) + (j : Int))))) ∧ Below (World.heap W).size W w') := fun W => rDigits_any (100 * (i : Int) + (j : Int)) (by omega) (by omega) W
                              have HDd : Hid (.string ((⟨#[109, 97, 114, 107]⟩ : ByteArray) ++ str (Lib.itoa (100 * (i : Int) + (j : Int)))) = dg i j) := dg_int i j
                              generalize str (Lib.itoa (100 * (i : Int) + (j : Int))) = Y at *
                              go_wp2_with fail
                              refine gen_frame (fun fr hfr => ?_)
                              have fsz : fr.tmps.size = 315 := by rw [hfr]; rfl
                              have fL : fr.tmps[16]'(by rw [fsz]; decide) = .slice (some ⟨g0, 0, none⟩) 6 c0 := by subst hfr; rfl
                              have fI : fr.tmps[38]'(by rw [fsz]; decide) = .int .i64 (i : Int) := by subst hfr; rfl
                              have fJ : fr.tmps[39]'(by rw [fsz]; decide) = .int .i64 (j : Int) := by subst hfr; rfl
                              have wr1 : IntKind.i64.wrap (100 * (i : Int)) = 100 * (i : Int) := by rw [IntKind.wrap_i64]; omega
                              have wr2 : IntKind.i64.wrap (100 * (i : Int) + (j : Int)) = 100 * (i : Int) + (j : Int) := by rw [IntKind.wrap_i64]; omega
                              have HFR : Hid (fr = _) := hfr
                              clear hfr
                              go_region_with (go_at_call 12; refine (HDg.out _).mono ?_; rintro e w5 ⟨rfl, hb5⟩; have P5 := HPh1.out.below hb5; have hc5 := P5.cell0 HV0.out i hlt; rw [HVi.out, ← HN.out] at hc5; have hu5 := P5.readA i hlt HVi.out j HJn.out; rw [← HDd.out] at hu5; have HP5 : Hid (Pq (kdM A E C) w.heap.size V 6 0 3 0 w5) := P5; have HB5 : Hid (Below w.heap.size w w5) := bel_trans HB1.out hb5; clear P5 hb5)
                              all_goals
                                change Exit.then _ _ Exit.normal (Act.mk (Array.setIfInBounds _ 249 (.bool false)) _) w5
                                rw [HFR.out]
                                clear fL fI fJ fsz wr1 wr2 HFR hc5 hu5 hcu hcL
                                simp only [List.setIfInBounds_toArray, List.set_cons_succ, List.set_cons_zero]
                                go_wp2
                                go_roundw
                                case rel => exact ⟨j + 1, by have := HN.out; omega, by go_num, HP5, HB5⟩
                                case measure => have := HN.out; simp [intOf]; omega
                            · obtain rfl : j = (kdM A E C).n1 i := by omega
                              obtain ⟨a', c', hv⟩ := HPh.out.lenA i hlt
                              rw [hv] at hcL
                              clear hv
                              generalize (kdM A E C).n1 i = n at *
                              go_wp2
                              go_roundw
                              case rel => exact ⟨i + 1, by omega, by go_num, HPh, HB⟩
                              case measure => simp [intOf]; omega
                        · obtain rfl : i = 6 := by omega
                          rw [show (((6 : Nat) : Nat) : Int) = 6 from rfl]
                          clear hlt hi
                          go_wp2
                          go_loopw [40] (fun iv wr => ∃ i : Nat, i ≤ 3 ∧ iv = .int .i64 i ∧ Hid (Pq (kdM A E C) w.heap.size V 6 0 3 0 wr) ∧ Hid (Below w.heap.size w wr)) (fun iv _ => 3 - (intOf iv).toNat)
                          case atStart => exact ⟨0, by omega, rfl, HPh, HB⟩
                          case round =>
                            clear HPh HB
                            obtain ⟨i, hi, rfl, HPh, HB⟩ := hrel
                            by_cases hlt : i < 3
                            ·
                              go_wp2
                              rw [show decide ((i : Int) < 3) = true from decide_eq_true (by omega)]
                              go_loopw [41] (fun jv wr => ∃ j : Nat, j ≤ (kdM A E C).n2 i ∧ jv = .int .i64 j ∧ Hid (Pq (kdM A E C) w.heap.size V 6 0 3 0 wr) ∧ Hid (Below w.heap.size w wr)) (fun jv _ => (kdM A E C).n2 i - (intOf jv).toNat)
                              case atStart => exact ⟨0, by omega, rfl, HPh, HB⟩
                              case round =>
                                clear HPh HB
                                obtain ⟨j, hj, rfl, HPh, HB⟩ := hrel
                                have hcL := HPh.out.cell1 HV1.out i hlt
                                have hn : (kdM A E C).n2 i ≤ 1048577 := hC'
                                by_cases hjn : j < (kdM A E C).n2 i
                                · rcases HPh.out.formB i hlt with ⟨_, h⟩ | ⟨g, cap, hv, hcap⟩
                                  · omega
                                  rw [hv] at hcL
                                  have hcu := HPh.out.readB i hlt hv j hjn
                                  rw [← dg_int] at hcu
                                  have HVi : Hid (V (50 + i) = .slice (some ⟨g, 0, none⟩) ((kdM A E C).n2 i) cap) := hv
                                  clear hv
                                  have HPh1 : Hid (Pq (kdM A E C) w.heap.size V 6 0 3 0 wr.drew) := HPh.out.below (below_drewN (Below.refl _ _) 1)
                                  have HB1 : Hid (Below w.heap.size w wr.drew) := below_drewN HB.out 1
                                  have HJn : Hid (j < (kdM A E C).n2 i) := hjn
                                  obtain ⟨n, hnn⟩ : ∃ n, n = (kdM A E C).n2 i := ⟨_, rfl⟩
                                  rw [← hnn] at hj hcL hn hjn hcap
                                  have HN : Hid (n = (kdM A E C).n2 i) := hnn
                                  clear hnn
                                  have hil : (str (Lib.itoa (100 * (i : Int) + (j : Int)))).size ≤ 30 := by
                                    have hl := Lib.itoa_length_le (100 * (i : Int) + (j : Int)) (by omega) (by omega)
                                    rw [str_size]; omega
                                  have hz4 : 4 + (str (Lib.itoa (100 * (i : Int) + (j : Int)))).size ≤ 9223372036854775807 := by omega
                                  have HDg : Hid (∀ W, Calls Tryz.prog 12 #[.int .i64 (100 * (i : Int) + (j : Int))] W fun e w' => e = .returned (.string (str (Lib.itoa (100 * (i : Int) + (j : Int))))) ∧ Below (World.heap W).size W w') := fun W => rDigits_any (100 * (i : Int) + (j : Int)) (by omega) (by omega) W
                                  have HDd : Hid (.string ((⟨#[109, 97, 114, 107]⟩ : ByteArray) ++ str (Lib.itoa (100 * (i : Int) + (j : Int)))) = dg i j) := dg_int i j
                                  generalize str (Lib.itoa (100 * (i : Int) + (j : Int))) = Y at *
                                  go_wp2_with fail
                                  refine gen_frame (fun fr hfr => ?_)
                                  have fsz : fr.tmps.size = 315 := by rw [hfr]; rfl
                                  have fL : fr.tmps[17]'(by rw [fsz]; decide) = .slice (some ⟨g1, 0, none⟩) 3 c1 := by subst hfr; rfl
                                  have fI : fr.tmps[40]'(by rw [fsz]; decide) = .int .i64 (i : Int) := by subst hfr; rfl
                                  have fJ : fr.tmps[41]'(by rw [fsz]; decide) = .int .i64 (j : Int) := by subst hfr; rfl
                                  have wr1 : IntKind.i64.wrap (100 * (i : Int)) = 100 * (i : Int) := by rw [IntKind.wrap_i64]; omega
                                  have wr2 : IntKind.i64.wrap (100 * (i : Int) + (j : Int)) = 100 * (i : Int) + (j : Int) := by rw [IntKind.wrap_i64]; omega
                                  have HFR : Hid (fr = _) := hfr
                                  clear hfr
                                  go_region_with (go_at_call 12; refine (HDg.out _).mono ?_; rintro e w5 ⟨rfl, hb5⟩; have P5 := HPh1.out.below hb5; have hc5 := P5.cell1 HV1.out i hlt; rw [HVi.out, ← HN.out] at hc5; have hu5 := P5.readB i hlt HVi.out j HJn.out; rw [← HDd.out] at hu5; have HP5 : Hid (Pq (kdM A E C) w.heap.size V 6 0 3 0 w5) := P5; have HB5 : Hid (Below w.heap.size w w5) := bel_trans HB1.out hb5; clear P5 hb5)
                                  all_goals
                                    change Exit.then _ _ Exit.normal (Act.mk (Array.setIfInBounds _ 279 (.bool false)) _) w5
                                    rw [HFR.out]
                                    clear fL fI fJ fsz wr1 wr2 HFR hc5 hu5 hcu hcL
                                    simp only [List.setIfInBounds_toArray, List.set_cons_succ, List.set_cons_zero]
                                    go_wp2
                                    go_roundw
                                    case rel => exact ⟨j + 1, by have := HN.out; omega, by go_num, HP5, HB5⟩
                                    case measure => have := HN.out; simp [intOf]; omega
                                · obtain rfl : j = (kdM A E C).n2 i := by omega
                                  obtain ⟨a', c', hv⟩ := HPh.out.lenB i hlt
                                  rw [hv] at hcL
                                  clear hv
                                  generalize (kdM A E C).n2 i = n at *
                                  go_wp2
                                  go_roundw
                                  case rel => exact ⟨i + 1, by omega, by go_num, HPh, HB⟩
                                  case measure => simp [intOf]; omega
                            · obtain rfl : i = 3 := by omega
                              rw [show (((3 : Nat) : Nat) : Int) = 3 from rfl]
                              have HRl : Hid (RdQ vx A wr ∧ RdQ vy E wr ∧ Pt.RdT vz C wr) := by
                                have := rows_rd (fun q h1 h2 => HPh.out.row q h1 h2)
                                rw [HV.out.1, HV.out.2.1, HV.out.2.2] at this
                                exact this
                              clear hlt hi HPh
                              go_wp2_with fail
                              refine (HQ.out _ HB.out).mono ?_
                              rintro e w2 ⟨va, rfl, ho2, hb2⟩
                              have HRa2 : Hid (RdQ va A w2) := OwnQ.rd ho2
                              have HRl2 : Hid (RdQ vx A w2 ∧ RdQ vy E w2 ∧ Pt.RdT vz C w2) := ⟨HRl.out.1.below hb2, HRl.out.2.1.below hb2, HRl.out.2.2.below hb2⟩
                              have HB2 : Hid (Below w.heap.size w w2) := bel_trans HB.out hb2
                              clear ho2 hb2 HB HRl
                              go_wp2_with fail
                              refine (HD.out _ HB2.out).mono ?_
                              rintro e w3 ⟨vb, rfl, ho3, hb3⟩
                              have HRa3 : Hid (RdQ va A w3) := HRa2.out.below hb3
                              have HRb3 : Hid (RdQ vb E w3) := Ds.rdq (OwnP.rd ho3)
                              have HRl3 : Hid (RdQ vx A w3 ∧ RdQ vy E w3 ∧ Pt.RdT vz C w3) := ⟨HRl2.out.1.below hb3, HRl2.out.2.1.below hb3, HRl2.out.2.2.below hb3⟩
                              have HB3 : Hid (Below w.heap.size w w3) := bel_trans HB2.out hb3
                              clear ho3 hb3 HB2 HRl2 HRa2
                              go_wp2_with fail
                              refine (HP.out _ HB3.out).mono ?_
                              rintro e w4 ⟨vc, rfl, ho4, hb4⟩
                              have HRa4 : Hid (RdQ va A w4) := HRa3.out.below hb4
                              have HRb4 : Hid (RdQ vb E w4) := HRb3.out.below hb4
                              have HRc4 : Hid (Pt.RdT vc C w4) := Pt.OwnT.rd ho4
                              have HRl4 : Hid (RdQ vx A w4 ∧ RdQ vy E w4 ∧ Pt.RdT vz C w4) := ⟨HRl3.out.1.below hb4, HRl3.out.2.1.below hb4, HRl3.out.2.2.below hb4⟩
                              have HB4 : Hid (Below w.heap.size w w4) := bel_trans HB3.out hb4
                              clear ho4 hb4 HB3 HRl3 HRa3 HRb3
                              go_wp2_with fail
                              refine (HA.out _ HB4.out).mono ?_
                              rintro e w5 ⟨rfl, hb5⟩
                              have HRa5 : Hid (RdQ va A w5) := HRa4.out.below hb5
                              have HRb5 : Hid (RdQ vb E w5) := HRb4.out.below hb5
                              have HRc5 : Hid (Pt.RdT vc C w5) := HRc4.out.below hb5
                              have HRl5 : Hid (RdQ vx A w5 ∧ RdQ vy E w5 ∧ Pt.RdT vz C w5) := ⟨HRl4.out.1.below hb5, HRl4.out.2.1.below hb5, HRl4.out.2.2.below hb5⟩
                              have HB5 : Hid (Below w.heap.size w w5) := bel_trans HB4.out hb5
                              clear hb5 HB4 HRl4 HRa4 HRb4 HRc4
                              go_wp2_with fail
                              refine (HPp.out _ _ A _ HRa5.out HRl5.out.1 (by omega)).mono ?_
                              rintro e w6 ⟨rfl, n6, hw6⟩
                              have b6 : Below w5.heap.size w5 w6 := by rw [hw6]; exact below_drewN (Below.refl _ _) _
                              have HRb6 : Hid (RdQ vb E w6) := HRb5.out.below b6
                              have HRc6 : Hid (Pt.RdT vc C w6) := HRc5.out.below b6
                              have HRl6 : Hid (RdQ vy E w6 ∧ Pt.RdT vz C w6) := ⟨HRl5.out.2.1.below b6, HRl5.out.2.2.below b6⟩
                              have HB6 : Hid (Below w.heap.size w w6) := bel_trans HB5.out b6
                              clear b6 hw6 HB5 HRl5 HRa5 HRb5 HRc5
                              go_wp2_with fail
                              refine (HPp.out _ _ E _ HRb6.out HRl6.out.1 (by omega)).mono ?_
                              rintro e w7 ⟨rfl, n7, hw7⟩
                              have b7 : Below w6.heap.size w6 w7 := by rw [hw7]; exact below_drewN (Below.refl _ _) _
                              have HRc7 : Hid (Pt.RdT vc C w7) := HRc6.out.below b7
                              have HRl7 : Hid (Pt.RdT vz C w7) := HRl6.out.2.below b7
                              have HB7 : Hid (Below w.heap.size w w7) := bel_trans HB6.out b7
                              clear b7 hw7 HB6 HRl6 HRb6 HRc6
                              go_wp2_with fail
                              refine (HPt.out _ _ _ HRc7.out HRl7.out).mono ?_
                              rintro e w8 ⟨rfl, n8, hw8⟩
                              have HB8 : Hid (Below w.heap.size w w8) := (by rw [hw8]; exact below_drewN HB7.out _ : Below _ _ _)
                              clear hw8 HB7
                              go_wp2
                              go_ret
                              exact ⟨rfl, HB8.out⟩

end Sr
end Go.Proofs.YtlnlhhobmgiceaaGreatDoor
