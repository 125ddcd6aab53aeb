/-
  SpanMemory: the walk.
-/
import Derived.Test.YtenipnlpambehaaDoorZMa
import Derived.Test.YtenipnlpambehaaDoorMgO
import Derived.Test.YtenipnlpambehaaDoorMgJ
import Derived.Test.YtenipnlpambehaaDoorZzO
import Derived.Test.YtenipnlpambehaaDoorZzP
import Derived.Test.YtenipnlpambehaaDoorSnX
set_option linter.unusedVariables false
set_option linter.unusedSimpArgs false
namespace Go.Proofs.YtenipnlpambehaaDoor
open Go.RowKit Go.Shelf
namespace Sn
open Oc Tg Ac Zm

theorem neN9 (a b c d : Int) (w : World) : (binOp .neq 44 (.agg #[.int .i64 a, .int .i64 b]) (.agg #[.int .i64 c, .int .i64 d])).run Tryd.prog w = .ok (.bool (!(a == c && b == d))) w := by
  have u3 := Tryd.underlying3
  have a3 := Tryd.isAgg3
  have z3 := Tryd.sizeOf3
  have hS : Tryd.prog.underlying 44 = some (.struct (Tryd.prog.fieldsOf 44)) := by kernel_rfl
  have hp : Tryd.prog.stoodInHeld 44 = false := by kernel_rfl
  rw [run_neq_struct, show (10000 : Nat) = 9999 + 1 from rfl, run_equalIn_agg w 9999 44 _ _ hS hp]
  simp only [Program.fieldsOf, Tryd.underlying44]
  go_simp
  by_cases h1 : a = c <;> by_cases h2 : b = d <;> simp [h1, h2]

def nL (A E : List Sp) (q : Nat) : Nat := if q % 2 = 0 then A.length else E.length
theorem nL_even (A E : List Sp) (i : Nat) : nL A E (2 * i) = A.length := by unfold nL; rw [if_pos (by omega)]
theorem nL_odd (A E : List Sp) (i : Nat) : nL A E (2 * i + 1) = E.length := by unfold nL; rw [if_neg (by omega)]
def dgS (q c : Nat) : Value × Value := (.int .i64 (-7 - (q : Int)), .int .i64 (-1000 - (c : Int)))
theorem infoLN : (Tryd.prog.info? 32).map (fun i => (i.zero, i.size, i.bytes)) = some (some (.slice none 0 0), 1, 24) := by kernel_rfl
theorem MrgOf.one {d m m' : List Sp} (h : MrgOf d m) (h' : MrgOf d m') : m = m' := Norm.one h.1 h'.1 (fun p => (h.2.1 p).trans (h'.2.1 p).symm)

set_option maxRecDepth 100000 in
set_option maxHeartbeats 8000000 in
theorem walk_SpanMemory (s : ByteArray) (hs : s.size ≤ 1048576) (z : Int) (hz : (Lit.int .i64 z).wf = true) (v : Value) (t : List Sp) (ht : t.length ≤ 1048576) (w : World) (hrd : RdN v t w) (hw : ML w) :
    Calls Tryd.prog 4 #[.string s, .int .i64 z, v] w fun e w' => e = .returned (.bool true) ∧ Below w.heap.size w w' := by
  obtain ⟨z0, z1⟩ := i64_of_wf hz
  have HML : Hid (ML w) := hw
  have HRT : Hid (RdN v t w) := hrd
  have HA : Hid (∀ W, Below w.heap.size w W → Calls _ _ _ W _) := fun W hb => awake_any W (hw.below hb)
  have HP : Hid (∀ W, Below w.heap.size w W → Calls _ _ _ W _) := fun W hb => Parse_any s hs z z0 z1 W (hw.below hb)
  have HrP : Hid (∀ W, _) := fun W => rParse_any s hs z z0 z1 W
  have hA := parR_len s.data.toList z
  rw [size_list] at hA
  have HS : Hid (∀ W, Below w.heap.size w W → Calls _ _ _ W _) := fun W hb => spans_any v t W (hrd.below hb) (by omega)
  have HrM : Hid (∀ u W, RdN u t W → Calls _ _ _ W _) := fun u W h => rMerge_any u t W h (by omega)
  have HM : Hid (∀ W, Below w.heap.size w W → Calls _ _ _ W _) := fun W hb => Merge_own v t ht W (hrd.below hb)
  have HSm : Hid (∀ (a b : Value) (d : List Sp) W, RdN a d W → RdN b d W → d.length ≤ 4294967296 → Calls _ _ _ W _) := fun a b d W h1 h2 h3 => same_any a b d W h1 h2 h3
  obtain ⟨va0, vc0, rfl, _⟩ := hrd
  generalize parR s.data.toList z = PR at *
  obtain ⟨A, eA⟩ := PR
  dsimp only at HP HrP hA
  have hA' : A.length ≤ 1048577 := by omega
  clear hw hz z0 z1 hA hs
  go_enter Tryd.func4, Tryd.ntmps4
  go_wp2_with fail
  refine (HrP.out _).mono ?_
  rintro e w1 ⟨vb, rfl, ho1, hb1⟩
  have HO1 : Hid (OwnN 55 w.heap.size vb A w1) := ho1
  have HB1 : Hid (Below w.heap.size w w1) := hb1
  clear ho1 hb1
  go_wp2_with fail
  refine (HS.out _ HB1.out).mono ?_
  rintro e w2 ⟨us, rfl, ho2, hb2⟩
  have HRS : Hid (RdN us t w2) := ho2.rd
  have HO2 : Hid (OwnN 55 w.heap.size vb A w2) := HO1.out.below hb2
  have HB2 : Hid (Below w.heap.size w w2) := bel_trans HB1.out hb2
  clear ho2 hb2 HO1 HB1
  go_wp2_with fail
  refine (HrM.out _ _ HRS.out).mono ?_
  rintro e w3 ⟨vm, E, rfl, ho3, hm3, hb3⟩
  have HE : Hid (MrgOf t E) := ⟨hm3.1, hm3.2.1, hm3.2.2⟩
  have hE' : E.length ≤ 1048577 := by have := hm3.2.2; omega
  obtain ⟨V, hM, h0, h1, h2⟩ := Mz.start (TL := 32) (T := 44) (L := nL A E) (B := w.heap.size) (w1 := w) (Nat.le_refl _) HO2.out HB2.out ho3 hb3
  have HMz : Hid (∃ N X, Mz 32 44 55 w.heap.size (nL A E) A.length E.length (encN A) (encN E) 0 0 V N X (w3.alloc (.cells #[] 32))) := hM
  have HV : Hid (V 1 = vb ∧ V 2 = vm) := ⟨h1, h2⟩
  have HB3 : Hid (Below w.heap.size w (w3.alloc (.cells #[] 32))) := (by
    have b := bel_trans HB2.out hb3
    exact b.alloc b.size _ : Below _ _ _)
  have H0 : Hid (V 0 = .slice (some ⟨w3.heap.size, 0, none⟩) 0 0) := h0
  clear hM h0 h1 h2 ho3 hm3 hb3 HB2 HO2 HRS
  go_wp2
  go_loopw [10, 11] (fun lv iv wr => ∃ (i : Nat) (V : Nat → Value), i ≤ 3 ∧ iv = .int .i64 i ∧ Hid (lv = V 0) ∧ Hid (V 1 = vb ∧ V 2 = vm) ∧ Hid (∃ N X, Mz 32 44 55 w.heap.size (nL A E) A.length E.length (encN A) (encN E) (2 * i) (2 * i) V N X wr) ∧ Hid (Below w.heap.size w wr)) (fun _ iv _ => 3 - (intOf iv).toNat)
  case atStart => exact ⟨0, V, by omega, rfl, H0.out.symm, HV, HMz, HB3⟩
  case round =>
    clear HMz HV HB3 H0 V
    obtain ⟨i, V, hi, rfl, hlv, HV, HMz, HB⟩ := hrel
    by_cases hlt : i < 3
    · have hs0 := HB.out.size
      go_wp2_with fail
      refine (HP.out _ HB.out).mono ?_
      rintro e w2 ⟨va, rfl, ho2, hb2⟩
      obtain ⟨aa, ca, rfl, _⟩ := ho2.rd
      have HR2 : Hid (RdN (.slice aa A.length ca) A w2) := ho2.rd
      have HM2 : Hid (∃ N X, Mz 32 44 55 w.heap.size (nL A E) A.length E.length (encN A) (encN E) (2 * i + 1) (2 * i) (upd V (10 + 2 * i) (.slice aa A.length ca)) N X w2) := (by
        obtain ⟨N, X, M⟩ := HMz.out
        exact M.addS (by omega) hb2 hs0 ho2 (nL_even A E i).symm : ∃ N X, _)
      have HB2 : Hid (Below w.heap.size w w2) := bel_trans HB.out hb2
      have hs2 := HB2.out.size
      clear ho2 hb2 HMz HB
      go_wp2_with fail
      refine (HM.out _ HB2.out).mono ?_
      rintro e w4 ⟨vc, E', rfl, ho4, hm4, hb4⟩
      obtain rfl : E = E' := MrgOf.one HE.out hm4
      obtain ⟨ab, cb, rfl, _⟩ := ho4.rd
      have HR4 : Hid (RdN (.slice ab E.length cb) E w4) := ho4.rd
      have HR2c : Hid (RdN (.slice aa A.length ca) A w4) := HR2.out.below hb4
      have HM4 : Hid (∃ N X, Mz 32 44 55 w.heap.size (nL A E) A.length E.length (encN A) (encN E) (2 * i + 2) (2 * i) (upd (upd V (10 + 2 * i) (.slice aa A.length ca)) (10 + (2 * i + 1)) (.slice ab E.length cb)) N X w4) := (by
        obtain ⟨N, X, M⟩ := HM2.out
        exact M.addS (by omega) hb4 hs2 ho4 (nL_odd A E i).symm : ∃ N X, _)
      have HB4 : Hid (Below w.heap.size w w4) := bel_trans HB2.out hb4
      clear ho4 hb4 hm4 HM2 HB2 HR2
      obtain ⟨V', hV'⟩ : ∃ V', V' = upd (upd V (10 + 2 * i) (.slice aa A.length ca)) (10 + (2 * i + 1)) (.slice ab E.length cb) := ⟨_, rfl⟩
      rw [← hV'] at HM4
      have HV2 : Hid (V' 1 = vb ∧ V' 2 = vm) := (by
        rw [hV', upd_other _ _ (by omega), upd_other _ _ (by omega), upd_other _ _ (by omega), upd_other _ _ (by omega)]
        exact HV.out : _ ∧ _)
      have HVs : Hid ([(.slice aa A.length ca : Value), .slice ab E.length cb] = (List.range 2).map (fun j => V' (10 + (2 * i + j)))) := (by
        show _ = [V' (10 + (2 * i + 0)), V' (10 + (2 * i + 1))]
        rw [hV', upd_other _ _ (by omega), Nat.add_zero, upd_same, upd_same] : _ = _)
      have hlv' : Hid (_ = V' 0) := hlv.out.trans (by rw [hV', upd_other _ _ (by omega), upd_other _ _ (by omega)])
      clear hV' hlv HV
      have HRl : Hid (RdN vb A w4 ∧ RdN vm E w4) := (by
        obtain ⟨N, X, M⟩ := HM4.out
        have := M.rows
        rw [HV2.out.1, HV2.out.2] at this
        exact ⟨OwnN.rd (T := 55) (B := w.heap.size) this.1, OwnN.rd (T := 55) (B := w.heap.size) this.2⟩ : _ ∧ _)
      go_wp2_with fail
      refine (HSm.out _ _ A _ HR2c.out HRl.out.1 (by omega)).mono ?_
      rintro e w5 ⟨rfl, hb5⟩
      have HR5 : Hid (RdN (.slice ab E.length cb) E w5) := HR4.out.below hb5
      have HRm : Hid (RdN vm E w5) := HRl.out.2.below hb5
      have HB5 : Hid (Below w.heap.size w w5) := bel_trans HB4.out hb5
      have HM5 : Hid (∃ N X, Mz 32 44 55 w.heap.size (nL A E) A.length E.length (encN A) (encN E) (2 * i + 2) (2 * i) V' N X w5) := (by
        obtain ⟨N, X, M⟩ := HM4.out
        exact ⟨N, X, M.below hb5⟩ : ∃ N X, _)
      clear hb5 HB4 HM4 HR2c HR4 HRl
      go_wp2_with fail
      refine (HSm.out _ _ E _ HR5.out HRm.out (by omega)).mono ?_
      rintro e w6 ⟨rfl, hb6⟩
      have HB6 : Hid (Below w.heap.size w w6) := bel_trans HB5.out hb6
      have HM6 : Hid (∃ N X, Mz 32 44 55 w.heap.size (nL A E) A.length E.length (encN A) (encN E) (2 * i + 2) (2 * i) V' N X w6) := (by
        obtain ⟨N, X, M⟩ := HM5.out
        exact ⟨N, X, M.below hb6⟩ : ∃ N X, _)
      have hs6 := HB6.out.size
      clear hb6 HB5 HM5 HR5 HRm
      go_wp2_with (at_builtin; go_must (refine wp_appZ 38 Tryd.underlying38 infoLN rfl (.tmp 56) (.tmp 59) rfl HM6.out 2 (by decide) (by omega) (by omega) _ rfl (by exact hlv'.out) _ HVs.out _ rfl (by simp) hs6 ?_))
      intro v8 w8 N8 X8 hM8 hb8
      have HM8 : Hid (∃ N X, Mz 32 44 55 w.heap.size (nL A E) A.length E.length (encN A) (encN E) (2 * (i + 1)) (2 * (i + 1)) (upd V' 0 v8) N X w8) := ⟨N8, X8, hM8⟩
      have HB8 : Hid (Below w.heap.size w w8) := HB6.out.trans hb8
      have HV8 : Hid ((upd V' 0 v8) 1 = vb ∧ (upd V' 0 v8) 2 = vm) := (by rw [upd_other _ _ (by omega), upd_other _ _ (by omega)]; exact HV2.out : _ ∧ _)
      have hl8 : Hid (v8 = (upd V' 0 v8) 0) := (by rw [upd_same] : v8 = _)
      clear hM8 hb8 HM6 HB6
      go_wp2
      go_roundw
      case rel => exact ⟨i + 1, _, by omega, by go_num, hl8, HV8, HM8, HB8⟩
      case measure => simp [intOf]; omega
    · obtain rfl : i = 3 := by omega
      rw [show (((3 : Nat) : Nat) : Int) = 3 from rfl]
      have P0 : Ph 32 44 55 w.heap.size 6 (nL A E) A.length E.length (encN A) (encN E) dgS V 0 0 wr := Ph.start (dg := dgS) HMz.out
      obtain ⟨g0, c0, hv0, h60⟩ := P0.formL (by omega)
      have e0 := hlv.out.trans hv0
      subst e0
      have HPh : Hid (Ph 32 44 55 w.heap.size 6 (nL A E) A.length E.length (encN A) (encN E) dgS V 0 0 wr) := P0
      have HV0 : Hid (V 0 = .slice (some ⟨g0, 0, none⟩) 6 c0) := hv0
      clear P0 hv0 hlv HMz hi hlt
      go_wp2
      go_loopw [15] (fun iv wr => ∃ i : Nat, i ≤ 6 ∧ iv = .int .i64 i ∧ Hid (Ph 32 44 55 w.heap.size 6 (nL A E) A.length E.length (encN A) (encN E) dgS V i 0 wr) ∧ Hid (Below w.heap.size w wr)) (fun iv _ => 6 - (intOf iv).toNat)
      case atStart => exact ⟨0, by omega, rfl, HPh, HB⟩
      case round =>
        clear HPh HB
        obtain ⟨i, hi, rfl, HPh, HB⟩ := hrel
        by_cases hlt : i < 6
        · go_wp2
          rw [show decide ((i : Int) < 6) = true from decide_eq_true (by omega)]
          go_loopw [16] (fun jv wr => ∃ j : Nat, j ≤ nL A E i ∧ jv = .int .i64 j ∧ Hid (Ph 32 44 55 w.heap.size 6 (nL A E) A.length E.length (encN A) (encN E) dgS V i j wr) ∧ Hid (Below w.heap.size w wr)) (fun jv _ => nL A E i - (intOf jv).toNat)
          case atStart => exact ⟨0, by omega, rfl, HPh, HB⟩
          case round =>
            clear HPh HB
            obtain ⟨j, hj, rfl, HPh, HB⟩ := hrel
            have hcL := HPh.out.cellL HV0.out i hlt
            have hn : nL A E i ≤ 1048577 := by unfold nL; split <;> assumption
            by_cases hjn : j < nL A E i
            · rcases HPh.out.formS i hlt with ⟨_, h⟩ | ⟨g, cap, hv, hcap⟩
              · omega
              rw [hv] at hcL
              obtain ⟨⟨u0, hu0⟩, hf0⟩ := HPh.out.freeS i hlt hv (j * 2) (by omega)
              obtain ⟨⟨u1, hu1⟩, hf1⟩ := HPh.out.freeS i hlt hv (j * 2 + 1) (by omega)
              have hge := HPh.out.geS i hlt hv
              have HPn : Hid (Ph 32 44 55 w.heap.size 6 (nL A E) A.length E.length (encN A) (encN E) dgS V i (j + 1) ((wr.setCell ⟨g, j * 2, none⟩ (.int .i64 (-7 - (i : Int)))).setCell ⟨g, j * 2 + 1, none⟩ (.int .i64 (-1000 - (j : Int))))) := HPh.out.setS hlt hjn hv
              have HBn : Hid (Below w.heap.size w ((wr.setCell ⟨g, j * 2, none⟩ (.int .i64 (-7 - (i : Int)))).setCell ⟨g, j * 2 + 1, none⟩ (.int .i64 (-1000 - (j : Int))))) := (HB.out.setCell (p := ⟨g, j * 2, none⟩) hge _).setCell (p := ⟨g, j * 2 + 1, none⟩) hge _
              clear hv
              generalize nL A E i = n at *
              go_wp2
              go_roundw
              case rel => exact ⟨j + 1, by omega, by go_num, HPn, HBn⟩
              case measure => simp [intOf]; omega
            · obtain rfl : j = nL A E i := by omega
              have HPn : Hid (Ph 32 44 55 w.heap.size 6 (nL A E) A.length E.length (encN A) (encN E) dgS V (i + 1) 0 wr) := HPh.out.nextS
              obtain ⟨a', c', hv⟩ := HPh.out.lenS i hlt
              rw [hv] at hcL
              clear hv
              go_wp2
              go_roundw
              case rel => exact ⟨i + 1, by omega, by go_num, HPn, HB⟩
              case measure => simp [intOf]; omega
        · obtain rfl : i = 6 := by omega
          rw [show (((6 : Nat) : Nat) : Int) = 6 from rfl]
          clear hlt hi
          go_wp2
          go_loopw [17] (fun iv wr => ∃ i : Nat, i ≤ 6 ∧ iv = .int .i64 i ∧ Hid (Ph 32 44 55 w.heap.size 6 (nL A E) A.length E.length (encN A) (encN E) dgS V 6 0 wr) ∧ Hid (Below w.heap.size w wr)) (fun iv _ => 6 - (intOf iv).toNat)
          case atStart => exact ⟨0, by omega, rfl, HPh, HB⟩
          case round =>
            clear HPh HB
            obtain ⟨i, hi, rfl, HPh, HB⟩ := hrel
            by_cases hlt : i < 6
            · have hcL := HPh.out.cellL HV0.out i hlt
              have HPA : Hid (PhA 32 44 55 w.heap.size 6 (nL A E) A.length E.length (encN A) (encN E) dgS V i (V (10 + i)) 0 wr) := HPh.out.alias i hlt
              clear HPh
              go_wp2
              rw [show decide ((i : Int) < 6) = true from decide_eq_true (by omega)]
              go_loopw [18, 19] (fun gv jv wr => ∃ j : Nat, j ≤ 20 ∧ jv = .int .i64 j ∧ Hid (PhA 32 44 55 w.heap.size 6 (nL A E) A.length E.length (encN A) (encN E) dgS V i gv j wr) ∧ Hid (Below w.heap.size w wr)) (fun _ jv _ => 20 - (intOf jv).toNat)
              case atStart => exact ⟨0, by omega, rfl, HPA, HB⟩
              case round =>
                clear HPA HB hcL
                obtain ⟨j, hj, rfl, HPA, HB⟩ := hrel
                by_cases hjn : j < 20
                · have hs5 := HB.out.size
                  have hnl : nL A E i + j + 1 ≤ 2147483648 := by unfold nL; split <;> omega
                  go_wp2_with (at_builtin; go_must (refine wp_growZ (.int .i64 0) (.int .i64 0) 16 (by decide) Tryd.underlying32 infoN rfl rfl (.tmp 101) (.tmp 103) rfl hlt _ HPA.out hnl rfl _ _ rfl rfl _ rfl (by simp) hs5 ?_))
                  intro v6 w6 hP6 hb6
                  have HP6 : Hid (PhA 32 44 55 w.heap.size 6 (nL A E) A.length E.length (encN A) (encN E) dgS V i v6 (j + 1) w6) := hP6
                  have HB6 : Hid (Below w.heap.size w w6) := HB.out.trans hb6
                  clear hP6 hb6 HPA HB
                  go_wp2
                  go_roundw
                  case rel => exact ⟨j + 1, by omega, by go_num, HP6, HB6⟩
                  case measure => simp [intOf]; omega
                · obtain rfl : j = 20 := by omega
                  have HPn : Hid (Ph 32 44 55 w.heap.size 6 (nL A E) A.length E.length (encN A) (encN E) dgS V 6 0 wr) := HPA.out.done
                  go_wp2
                  go_roundw
                  case rel => exact ⟨i + 1, by omega, by go_num, HPn, HB⟩
                  case measure => simp [intOf]; omega
            · obtain rfl : i = 6 := by omega
              rw [show (((6 : Nat) : Nat) : Int) = 6 from rfl]
              clear hlt hi
              go_wp2
              go_loopw [20] (fun iv wr => ∃ i : Nat, i ≤ 6 ∧ iv = .int .i64 i ∧ Hid (Ph 32 44 55 w.heap.size 6 (nL A E) A.length E.length (encN A) (encN E) dgS V 6 0 wr) ∧ Hid (Below w.heap.size w wr)) (fun iv _ => 6 - (intOf iv).toNat)
              case atStart => exact ⟨0, by omega, rfl, HPh, HB⟩
              case round =>
                clear HPh HB
                obtain ⟨i, hi, rfl, HPh, HB⟩ := hrel
                by_cases hlt : i < 6
                · go_wp2
                  rw [show decide ((i : Int) < 6) = true from decide_eq_true (by omega)]
                  go_loopw [21] (fun jv wr => ∃ j : Nat, j ≤ nL A E i ∧ jv = .int .i64 j ∧ Hid (Ph 32 44 55 w.heap.size 6 (nL A E) A.length E.length (encN A) (encN E) dgS V 6 0 wr) ∧ Hid (Below w.heap.size w wr)) (fun jv _ => nL A E i - (intOf jv).toNat)
                  case atStart => exact ⟨0, by omega, rfl, HPh, HB⟩
                  case round =>
                    clear HPh HB
                    obtain ⟨j, hj, rfl, HPh, HB⟩ := hrel
                    have hcL := HPh.out.cellL HV0.out i hlt
                    have hn : nL A E i ≤ 1048577 := by unfold nL; split <;> assumption
                    by_cases hjn : j < nL A E i
                    · rcases HPh.out.formS i hlt with ⟨_, h⟩ | ⟨g, cap, hv, hcap⟩
                      · omega
                      rw [hv] at hcL
                      obtain ⟨hu0, hu1⟩ := HPh.out.readS i hlt hv j hjn
                      unfold dgS at hu0 hu1
                      dsimp only at hu0 hu1
                      have hneq : ∀ W, (binOp .neq 44 (.agg #[.int .i64 (-7 - (i : Int)), .int .i64 (-1000 - (j : Int))]) (.agg #[.int .i64 (-7 - (i : Int)), .int .i64 (-1000 - (j : Int))])).run Tryd.prog W = .ok (.bool false) W := fun W => by rw [neN9]; simp
                      clear hv
                      generalize nL A E i = n at *
                      go_wp2
                      go_roundw
                      case rel => exact ⟨j + 1, by omega, by go_num, HPh, HB⟩
                      case measure => simp [intOf]; omega
                    · obtain rfl : j = nL A E i := by omega
                      obtain ⟨a', c', hv⟩ := HPh.out.lenS i hlt
                      rw [hv] at hcL
                      clear hv
                      go_wp2
                      go_roundw
                      case rel => exact ⟨i + 1, by omega, by go_num, HPh, HB⟩
                      case measure => simp [intOf]; omega
                · obtain rfl : i = 6 := by omega
                  rw [show (((6 : Nat) : Nat) : Int) = 6 from rfl]
                  have HRl : Hid (RdN vb A wr ∧ RdN vm E wr) := (by
                    have := HPh.out.rows
                    rw [HV.out.1, HV.out.2] at this
                    exact ⟨OwnN.rd (T := 55) (B := w.heap.size) this.1, OwnN.rd (T := 55) (B := w.heap.size) this.2⟩ : _ ∧ _)
                  clear hlt hi HPh
                  go_wp2_with fail
                  refine (HP.out _ HB.out).mono ?_
                  rintro e w2 ⟨va, rfl, ho2, hb2⟩
                  have HR2 : Hid (RdN va A w2) := ho2.rd
                  have HRl2 : Hid (RdN vb A w2 ∧ RdN vm E w2) := ⟨HRl.out.1.below hb2, HRl.out.2.below hb2⟩
                  have HB2 : Hid (Below w.heap.size w w2) := bel_trans HB.out hb2
                  clear ho2 hb2 HB HRl
                  go_wp2_with fail
                  refine (HA.out _ HB2.out).mono ?_
                  rintro e w4 ⟨rfl, hb4⟩
                  have HR4 : Hid (RdN va A w4) := HR2.out.below hb4
                  have HRl4 : Hid (RdN vb A w4 ∧ RdN vm E w4) := ⟨HRl2.out.1.below hb4, HRl2.out.2.below hb4⟩
                  have HB4 : Hid (Below w.heap.size w w4) := bel_trans HB2.out hb4
                  clear hb4 HB2 HRl2 HR2
                  go_wp2_with fail
                  refine (HSm.out _ _ A _ HR4.out HRl4.out.1 (by omega)).mono ?_
                  rintro e w5 ⟨rfl, hb5⟩
                  have HRl5 : Hid (RdN vm E w5) := HRl4.out.2.below hb5
                  have HB5 : Hid (Below w.heap.size w w5) := bel_trans HB4.out hb5
                  clear hb5 HB4 HRl4 HR4
                  go_wp2_with fail
                  refine (HM.out _ HB5.out).mono ?_
                  rintro e w6 ⟨vc, E', rfl, ho6, hm6, hb6⟩
                  obtain rfl : E = E' := MrgOf.one HE.out hm6
                  have HR6 : Hid (RdN vc E w6) := ho6.rd
                  have HRl6 : Hid (RdN vm E w6) := HRl5.out.below hb6
                  have HB6 : Hid (Below w.heap.size w w6) := bel_trans HB5.out hb6
                  clear hb6 HB5 HRl5 ho6 hm6
                  go_wp2_with fail
                  refine (HSm.out _ _ E _ HR6.out HRl6.out (by omega)).mono ?_
                  rintro e w7 ⟨rfl, hb7⟩
                  have HB7 : Hid (Below w.heap.size w w7) := bel_trans HB6.out hb7
                  clear hb7 HB6
                  go_wp2
                  go_ret
                  exact ⟨rfl, HB7.out⟩

end Sn
end Go.Proofs.YtenipnlpambehaaDoor
