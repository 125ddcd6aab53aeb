/-
  The law SheetPrints.
-/
import Derived.Test.YtpoefoepmigbeaaDoorShS
set_option linter.unusedVariables false
set_option linter.unusedSimpArgs false
namespace Go.Proofs.YtpoefoepmigbeaaDoor
open Go.RowKit Go.Shelf
namespace Tg
open Oc

set_option maxRecDepth 100000 in
set_option maxHeartbeats 4000000 in
theorem walk_SheetPrints (v : Value) (t : List Prm) (hb : t.length + sumQ t ≤ 1048576) (w : World) (hr : RdQ v t w) (hm : ML w) :
    Calls Tryd.prog 4 #[v] w fun e w' => e = .returned (.bool true) ∧ Below w.heap.size w w' := by
  have HA : Hid (∀ w, ML w → _) := fun w h => awake15_any w h
  have HK : Hid (∀ w, RdQ v t w → _) := fun w h => known15_any v t w h (by omega)
  have HP : Hid (∀ w, RdQ v t w → ML w → _) := fun w h hm => PrintPairs_any v t hb w h hm
  have HR : Hid (∀ u w, RdQ u t w → _) := fun u w h => rPrintPairs_any u t hb w h
  have HS : Hid (∀ v1 v2 w, RdQ v1 t w → RdQ v2 t w → _) := fun v1 v2 w h1 h2 => pairs15_any v1 v2 t w h1 h2 (by omega)
  have HM : Hid (ML w) := hm
  have H0 : Hid (RdQ v t w) := hr
  have hjl := joinF_len codB codB_len t
  obtain ⟨a, c, rfl, _⟩ := hr
  clear hm
  cases hall : t.all okQ with
  | false =>
    have e : prcR t = ([], 150) := by unfold prcR; rw [if_neg (by rw [hall]; decide)]
    rw [e] at HP HR
    dsimp only at HP HR
    go_enter Tryd.func4, Tryd.ntmps4
    go_wp2_with fail
    refine (HK.out _ H0.out).mono ?_
    rintro e w1 ⟨u, rfl, ho1, hb1⟩
    have HB1 : Hid (Below w.heap.size w w1) := hb1
    have HO1 : Hid (OwnQ 46 w.heap.size u t w1) := ho1
    have HR1 : Hid (RdQ _ t w1) := H0.out.below hb1
    have HU1 : Hid (RdQ u t w1) := ho1.rd
    clear ho1 hb1
    go_wp2_with fail
    refine (HP.out _ HR1.out (HM.out.below HB1.out)).mono ?_
    rintro e w2 ⟨rfl, hb2⟩
    have HB2 : Hid (Below w.heap.size w w2) := HB1.out.trans (hb2.mono HB1.out.size)
    have HR2 : Hid (RdQ _ t w2) := HR1.out.below hb2
    have HU2 : Hid (RdQ u t w2) := HU1.out.below hb2
    clear hb2
    go_wp2_with fail
    refine (HR.out _ _ HU2.out).mono ?_
    rintro e w3 ⟨rfl, hb3⟩
    have HB3 : Hid (Below w.heap.size w w3) := HB2.out.trans (hb3.mono HB2.out.size)
    have HR3 : Hid (RdQ _ t w3) := HR2.out.below hb3
    have HU3 : Hid (RdQ u t w3) := HU2.out.below hb3
    clear hb3
    go_wp2_with fail
    refine (HA.out _ (HM.out.below HB3.out)).mono ?_
    rintro e w4 ⟨rfl, hb4⟩
    have HB4 : Hid (Below w.heap.size w w4) := HB3.out.trans (hb4.mono HB3.out.size)
    have HR4 : Hid (RdQ _ t w4) := HR3.out.below hb4
    have HU4 : Hid (RdQ u t w4) := HU3.out.below hb4
    clear hb4
    go_wp2_with fail
    refine (HS.out _ _ _ HR4.out HU4.out).mono ?_
    rintro e w5 ⟨rfl, q5, hq5⟩
    have HB5 : Hid (Below w.heap.size w w5) := by show Below _ _ _; rw [hq5]; exact below_drewN HB4.out _
    clear hq5
    go_wp2
    go_ret
    exact ⟨rfl, HB5.out⟩
  | true =>
    have e : prcR t = (joinF codB t, 0) := by unfold prcR; rw [if_pos hall]
    rw [e] at HP HR
    dsimp only at HP HR
    have HQ : Hid (∀ w, ML w → Calls Tryd.prog 5 #[.string (str (joinF codB t))] w fun e w' => ∃ v, e = .returned (.tuple #[v, .int .i64 0, .int .i64 0]) ∧ OwnQ 45 w.heap.size v t w' ∧ Below w.heap.size w w') := fun w h => by
      have := Pairs_any (str (joinF codB t)) (by rw [str_size]; omega) w h
      rw [str_list, shp_back t hall] at this
      exact this
    clear hall e hjl
    generalize str (joinF codB t) = J at *
    go_enter Tryd.func4, Tryd.ntmps4
    go_wp2_with fail
    refine (HK.out _ H0.out).mono ?_
    rintro e w1 ⟨u, rfl, ho1, hb1⟩
    have HB1 : Hid (Below w.heap.size w w1) := hb1
    have HR1 : Hid (RdQ _ t w1) := H0.out.below hb1
    have HU1 : Hid (RdQ u t w1) := ho1.rd
    clear ho1 hb1
    go_wp2_with fail
    refine (HP.out _ HR1.out (HM.out.below HB1.out)).mono ?_
    rintro e w2 ⟨rfl, hb2⟩
    have HB2 : Hid (Below w.heap.size w w2) := HB1.out.trans (hb2.mono HB1.out.size)
    have HR2 : Hid (RdQ _ t w2) := HR1.out.below hb2
    have HU2 : Hid (RdQ u t w2) := HU1.out.below hb2
    clear hb2
    go_wp2_with fail
    refine (HR.out _ _ HU2.out).mono ?_
    rintro e w3 ⟨rfl, hb3⟩
    have HB3 : Hid (Below w.heap.size w w3) := HB2.out.trans (hb3.mono HB2.out.size)
    have HR3 : Hid (RdQ _ t w3) := HR2.out.below hb3
    have HU3 : Hid (RdQ u t w3) := HU2.out.below hb3
    clear hb3
    go_wp2_with fail
    refine (HA.out _ (HM.out.below HB3.out)).mono ?_
    rintro e w4 ⟨rfl, hb4⟩
    have HB4 : Hid (Below w.heap.size w w4) := HB3.out.trans (hb4.mono HB3.out.size)
    have HR4 : Hid (RdQ _ t w4) := HR3.out.below hb4
    have HU4 : Hid (RdQ u t w4) := HU3.out.below hb4
    clear hb4
    go_wp2_with fail
    refine (HS.out _ _ _ HR4.out HU4.out).mono ?_
    rintro e w5 ⟨rfl, q5, hq5⟩
    have HB5 : Hid (Below w.heap.size w w5) := by show Below _ _ _; rw [hq5]; exact below_drewN HB4.out _
    have HU5 : Hid (RdQ u t w5) := by show RdQ _ _ _; rw [hq5]; exact HU4.out.below (below_drewN (Below.refl _ _) _)
    clear hq5
    go_wp2_with fail
    refine (HQ.out _ (HM.out.below HB5.out)).mono ?_
    rintro e w6 ⟨vb, rfl, ho6, hb6⟩
    have HB6 : Hid (Below w.heap.size w w6) := HB5.out.trans (hb6.mono HB5.out.size)
    have HU6 : Hid (RdQ u t w6) := HU5.out.below hb6
    have HV6 : Hid (RdQ vb t w6) := ho6.rd
    clear ho6 hb6
    go_wp2_with fail
    refine (HS.out _ _ _ HV6.out HU6.out).mono ?_
    rintro e w7 ⟨rfl, q7, hq7⟩
    have HB7 : Hid (Below w.heap.size w w7) := by show Below _ _ _; rw [hq7]; exact below_drewN HB6.out _
    clear hq7
    go_wp2
    go_ret
    exact ⟨rfl, HB7.out⟩

end Tg
end Go.Proofs.YtpoefoepmigbeaaDoor
