/-
  A walk of a law.
-/
import Derived.Test.YthdepdgmlngafabDoorRPrt
import Derived.Test.YthdepdgmlngafabDoorGiven
import Derived.Test.YthdepdgmlngafabDoorOpenP
import Derived.Test.YthdepdgmlngafabDoorPar
import Derived.OpenShut
set_option linter.unusedVariables false
set_option linter.unusedSimpArgs false
namespace Go.Proofs.YthdepdgmlngafabDoor.octetPrintsUpto
open Go.RowKit
open Go.Proofs.YthdepdgmlngafabDoor.Oc

set_option maxRecDepth 100000 in
set_option maxHeartbeats 4000000 in
theorem walk (v0 : Value) (t0 : List Prm) (b0 : bulkparams t0 ≤ 1048576) (w : World) (r0 : RdP v0 t0 w ∧ NilP v0 t0) (t : Tab w) :
    Calls Tryd.prog 7 #[v0] w fun e w' => e = .returned (.bool true) ∧ Below w.heap.size w w' := by
  have HT : Hid (Tab w) := t
  have HR : Hid (RdP v0 t0 w) := r0.1
  have HNil : Hid (NilP v0 t0) := r0.2
  have hb0 : sumP t0 ≤ 1048576 := b0
  have hl0 := len_sumP t0
  clear t r0 b0
  have b1 : Below w.heap.size w (w.alloc (.cells #[] 51)) := (Below.refl _ w).alloc (Nat.le_refl _) _
  have R1 : Hid (RdP v0 t0 (w.alloc (.cells #[] 51))) := HR.out.below b1
  have HB1 : Hid (Below w.heap.size w (w.alloc (.cells #[] 51))) := b1
  clear b1
  go_enter Tryd.func7, Tryd.ntmps7
  go_wp2_with (at_builtin; go_must (refine wp_appQ 51 34 infoP Tryd.underlying34 (by rfl) (.tmp 11) (.tmp 12) rfl w.heap.size _ _ [] t0 rfl (ownP_empty _ w (Nat.le_refl _)) rfl R1.out HNil.out ?h1 ?h2 ?_))
  case h1 => simp; omega
  case h2 => simp
  intro v2 w2 hown2 hb2
  have HO2 : Hid (RdP v2 t0 w2) := (by have := hown2.rd; simpa using this : RdP v2 t0 w2)
  have HB2 : Hid (Below w.heap.size w w2) := HB1.out.trans hb2
  have R2 : Hid (RdP v0 t0 w2) := HR.out.below HB2.out
  clear hown2 hb2 HB1 R1
  go_wp2_with fail
  refine (Print_any v0 t0 _ R2.out (by omega) (by omega) (HT.out.below HB2.out (Nat.le_refl _))).mono ?_
  rintro e w3 ⟨rfl, hb3⟩
  have HB3 : Hid (Below w.heap.size w w3) := bel_trans HB2.out hb3
  have HO3 : Hid (RdP v2 t0 w3) := HO2.out.below hb3
  clear hb3 HB2 HO2 R2
  go_wp2_with fail
  refine (given_any v2 t0 _ HO3.out (by omega)).mono ?_
  rintro e w4 ⟨u4, rfl, ho4, hb4⟩
  have HB4 : Hid (Below w.heap.size w w4) := bel_trans HB3.out hb4
  have HO4 : Hid (RdP v2 t0 w4) := HO3.out.below hb4
  have HU4 : Hid (RdP u4 t0 w4) := ho4.rd
  clear ho4 hb4 HB3 HO3
  go_wp2_with fail
  refine (rPrint_any u4 t0 _ HU4.out (by omega) (by omega)).mono ?_
  rintro e w5 ⟨rfl, hb5⟩
  have HB5 : Hid (Below w.heap.size w w5) := bel_trans HB4.out hb5
  have HO5 : Hid (RdP v2 t0 w5) := HO4.out.below hb5
  clear hb5 HB4 HO4 HU4
  have HP : Hid (printR t0 = ([], 15) ∨ ∃ x, printR t0 = (x, 0) ∧ prts t0 = some x) := by
    show _ ∨ _
    unfold printR
    cases prts t0 with
    | none => exact .inl rfl
    | some x => exact .inr ⟨x, rfl, rfl⟩
  generalize printR t0 = pr at *
  obtain ⟨px, pe⟩ := pr
  dsimp only
  generalize hs : str px = s
  have HS : Hid (str px = s) := hs
  clear hs
  go_wp2_with fail
  refine (awake_any _ (HT.out.below HB5.out (Nat.le_refl _))).mono ?_
  rintro e w6 ⟨rfl, hb6⟩
  have HB6 : Hid (Below w.heap.size w w6) := bel_trans HB5.out hb6
  have HO6 : Hid (RdP v2 t0 w6) := HO5.out.below hb6
  clear hb6 HB5 HO5
  have hpe : (pe != pe) = false := by simp
  go_wp2_with fail
  refine (given_any v2 t0 _ HO6.out (by omega)).mono ?_
  rintro e w7 ⟨u7, rfl, ho7, hb7⟩
  have HB7 : Hid (Below w.heap.size w w7) := bel_trans HB6.out hb7
  have HO7 : Hid (RdP v2 t0 w7) := HO6.out.below hb7
  have HU7 : Hid (RdP u7 t0 w7) := ho7.rd
  have R7 : Hid (RdP v0 t0 w7) := HR.out.below HB7.out
  clear ho7 hb7 HB6 HO6
  go_wp2_with fail
  refine (alike_any v0 u7 t0 _ R7.out HU7.out (by omega)).mono ?_
  rintro e w8 ⟨rfl, n8, rfl⟩
  have HB8 : Hid (Below w.heap.size w (w7.drewN n8)) := below_drewN HB7.out _
  have HO8 : Hid (RdP v2 t0 (w7.drewN n8)) := HO7.out.below (below_drewN (Below.refl _ _) _)
  clear HB7 HO7 HU7 R7
  generalize w7.drewN n8 = w8 at *
  rcases HP.out with h | ⟨x, h, hx⟩
  · injection h with h1 h2
    subst h1 h2
    clear hpe
    go_wp2
    go_ret
    exact ⟨rfl, HB8.out⟩
  · injection h with h1 h2
    subst h1 h2
    have hxl := prts_len hx
    have HPar : Hid (paramsR s.data.toList = (t0, (s.size : Int), 0)) := (by rw [← HS.out, str_list, str_size]; exact paramsR_some (prm_prts t0 _ hx) : paramsR s.data.toList = (t0, (s.size : Int), 0))
    have hss : s.size ≤ 134217728 := by rw [← HS.out, str_size]; omega
    clear hpe hx
    go_wp2_with fail
    refine (Params_any s hss _ (HT.out.below HB8.out (Nat.le_refl _))).mono ?_
    rintro e w9 ⟨v9, rfl, ho9, hb9⟩
    rw [HPar.out] at ho9 ⊢
    have HB9 : Hid (Below w.heap.size w w9) := bel_trans HB8.out hb9
    have HO9 : Hid (RdP v2 t0 w9) := HO8.out.below hb9
    have R9 : Hid (RdP v9 t0 w9) := ho9.rd
    clear ho9 hb9 HB8 HO8
    go_wp2_with fail
    refine (given_any v2 t0 _ HO9.out (by omega)).mono ?_
    rintro e w10 ⟨u10, rfl, ho10, hb10⟩
    have HB10 : Hid (Below w.heap.size w w10) := bel_trans HB9.out hb10
    have HU10 : Hid (RdP u10 t0 w10) := ho10.rd
    have R10 : Hid (RdP v9 t0 w10) := R9.out.below hb10
    clear ho10 hb10 HB9 HO9 R9
    go_wp2_with fail
    refine (alike_any v9 u10 t0 _ R10.out HU10.out (by omega)).mono ?_
    rintro e w11 ⟨rfl, n11, rfl⟩
    go_wp2
    go_ret
    exact ⟨rfl, below_drewN HB10.out _⟩

end Go.Proofs.YthdepdgmlngafabDoor.octetPrintsUpto
