/-
  FieldTurns.
-/
import Derived.Test.YtggmidkmpgjnoaaDoorFTs
import Derived.Test.YtggmidkmpgjnoaaDoorMgM
set_option linter.unusedVariables false
set_option linter.unusedSimpArgs false
namespace Go.Proofs.YtggmidkmpgjnoaaDoor
open Go.RowKit Go.Shelf
namespace Fd
open Oc Tg

theorem addF_len (t : List Fl) (p : Fl) : (addF t p).1.length ≤ t.length + 1 := by
  unfold addF
  split
  · split <;> simp
  · simp
theorem setF_len (t : List Fl) (p : Fl) : (setF t p).1.length ≤ t.length + 1 := by
  rw [setF_eq]
  have h : (rsetL p t).length ≤ t.length + 1 := by
    unfold rsetL
    cases hf : t.findIdx? (alike p.1) with
    | none => rw [rset_none hf]; simp
    | some k =>
      rw [rset_some hf]
      obtain ⟨_, hk⟩ := filter_front p.1 t k hf
      have := List.length_filter_le (unlike p.1) (t.drop (k + 1))
      simp only [if_true]
      rw [setL_is p t k hf, List.length_append, List.length_cons, List.length_take]
      rw [List.length_drop] at this
      omega
  split
  · split
    · simp
    · exact h
  · simp

set_option maxRecDepth 100000 in
set_option maxHeartbeats 2000000 in
theorem walk_FieldTurns (v : Value) (t : List Fl) (hs : bulkfields t ≤ 1048576) (a1 : ByteArray) (b1 : a1.size ≤ 1048576) (a2 : ByteArray) (b2 : a2.size ≤ 1048576) (w : World) (hin : InF v t w) (hw : Env w) :
    Calls Tryd.prog 3 #[v, .string a1, .string a2] w fun e w' => e = .returned (.bool true) ∧ Below w.heap.size w w' := by
  unfold bulkfields at hs
  have hlen := len_sumF t
  have hM : Each 1048576 t := (each_sumF t).mono hs
  obtain ⟨n, rfl⟩ : ∃ n, a1 = str n := ⟨_, (str_self a1).symm⟩
  obtain ⟨x, rfl⟩ : ∃ x, a2 = str x := ⟨_, (str_self a2).symm⟩
  rw [str_size] at b1 b2
  have HA : Hid (Calls _ _ _ _ _) := awake_any w hw
  have HE : Hid (Env w) := hw
  have HI : Hid (InF v t w) := hin
  have HR : Hid (RdF v t w) := hin.1
  have HH : Hid (∀ w, InF v t w → Calls Tryd.prog 6 #[v] w fun e w' => ∃ u f, e = .returned (.tuple #[u, f]) ∧ InF u t w' ∧ RdF f (t ++ spareF) w' ∧ Below w.heap.size w w') := fun w h => handed_any v t w h (by omega)
  have HPl : Hid (∀ w, RdF v t w → Calls Tryd.prog 7 #[v] w fun e w' => ∃ u, e = .returned u ∧ OwnF 51 w.heap.size u t w' ∧ Below w.heap.size w w') := fun w h => plain_any v t w h (by omega)
  have HWh : Hid (∀ f w, RdF f (t ++ spareF) w → RdF v t w → Calls Tryd.prog 11 #[f, v] w fun e w' => e = .returned (.bool true) ∧ Below w.heap.size w w') := fun f w h1 h2 => whole_any f v t w h1 h2 (by omega)
  have HAd : Hid (∀ u w, RdF u t w → Tab w → Calls Tryd.prog 8 #[u, .string (str n), .string (str x)] w fun e w' => ∃ y, e = .returned (.tuple #[y, .int .i64 (addF t (n, x)).2]) ∧ OwnF 46 w.heap.size y (addF t (n, x)).1 w' ∧ Below w.heap.size w w') := fun u w h tb => Add_any u t n x b1 b2 hM (by omega) w h tb
  have HrAd : Hid (∀ u w, InF u t w → Calls Tryd.prog 9 #[u, .string (str n), .string (str x)] w fun e w' => ∃ y, e = .returned (.tuple #[y, .int .i64 (addF t (n, x)).2]) ∧ OwnF 51 w.heap.size y (addF t (n, x)).1 w' ∧ Below w.heap.size w w') := fun u w h => rAdd_any u t n x b1 b2 (by omega) w h
  have HSe : Hid (∀ u w, RdF u t w → Tab w → Calls Tryd.prog 12 #[u, .string (str n), .string (str x)] w fun e w' => ∃ y, e = .returned (.tuple #[y, .int .i64 (setF t (n, x)).2]) ∧ OwnF 46 w.heap.size y (setF t (n, x)).1 w' ∧ Below w.heap.size w w') := fun u w h tb => Set_any u t n x b1 b2 hM (by omega) w h tb
  have HrSe : Hid (∀ u w, RdF u t w → Calls Tryd.prog 13 #[u, .string (str n), .string (str x)] w fun e w' => ∃ y, e = .returned (.tuple #[y, .int .i64 (setF t (n, x)).2]) ∧ OwnF 51 w.heap.size y (setF t (n, x)).1 w' ∧ Below w.heap.size w w') := fun u w h => rSet_any u t n x b1 b2 hM (by omega) w h
  have HRe : Hid (∀ u w, RdF u t w → Calls Tryd.prog 14 #[u, .string (str n)] w fun e w' => ∃ y, e = .returned y ∧ OwnF 46 w.heap.size y (t.filter (unlike n)) w' ∧ Below w.heap.size w w') := fun u w h => Remove_any u t n b1 hM (by omega) w h
  have HrRe : Hid (∀ u w, RdF u t w → Calls Tryd.prog 15 #[u, .string (str n)] w fun e w' => ∃ y, e = .returned y ∧ OwnF 51 w.heap.size y (t.filter (unlike n)) w' ∧ Below w.heap.size w w') := fun u w h => rRemove_any u t n b1 hM (by omega) w h
  have l1 := addF_len t (n, x)
  have l2 := setF_len t (n, x)
  have l3 := List.length_filter_le (unlike n) t
  have hl1 : (addF t (n, x)).1.length ≤ 4294967296 := by omega
  have hl2 : (setF t (n, x)).1.length ≤ 4294967296 := by omega
  have hl3 : (t.filter (unlike n)).length ≤ 4294967296 := by omega
  obtain ⟨⟨a, c, rfl, _⟩, _⟩ := hin
  clear hw hs hlen hM b1 b2 l1 l2 l3
  generalize t.filter (unlike n) = R at *
  generalize addF t (n, x) = AF at *
  obtain ⟨A1, zA⟩ := AF
  generalize setF t (n, x) = SF at *
  obtain ⟨S1, zS⟩ := SF
  dsimp only at *
  generalize str n = N at *
  generalize str x = X at *
  have e1 : (zA != zA) = false := by simp
  have e2 : (zS != zS) = false := by simp
  go_enter Tryd.func3, Tryd.ntmps3
  go_wp2_with fail
  refine (HA.out).mono ?_
  rintro e w1 ⟨rfl, hb⟩
  have HB1 : Hid (Below w.heap.size w w1) := hb
  clear hb
  go_wp2_with fail
  refine (HH.out _ (HI.out.below HB1.out)).mono ?_
  rintro e w2 ⟨u, f, rfl, hh, hf, hb⟩
  have HB2 : Hid (Below w.heap.size w w2) := bel_trans HB1.out hb
  have U_2 : Hid (RdF u t w2) := hh.1
  have F_2 : Hid (RdF f (t ++ spareF) w2) := hf
  clear hb hh hf
  go_wp2_with fail
  refine (HPl.out _ (HR.out.below HB2.out)).mono ?_
  rintro e w3 ⟨m, rfl, hh, hb⟩
  have HB3 : Hid (Below w.heap.size w w3) := bel_trans HB2.out hb
  have U_3 : Hid (RdF u t w3) := U_2.out.below hb
  have F_3 : Hid (RdF f (t ++ spareF) w3) := F_2.out.below hb
  have M_3 : Hid (InF m t w3) := hh.inF
  clear hb hh
  go_wp2_with fail
  refine (HAd.out _ _ U_3.out (HE.out.below HB3.out).1).mono ?_
  rintro e w4 ⟨y1, rfl, hh, hb⟩
  have HB4 : Hid (Below w.heap.size w w4) := bel_trans HB3.out hb
  have U_4 : Hid (RdF u t w4) := U_3.out.below hb
  have F_4 : Hid (RdF f (t ++ spareF) w4) := F_3.out.below hb
  have M_4 : Hid (InF m t w4) := M_3.out.below hb
  have Y1_4 : Hid (RdF y1 A1 w4) := hh.rd
  clear hb hh
  go_wp2_with fail
  refine (HrAd.out _ _ M_4.out).mono ?_
  rintro e w5 ⟨z1, rfl, hh, hb⟩
  have HB5 : Hid (Below w.heap.size w w5) := bel_trans HB4.out hb
  have U_5 : Hid (RdF u t w5) := U_4.out.below hb
  have F_5 : Hid (RdF f (t ++ spareF) w5) := F_4.out.below hb
  have M_5 : Hid (InF m t w5) := M_4.out.below hb
  have Y1_5 : Hid (RdF y1 A1 w5) := Y1_4.out.below hb
  have Z1_5 : Hid (RdF z1 A1 w5) := hh.rd
  clear hb hh
  have HSm1 : Hid (Calls _ _ _ _ _) := same_any y1 z1 A1 w5 Y1_5.out Z1_5.out hl1
  go_wp2_with fail
  refine (HSm1.out).mono ?_
  rintro e w6 ⟨rfl, hb⟩
  have HB6 : Hid (Below w.heap.size w w6) := bel_trans HB5.out hb
  have U_6 : Hid (RdF u t w6) := U_5.out.below hb
  have F_6 : Hid (RdF f (t ++ spareF) w6) := F_5.out.below hb
  have M_6 : Hid (InF m t w6) := M_5.out.below hb
  clear hb
  go_wp2_with fail
  refine (HWh.out _ _ F_6.out (HR.out.below HB6.out)).mono ?_
  rintro e w7 ⟨rfl, hb⟩
  have HB7 : Hid (Below w.heap.size w w7) := bel_trans HB6.out hb
  have U_7 : Hid (RdF u t w7) := U_6.out.below hb
  have F_7 : Hid (RdF f (t ++ spareF) w7) := F_6.out.below hb
  have M_7 : Hid (InF m t w7) := M_6.out.below hb
  clear hb
  go_wp2_with fail
  refine (HSe.out _ _ U_7.out (HE.out.below HB7.out).1).mono ?_
  rintro e w8 ⟨y2, rfl, hh, hb⟩
  have HB8 : Hid (Below w.heap.size w w8) := bel_trans HB7.out hb
  have U_8 : Hid (RdF u t w8) := U_7.out.below hb
  have F_8 : Hid (RdF f (t ++ spareF) w8) := F_7.out.below hb
  have M_8 : Hid (InF m t w8) := M_7.out.below hb
  have Y2_8 : Hid (RdF y2 S1 w8) := hh.rd
  clear hb hh
  go_wp2_with fail
  refine (HrSe.out _ _ M_8.out.1).mono ?_
  rintro e w9 ⟨z2, rfl, hh, hb⟩
  have HB9 : Hid (Below w.heap.size w w9) := bel_trans HB8.out hb
  have U_9 : Hid (RdF u t w9) := U_8.out.below hb
  have F_9 : Hid (RdF f (t ++ spareF) w9) := F_8.out.below hb
  have M_9 : Hid (InF m t w9) := M_8.out.below hb
  have Y2_9 : Hid (RdF y2 S1 w9) := Y2_8.out.below hb
  have Z2_9 : Hid (RdF z2 S1 w9) := hh.rd
  clear hb hh
  have HSm2 : Hid (Calls _ _ _ _ _) := same_any y2 z2 S1 w9 Y2_9.out Z2_9.out hl2
  go_wp2_with fail
  refine (HSm2.out).mono ?_
  rintro e w10 ⟨rfl, hb⟩
  have HB10 : Hid (Below w.heap.size w w10) := bel_trans HB9.out hb
  have U_10 : Hid (RdF u t w10) := U_9.out.below hb
  have F_10 : Hid (RdF f (t ++ spareF) w10) := F_9.out.below hb
  have M_10 : Hid (InF m t w10) := M_9.out.below hb
  clear hb
  go_wp2_with fail
  refine (HWh.out _ _ F_10.out (HR.out.below HB10.out)).mono ?_
  rintro e w11 ⟨rfl, hb⟩
  have HB11 : Hid (Below w.heap.size w w11) := bel_trans HB10.out hb
  have U_11 : Hid (RdF u t w11) := U_10.out.below hb
  have F_11 : Hid (RdF f (t ++ spareF) w11) := F_10.out.below hb
  have M_11 : Hid (InF m t w11) := M_10.out.below hb
  clear hb
  go_wp2_with fail
  refine (HRe.out _ _ U_11.out).mono ?_
  rintro e w12 ⟨y3, rfl, hh, hb⟩
  have HB12 : Hid (Below w.heap.size w w12) := bel_trans HB11.out hb
  have U_12 : Hid (RdF u t w12) := U_11.out.below hb
  have F_12 : Hid (RdF f (t ++ spareF) w12) := F_11.out.below hb
  have M_12 : Hid (InF m t w12) := M_11.out.below hb
  have Y3_12 : Hid (RdF y3 R w12) := hh.rd
  clear hb hh
  go_wp2_with fail
  refine (HrRe.out _ _ M_12.out.1).mono ?_
  rintro e w13 ⟨z3, rfl, hh, hb⟩
  have HB13 : Hid (Below w.heap.size w w13) := bel_trans HB12.out hb
  have U_13 : Hid (RdF u t w13) := U_12.out.below hb
  have F_13 : Hid (RdF f (t ++ spareF) w13) := F_12.out.below hb
  have M_13 : Hid (InF m t w13) := M_12.out.below hb
  have Y3_13 : Hid (RdF y3 R w13) := Y3_12.out.below hb
  have Z3_13 : Hid (RdF z3 R w13) := hh.rd
  clear hb hh
  have HSm3 : Hid (Calls _ _ _ _ _) := same_any y3 z3 R w13 Y3_13.out Z3_13.out hl3
  go_wp2_with fail
  refine (HSm3.out).mono ?_
  rintro e w14 ⟨rfl, hb⟩
  have HB14 : Hid (Below w.heap.size w w14) := bel_trans HB13.out hb
  have U_14 : Hid (RdF u t w14) := U_13.out.below hb
  have F_14 : Hid (RdF f (t ++ spareF) w14) := F_13.out.below hb
  have M_14 : Hid (InF m t w14) := M_13.out.below hb
  clear hb
  go_wp2_with fail
  refine (HWh.out _ _ F_14.out (HR.out.below HB14.out)).mono ?_
  rintro e w15 ⟨rfl, hb⟩
  have HB15 : Hid (Below w.heap.size w w15) := bel_trans HB14.out hb
  have U_15 : Hid (RdF u t w15) := U_14.out.below hb
  have F_15 : Hid (RdF f (t ++ spareF) w15) := F_14.out.below hb
  have M_15 : Hid (InF m t w15) := M_14.out.below hb
  clear hb
  go_wp2
  go_ret
  exact ⟨rfl, HB15.out⟩

end Fd
end Go.Proofs.YtggmidkmpgjnoaaDoor
