/-
  FieldLengths.
-/
import Derived.Test.YtojahhmdfbfnfabDoorFFm
set_option linter.unusedVariables false
set_option linter.unusedSimpArgs false
namespace Go.Proofs.YtojahhmdfbfnfabDoor
open Go.RowKit Go.Shelf
namespace Fd
open Oc Tg

set_option maxRecDepth 100000 in
set_option maxHeartbeats 2000000 in
theorem walk_FieldLengths (v : Value) (t : List Fl) (hs : bulkfields t ≤ 1048576) (old : Bool) (w : World) (hin : InF v t w) (hw : Env w) :
    Calls Tryd.prog 3 #[v, .bool old] w fun e w' => e = .returned (.bool true) ∧ Below w.heap.size w w' := by
  unfold bulkfields at hs
  have hlen := len_sumF t
  have HA : Hid (Calls _ _ _ _ _) := awake_any w hw
  have HE : Hid (Env w) := hw
  have HI : Hid (InF v t w) := hin
  have HR : Hid (RdF v t w) := hin.1
  have HH : Hid (∀ w, InF v t w → Calls Tryd.prog 10 #[v] w fun e w' => ∃ u f, e = .returned (.tuple #[u, f]) ∧ InF u t w' ∧ RdF f (t ++ spareF) w' ∧ Below w.heap.size w w') := fun w h => handed_any v t w h (by omega)
  have HPl : Hid (∀ w, RdF v t w → Calls Tryd.prog 11 #[v] w fun e w' => ∃ u, e = .returned u ∧ OwnF 76 w.heap.size u t w' ∧ Below w.heap.size w w') := fun w h => plain_any v t w h (by omega)
  have HWh : Hid (∀ f w, RdF f (t ++ spareF) w → RdF v t w → Calls Tryd.prog 19 #[f, v] w fun e w' => e = .returned (.bool true) ∧ Below w.heap.size w w') := fun f w h1 h2 => whole_any f v t w h1 h2 (by omega)
  have HL : Hid (∀ u w, RdF u t w → Calls Tryd.prog 12 #[u] w fun e w' => e = .returned (.tuple #[.int .i64 (lengthF t).1, .bool (lengthF t).2.1, .int .i64 (lengthF t).2.2]) ∧ Below w.heap.size w w') := fun u w h => Length_any u t hs w h
  have HrL : Hid (∀ u w, RdF u t w → Calls Tryd.prog 13 #[u] w fun e w' => e = .returned (.tuple #[.int .i64 (lengthF t).1, .bool (lengthF t).2.1, .int .i64 (lengthF t).2.2]) ∧ Below w.heap.size w w') := fun u w h => rLength_any u t hs w h
  have HC : Hid (∀ u w, RdF u t w → Tab w → Calls Tryd.prog 14 #[u] w fun e w' => ∃ x, e = .returned (.tuple #[x, .bool (codF t).2.1, .int .i64 (codF t).2.2]) ∧ OwnS w.heap.size x (codF t).1 w' ∧ Below w.heap.size w w') := fun u w h tb => Codings_any u t hs w h tb
  have HrC : Hid (∀ u w, RdF u t w → Calls Tryd.prog 15 #[u] w fun e w' => ∃ x, e = .returned (.tuple #[x, .bool (codF t).2.1, .int .i64 (codF t).2.2]) ∧ OwnS w.heap.size x (codF t).1 w' ∧ Below w.heap.size w w') := fun u w h => rCodings_any u t hs w h
  have HFr : Hid (∀ u w, RdF u t w → Tab w → Calls Tryd.prog 17 #[u, .bool old] w fun e w' => e = .returned (.tuple #[.agg #[.int .i64 (framingF t old).1, .int .i64 (framingF t old).2.1], .int .i64 (framingF t old).2.2]) ∧ Below w.heap.size w w') := fun u w h tb => Framing_any u t old hs w h tb
  have HrFr : Hid (∀ u w, RdF u t w → Calls Tryd.prog 18 #[u, .bool old] w fun e w' => e = .returned (.tuple #[.int .i64 (framingF t old).1, .int .i64 (framingF t old).2.1, .int .i64 (framingF t old).2.2]) ∧ Below w.heap.size w w') := fun u w h => rFraming_any u t old hs w h
  have hcl := cod_len hs
  obtain ⟨⟨a, c, rfl, _⟩, _⟩ := hin
  clear hw hs
  generalize (codF t).1 = cl at *
  generalize (codF t).2.1 = coded at *
  generalize (codF t).2.2 = ce at *
  generalize (lengthF t).1 = n at *
  generalize (lengthF t).2.1 = sized at *
  generalize (lengthF t).2.2 = le at *
  generalize (framingF t old).1 = f1 at *
  generalize (framingF t old).2.1 = f2 at *
  generalize (framingF t old).2.2 = f3 at *
  have e1 : (n != n) = false := by simp
  have e2 : (sized != sized) = false := by simp
  have e3 : (le != le) = false := by simp
  have e4 : (coded != coded) = false := by simp
  have e5 : (ce != ce) = false := by simp
  have e6 : (f1 == f1) = true := by simp
  have e7 : (f2 == f2) = true := by simp
  have e8 : (f3 == f3) = true := by simp
  go_enter Tryd.func3, Tryd.ntmps3
  go_wp2_with fail
  refine (HA.out).mono ?_
  rintro e w1 ⟨rfl, hb⟩
  have HB1 : Hid (Below w.heap.size w w1) := hb
  clear hb
  go_wp2_with fail
  refine (HH.out _ (HI.out.below HB1.out)).mono ?_
  rintro e w2 ⟨u, f, rfl, hu, hf, hb⟩
  have HB2 : Hid (Below w.heap.size w w2) := bel_trans HB1.out hb
  have U_2 : Hid (RdF u t w2) := hu.1
  have F_2 : Hid (RdF f (t ++ spareF) w2) := hf
  clear hb hu hf
  go_wp2_with fail
  refine (HPl.out _ (HR.out.below HB2.out)).mono ?_
  rintro e w3 ⟨m, rfl, hm, hb⟩
  have HB3 : Hid (Below w.heap.size w w3) := bel_trans HB2.out hb
  have U_3 : Hid (RdF u t w3) := U_2.out.below hb
  have F_3 : Hid (RdF f (t ++ spareF) w3) := F_2.out.below hb
  have M_3 : Hid (RdF m t w3) := hm.rd
  clear hb hm
  go_wp2_with fail
  refine (HL.out _ _ U_3.out).mono ?_
  rintro e w4 ⟨rfl, hb⟩
  have HB4 : Hid (Below w.heap.size w w4) := bel_trans HB3.out hb
  have U_4 : Hid (RdF u t w4) := U_3.out.below hb
  have F_4 : Hid (RdF f (t ++ spareF) w4) := F_3.out.below hb
  have M_4 : Hid (RdF m t w4) := M_3.out.below hb
  clear hb
  go_wp2_with fail
  refine (HrL.out _ _ M_4.out).mono ?_
  rintro e w5 ⟨rfl, hb⟩
  have HB5 : Hid (Below w.heap.size w w5) := bel_trans HB4.out hb
  have U_5 : Hid (RdF u t w5) := U_4.out.below hb
  have F_5 : Hid (RdF f (t ++ spareF) w5) := F_4.out.below hb
  have M_5 : Hid (RdF m t w5) := M_4.out.below hb
  clear hb
  go_wp2_with fail
  refine (HC.out _ _ U_5.out (HE.out.below HB5.out).1).mono ?_
  rintro e w6 ⟨x6, rfl, hx, hb⟩
  have HB6 : Hid (Below w.heap.size w w6) := bel_trans HB5.out hb
  have U_6 : Hid (RdF u t w6) := U_5.out.below hb
  have F_6 : Hid (RdF f (t ++ spareF) w6) := F_5.out.below hb
  have M_6 : Hid (RdF m t w6) := M_5.out.below hb
  have X_6 : Hid (RdS x6 cl w6) := hx.rd
  clear hb hx
  go_wp2_with fail
  refine (HrC.out _ _ M_6.out).mono ?_
  rintro e w7 ⟨x7, rfl, hx, hb⟩
  have HB7 : Hid (Below w.heap.size w w7) := bel_trans HB6.out hb
  have U_7 : Hid (RdF u t w7) := U_6.out.below hb
  have F_7 : Hid (RdF f (t ++ spareF) w7) := F_6.out.below hb
  have M_7 : Hid (RdF m t w7) := M_6.out.below hb
  have X_7 : Hid (RdS x6 cl w7) := X_6.out.below hb
  have Y_7 : Hid (RdS x7 cl w7) := hx.rd
  clear hb hx
  have HTx : Hid (Calls _ _ _ _ _) := texts_any x6 x7 cl w7 X_7.out Y_7.out (by omega)
  go_wp2_with fail
  refine (HTx.out).mono ?_
  rintro e w8 ⟨rfl, hb⟩
  have HB8 : Hid (Below w.heap.size w w8) := bel_trans HB7.out hb
  have U_8 : Hid (RdF u t w8) := U_7.out.below hb
  have F_8 : Hid (RdF f (t ++ spareF) w8) := F_7.out.below hb
  have M_8 : Hid (RdF m t w8) := M_7.out.below hb
  have X_8 : Hid (RdS x6 cl w8) := X_7.out.below hb
  have Y_8 : Hid (RdS x7 cl w8) := Y_7.out.below hb
  clear hb HTx
  go_wp2_with fail
  refine (HFr.out _ _ U_8.out (HE.out.below HB8.out).1).mono ?_
  rintro e w9 ⟨rfl, hb⟩
  have HB9 : Hid (Below w.heap.size w w9) := bel_trans HB8.out hb
  have U_9 : Hid (RdF u t w9) := U_8.out.below hb
  have F_9 : Hid (RdF f (t ++ spareF) w9) := F_8.out.below hb
  have M_9 : Hid (RdF m t w9) := M_8.out.below hb
  have X_9 : Hid (RdS x6 cl w9) := X_8.out.below hb
  have Y_9 : Hid (RdS x7 cl w9) := Y_8.out.below hb
  clear hb
  obtain ⟨w10, hW⟩ : ∃ W, W = w9.alloc (.cells #[.int .i64 f1, .int .i64 f2] 40) := ⟨_, rfl⟩
  have hz : Hid (w10.heap.size = w9.heap.size + 1) := by show _ = _; rw [hW]; simp
  have R1 : w10.heap[w9.heap.size]? = some (.cells #[.int .i64 f1, .int .i64 f2] 40 (0, 0)) := by rw [hW]; exact heap_alloc_new w9 _
  have HR1 : Hid (_) := R1
  have hb : Below w9.heap.size w9 w10 := by rw [hW]; exact (Below.refl _ w9).alloc (Nat.le_refl _) _
  have HB10 : Hid (Below w.heap.size w w10) := bel_trans HB9.out hb
  have U_10 : Hid (RdF u t w10) := U_9.out.below hb
  have F_10 : Hid (RdF f (t ++ spareF) w10) := F_9.out.below hb
  have M_10 : Hid (RdF m t w10) := M_9.out.below hb
  have X_10 : Hid (RdS x6 cl w10) := X_9.out.below hb
  have Y_10 : Hid (RdS x7 cl w10) := Y_9.out.below hb
  clear R1 hb
  go_wp2_with fail
  rw [← hW]
  clear hW
  refine (HrFr.out _ _ M_10.out).mono ?_
  rintro e w11 ⟨rfl, hb⟩
  have HB11 : Hid (Below w.heap.size w w11) := bel_trans HB10.out hb
  have U_11 : Hid (RdF u t w11) := U_10.out.below hb
  have F_11 : Hid (RdF f (t ++ spareF) w11) := F_10.out.below hb
  have M_11 : Hid (RdF m t w11) := M_10.out.below hb
  have X_11 : Hid (RdS x6 cl w11) := X_10.out.below hb
  have Y_11 : Hid (RdS x7 cl w11) := Y_10.out.below hb
  have R1 := (hb.block _ (show w9.heap.size < _ by have := hz.out; omega)).trans HR1.out
  have c0 := Lib.cell_of_heap R1 0
  have c1 := Lib.cell_of_heap R1 1
  simp at c0 c1
  clear R1 hb
  go_wp2_with fail
  refine (HWh.out _ _ F_11.out (HR.out.below HB11.out)).mono ?_
  rintro e w12 ⟨rfl, hb⟩
  have HB12 : Hid (Below w.heap.size w w12) := bel_trans HB11.out hb
  have U_12 : Hid (RdF u t w12) := U_11.out.below hb
  have F_12 : Hid (RdF f (t ++ spareF) w12) := F_11.out.below hb
  have M_12 : Hid (RdF m t w12) := M_11.out.below hb
  have X_12 : Hid (RdS x6 cl w12) := X_11.out.below hb
  have Y_12 : Hid (RdS x7 cl w12) := Y_11.out.below hb
  clear hb
  go_wp2
  go_ret
  exact ⟨rfl, HB12.out⟩

end Fd
end Go.Proofs.YtojahhmdfbfnfabDoor
