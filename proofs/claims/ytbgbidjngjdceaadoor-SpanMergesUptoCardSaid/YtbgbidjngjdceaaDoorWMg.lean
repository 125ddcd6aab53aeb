/-
  SpanMerges.
-/
import Derived.Test.YtbgbidjngjdceaaDoorMgM
import Derived.Test.YtbgbidjngjdceaaDoorMgJ
import Derived.Test.YtbgbidjngjdceaaDoorMgT
import Derived.Test.YtbgbidjngjdceaaDoorMgG
import Derived.Test.YtbgbidjngjdceaaDoorSnY
import Derived.Test.YtbgbidjngjdceaaDoorOpN
set_option linter.unusedVariables false
set_option linter.unusedSimpArgs false
namespace Go.Proofs.YtbgbidjngjdceaaDoor
open Go.RowKit
namespace Sn
open Oc Tg Ac

set_option maxRecDepth 100000 in
set_option maxHeartbeats 4000000 in
theorem walk_SpanMerges (v : Value) (t : List Sp) (ht : t.length ≤ 1048576) (w : World) (hrd : RdN v t w) (hw : ML w) :
    Calls Tryd.prog 5 #[v] w fun e w' => e = .returned (.bool true) ∧ Below w.heap.size w w' := by
  have HA : Hid (∀ W, Below w.heap.size w W → Calls _ _ _ W _) := fun W hb => awake_any W (hw.below hb)
  have HS : Hid (Calls _ _ _ w _) := spans_any v t w hrd (by omega)
  have HR : Hid (RdN v t w) := hrd
  clear hw hrd
  have neT : (totL t != totL t) = false := by simp
  go_enter Tryd.func5, Tryd.ntmps5
  go_wp2_with fail
  refine HS.out.mono ?_
  rintro e w1 ⟨u, rfl, hou, hb1⟩
  have HU1 : Hid (RdN u t w1) := hou.rd
  have HB1 : Hid (Below w.heap.size w w1) := hb1
  have HV1 : Hid (RdN v t w1) := HR.out.below hb1
  have HSm : Hid (Calls _ _ _ w1 _) := small_any v t w1 HV1.out (by omega)
  clear hou hb1
  go_wp2_with fail
  refine HSm.out.mono ?_
  rintro e w2 ⟨he, hb2⟩
  have HU2 : Hid (RdN u t w2) := HU1.out.below hb2
  have HV2 : Hid (RdN v t w2) := HV1.out.below hb2
  have HB2 : Hid (Below w.heap.size w w2) := bel_trans HB1.out hb2
  clear hb2 HU1 HV1 HB1
  rcases he with rfl | rfl
  · have HT : Hid (Calls _ _ _ w2 _) := Total_any v t w2 HV2.out (by omega)
    go_wp2_with fail
    refine HT.out.mono ?_
    rintro e w3 ⟨rfl, hb3⟩
    have HU3 : Hid (RdN u t w3) := HU2.out.below hb3
    have HV3 : Hid (RdN v t w3) := HV2.out.below hb3
    have HB3 : Hid (Below w.heap.size w w3) := bel_trans HB2.out hb3
    have HT4 : Hid (Calls _ _ _ w3 _) := rTotal_any u t w3 HU3.out (by omega)
    clear hb3
    go_wp2_with fail
    refine HT4.out.mono ?_
    rintro e w4 ⟨rfl, hb4⟩
    have HU4 : Hid (RdN u t w4) := HU3.out.below hb4
    have HV4 : Hid (RdN v t w4) := HV3.out.below hb4
    have HB4 : Hid (Below w.heap.size w w4) := bel_trans HB3.out hb4
    clear hb4 HU3 HV3 HB3 HU2 HV2 HB2
    go_wp2_with fail
    refine (HA.out _ HB4.out).mono ?_
    rintro e w5 ⟨rfl, hb5⟩
    have HU5 : Hid (RdN u t w5) := HU4.out.below hb5
    have HV5 : Hid (RdN v t w5) := HV4.out.below hb5
    have HB5 : Hid (Below w.heap.size w w5) := bel_trans HB4.out hb5
    have HM5 : Hid (Calls _ _ _ w5 _) := Merge_any v t ht w5 HV5.out
    clear hb5
    go_wp2_with fail
    refine HM5.out.mono ?_
    rintro e w6 ⟨m1v, m1, rfl, hr6, hm6, hb6⟩
    have HU6 : Hid (RdN u t w6) := HU5.out.below hb6
    have HV6 : Hid (RdN v t w6) := HV5.out.below hb6
    have HB6 : Hid (Below w.heap.size w w6) := bel_trans HB5.out hb6
    have HR6 : Hid (RdN m1v m1 w6) := hr6
    have HM6 : Hid (Calls _ _ _ w6 _) := rMerge_any u t w6 HU6.out (by omega)
    have HO6 : Hid (MrgOf t m1) := hm6
    clear hb6 hr6 hm6
    go_wp2_with fail
    refine HM6.out.mono ?_
    rintro e w7 ⟨m2v, m2, rfl, hr7, hm7, hb7⟩
    have HU7 : Hid (RdN u t w7) := HU6.out.below hb7
    have HV7 : Hid (RdN v t w7) := HV6.out.below hb7
    have HB7 : Hid (Below w.heap.size w w7) := bel_trans HB6.out hb7
    have HR7 : Hid (RdN m1v m1 w7) := HR6.out.below hb7
    have e12 : m2 = m1 := Norm.one hm7.1 HO6.out.1 (fun p => (hm7.2.1 p).trans (HO6.out.2.1 p).symm)
    subst e12
    have HQ7 : Hid (RdN m2v m2 w7) := hr7.rd
    have hl7 : m2.length ≤ 4294967296 := by have := hm7.2.2; omega
    have HS7 : Hid (Calls _ _ _ w7 _) := same_any m1v m2v m2 w7 HR7.out HQ7.out hl7
    clear hb7 hr7 hm7
    go_wp2_with fail
    refine HS7.out.mono ?_
    rintro e w8 ⟨rfl, hb8⟩
    have HU8 : Hid (RdN u t w8) := HU7.out.below hb8
    have HV8 : Hid (RdN v t w8) := HV7.out.below hb8
    have HB8 : Hid (Below w.heap.size w w8) := bel_trans HB7.out hb8
    have HS8 : Hid (Calls _ _ _ w8 _) := same_any v u t w8 HV8.out HU8.out (by omega)
    clear hb8
    go_wp2_with fail
    refine HS8.out.mono ?_
    rintro e w9 ⟨rfl, hb9⟩
    have HB9 : Hid (Below w.heap.size w w9) := bel_trans HB8.out hb9
    clear hb9
    go_wp2
    go_ret
    exact ⟨rfl, HB9.out⟩
  · have HU4 := HU2
    have HV4 := HV2
    have HB4 := HB2
    clear HU2 HV2 HB2
    generalize w2 = w4 at *
    go_wp2_with fail
    refine (HA.out _ HB4.out).mono ?_
    rintro e w5 ⟨rfl, hb5⟩
    have HU5 : Hid (RdN u t w5) := HU4.out.below hb5
    have HV5 : Hid (RdN v t w5) := HV4.out.below hb5
    have HB5 : Hid (Below w.heap.size w w5) := bel_trans HB4.out hb5
    have HM5 : Hid (Calls _ _ _ w5 _) := Merge_any v t ht w5 HV5.out
    clear hb5
    go_wp2_with fail
    refine HM5.out.mono ?_
    rintro e w6 ⟨m1v, m1, rfl, hr6, hm6, hb6⟩
    have HU6 : Hid (RdN u t w6) := HU5.out.below hb6
    have HV6 : Hid (RdN v t w6) := HV5.out.below hb6
    have HB6 : Hid (Below w.heap.size w w6) := bel_trans HB5.out hb6
    have HR6 : Hid (RdN m1v m1 w6) := hr6
    have HM6 : Hid (Calls _ _ _ w6 _) := rMerge_any u t w6 HU6.out (by omega)
    have HO6 : Hid (MrgOf t m1) := hm6
    clear hb6 hr6 hm6
    go_wp2_with fail
    refine HM6.out.mono ?_
    rintro e w7 ⟨m2v, m2, rfl, hr7, hm7, hb7⟩
    have HU7 : Hid (RdN u t w7) := HU6.out.below hb7
    have HV7 : Hid (RdN v t w7) := HV6.out.below hb7
    have HB7 : Hid (Below w.heap.size w w7) := bel_trans HB6.out hb7
    have HR7 : Hid (RdN m1v m1 w7) := HR6.out.below hb7
    have e12 : m2 = m1 := Norm.one hm7.1 HO6.out.1 (fun p => (hm7.2.1 p).trans (HO6.out.2.1 p).symm)
    subst e12
    have HQ7 : Hid (RdN m2v m2 w7) := hr7.rd
    have hl7 : m2.length ≤ 4294967296 := by have := hm7.2.2; omega
    have HS7 : Hid (Calls _ _ _ w7 _) := same_any m1v m2v m2 w7 HR7.out HQ7.out hl7
    clear hb7 hr7 hm7
    go_wp2_with fail
    refine HS7.out.mono ?_
    rintro e w8 ⟨rfl, hb8⟩
    have HU8 : Hid (RdN u t w8) := HU7.out.below hb8
    have HV8 : Hid (RdN v t w8) := HV7.out.below hb8
    have HB8 : Hid (Below w.heap.size w w8) := bel_trans HB7.out hb8
    have HS8 : Hid (Calls _ _ _ w8 _) := same_any v u t w8 HV8.out HU8.out (by omega)
    clear hb8
    go_wp2_with fail
    refine HS8.out.mono ?_
    rintro e w9 ⟨rfl, hb9⟩
    have HB9 : Hid (Below w.heap.size w w9) := bel_trans HB8.out hb9
    clear hb9
    go_wp2
    go_ret
    exact ⟨rfl, HB9.out⟩

end Sn
end Go.Proofs.YtbgbidjngjdceaaDoor
