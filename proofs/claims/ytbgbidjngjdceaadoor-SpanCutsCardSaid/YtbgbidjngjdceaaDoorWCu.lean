/-
  SpanCuts.
-/
import Derived.Test.YtbgbidjngjdceaaDoorSnX
import Derived.Test.YtbgbidjngjdceaaDoorSnW
import Derived.Test.YtbgbidjngjdceaaDoorOpN
set_option linter.unusedVariables false
set_option linter.unusedSimpArgs false
namespace Go.Proofs.YtbgbidjngjdceaaDoor
open Go.RowKit Go.Shelf
open Go.Sort (grow alloc_eq_grow grow_grow grow_empty)
namespace Sn
open Oc Tg Ac

set_option maxRecDepth 100000 in
set_option maxHeartbeats 1000000 in
theorem walk_SpanCuts (s : ByteArray) (hs : s.size ≤ maxLen) (a b : Int) (ha : (Lit.int .i64 a).wf = true) (hb : (Lit.int .i64 b).wf = true) (w : World) (hw : ML w ∧ Pow w) :
    Calls Tryd.prog 7 #[.string s, .agg #[.int .i64 a, .int .i64 b]] w fun e w' => e = .returned (.bool true) ∧ Below w.heap.size w w' := by
  obtain ⟨a0, a1⟩ := i64_of_wf ha
  obtain ⟨b0, b1⟩ := i64_of_wf hb
  have hs' : s.size ≤ 9223372036854775807 := hs
  have HA : Hid (∀ W, Grew w W → Calls _ _ _ W _) := fun W hb => awake_any W (hw.1.below hb.below)
  have HC : Hid (∀ W, Calls _ _ _ W _) := fun W => Cut_gr s hs' a b W
  have HRC : Hid (∀ W, Calls _ _ _ W _) := fun W => rCut_gr s hs' a b W
  have HT : Hid (∀ W, Grew w W → Calls _ _ _ W _) := fun W hb => Tell_gr a b s.size a0 a1 b0 b1 (by omega) (by omega) W (Oc.Pow.below hw.2 hb.below (Nat.le_refl _))
  have HRT : Hid (∀ W, Calls _ _ _ W _) := fun W => rTell_gr a b s.size a0 a1 b0 b1 (by omega) (by omega) W
  clear hw ha hb hs
  generalize cutR s.data.toList (a, b) = CR at *
  generalize telR (a, b) s.size = TR at *
  obtain ⟨cl, ce⟩ := CR
  obtain ⟨tl, te⟩ := TR
  dsimp only at *
  generalize str cl = C at *
  generalize str tl = T at *
  obtain ⟨w1, hw1⟩ : ∃ w1, w1 = (w.alloc (.cells #[.int .i64 a, .int .i64 b] 44)).alloc (.cells #[.int .i64 a, .int .i64 b] 45) := ⟨_, rfl⟩
  have HG1 : Hid (Grew w w1) := (by rw [hw1]; exact ((Grew.refl w).alloc _).alloc _ : Grew _ _)
  have HP1 : Hid (PB 44 w1 w.heap.size (a, b)) := (by rw [hw1]; exact (PB.new 44 w (a, b)).alloc _ : PB _ _ _ _)
  have HP2 : Hid (PB 45 w1 (w.heap.size + 1) (a, b)) := (by rw [hw1]; have h := PB.new 45 (w.alloc (.cells #[.int .i64 a, .int .i64 b] 44)) (a, b); simpa using h : PB _ _ _ _)
  have q0 := HP1.out.c0
  have q1 := HP1.out.c1
  go_enter Tryd.func7, Tryd.ntmps7
  go_wp2_with fail
  rw [← hw1]
  clear hw1
  generalize w.heap.size + 1 = g2 at *
  generalize hg1 : w.heap.size = g1 at *
  refine (HC.out _).mono ?_
  rintro e w2 ⟨rfl, hg⟩
  have HG2 : Hid (Grew w1 w2) := hg
  clear hg q0 q1
  have q0 := (HP2.out.below HG2.out.below).c0
  have q1 := (HP2.out.below HG2.out.below).c1
  go_wp2_with fail
  refine (HRC.out _).mono ?_
  rintro e w3 ⟨rfl, hg⟩
  have HG3 : Hid (Grew w1 w3) := HG2.out.trans hg
  clear hg q0 q1
  have q0 := (HP1.out.below HG3.out.below).c0
  have q1 := (HP1.out.below HG3.out.below).c1
  go_wp2_with fail
  refine (HT.out _ (HG1.out.trans HG3.out)).mono ?_
  rintro e w4 ⟨rfl, hg⟩
  have HG4 : Hid (Grew w1 w4) := HG3.out.trans hg
  clear hg q0 q1
  have q0 := (HP2.out.below HG4.out.below).c0
  have q1 := (HP2.out.below HG4.out.below).c1
  go_wp2_with fail
  refine (HRT.out _).mono ?_
  rintro e w5 ⟨rfl, hg⟩
  have HG5 : Hid (Grew w w5) := HG1.out.trans (HG4.out.trans hg)
  clear hg q0 q1
  go_wp2_with fail
  refine (HA.out _ HG5.out).mono ?_
  rintro e w6 ⟨rfl, hb6⟩
  have HB6 : Hid (Below w.heap.size w w6) := bel_trans HG5.out.below hb6
  clear hb6
  go_wp2
  go_ret
  rw [← hg1]
  exact ⟨ret_bool (by simp), HB6.out⟩

end Sn
end Go.Proofs.YtbgbidjngjdceaaDoor
