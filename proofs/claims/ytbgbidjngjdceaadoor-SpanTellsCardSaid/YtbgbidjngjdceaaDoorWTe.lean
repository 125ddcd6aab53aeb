/-
  SpanTells.
-/
import Derived.Test.YtbgbidjngjdceaaDoorSnY
import Derived.Test.YtbgbidjngjdceaaDoorSnW
import Derived.Test.YtbgbidjngjdceaaDoorSnL
import Derived.Test.YtbgbidjngjdceaaDoorSnZ
import Derived.Test.YtbgbidjngjdceaaDoorOpN
set_option linter.unusedVariables false
set_option linter.unusedSimpArgs false
namespace Go.Proofs.YtbgbidjngjdceaaDoor
open Go.RowKit Go.Shelf
open Go.Sort (grow alloc_eq_grow grow_grow grow_empty)
namespace Sn
open Oc Tg Ac

theorem neN (a b c d : Int) (w : World) : (binOp .neq 44 (.agg #[.int .i64 a, .int .i64 b]) (.agg #[.int .i64 c, .int .i64 d])).run Tryd.prog w = .ok (.bool (!(a == c && b == d))) w := by
  have u3 := Tryd.underlying3
  have a3 := Tryd.isAgg3
  have z3 := Tryd.sizeOf3
  have hS : Tryd.prog.underlying 44 = some (.struct (Tryd.prog.fieldsOf 44)) := by kernel_rfl
  have hp : Tryd.prog.stoodInHeld 44 = false := by kernel_rfl
  rw [run_neq_struct, show (10000 : Nat) = 9999 + 1 from rfl, run_equalIn_agg w 9999 44 _ _ hS hp]
  simp only [Program.fieldsOf, Tryd.underlying44]
  go_simp
  by_cases h1 : a = c <;> by_cases h2 : b = d <;> simp [h1, h2]

theorem tel_len (a b size : Int) (a0 : -9223372036854775808 ≤ a) (a1 : a ≤ 9223372036854775807) (b1 : b ≤ 9223372036854775807) (s0 : -9223372036854775808 ≤ size) (s1 : size ≤ 9223372036854775807) : (telR (a, b) size).1.length ≤ 100 := by
  unfold telR
  split
  · rename_i h
    obtain ⟨e0, e1, e2⟩ := isSp_t h
    have h1 := extR_len (a, b) a0 a1 (by show -9223372036854775808 < b; omega) b1
    have h2 := Lib.itoa_length_le size s0 s1
    simp
    omega
  · simp
theorem non_len (size : Int) (s0 : -9223372036854775808 ≤ size) (s1 : size ≤ 9223372036854775807) : (nonR size).1.length ≤ 100 := by
  unfold nonR
  split
  · simp
  · have h2 := Lib.itoa_length_le size s0 s1
    simp
    omega

set_option maxRecDepth 100000 in
set_option maxHeartbeats 2000000 in
theorem walk_SpanTells (a b : Int) (ha : (Lit.int .i64 a).wf = true) (hb : (Lit.int .i64 b).wf = true) (size : Int) (hz : (Lit.int .i64 size).wf = true) (w : World) (hw : ML w ∧ Pow w) :
    Calls Tryd.prog 8 #[.agg #[.int .i64 a, .int .i64 b], .int .i64 size] w fun e w' => e = .returned (.bool true) ∧ Below w.heap.size w w' := by
  obtain ⟨a0, a1⟩ := i64_of_wf ha
  obtain ⟨b0, b1⟩ := i64_of_wf hb
  obtain ⟨z0, z1⟩ := i64_of_wf hz
  have HA : Hid (∀ W, Grew w W → Calls _ _ _ W _) := fun W hb => awake_any W (hw.1.below hb.below)
  have HT : Hid (∀ W, Grew w W → Calls _ _ _ W _) := fun W hb => Tell_gr a b size a0 a1 b0 b1 z0 z1 W (Oc.Pow.below hw.2 hb.below (Nat.le_refl _))
  have HRT : Hid (∀ W, Calls _ _ _ W _) := fun W => rTell_gr a b size a0 a1 b0 b1 z0 z1 W
  have HN : Hid (∀ W, Grew w W → Calls _ _ _ W _) := fun W hb => TellNone_gr size z0 z1 W (Oc.Pow.below hw.2 hb.below (Nat.le_refl _))
  have HRN : Hid (∀ W, Calls _ _ _ W _) := fun W => rTellNone_gr size z0 z1 W
  have HTA : Hid (∀ W, Below w.heap.size w W → Calls Tryd.prog 27 #[.string (str (telR (a, b) size).1)] W fun e w' => e = .returned (.tuple #[.agg #[.int .i64 (tolR (telR (a, b) size).1).1.1, .int .i64 (tolR (telR (a, b) size).1).1.2], .int .i64 (tolR (telR (a, b) size).1).2.1, .int .i64 (tolR (telR (a, b) size).1).2.2]) ∧ Below W.heap.size W w') := fun W hb => by
    have h := Told_any (str (telR (a, b) size).1) (by rw [str_size]; have := tel_len a b size a0 a1 b1 z0 z1; omega) W (hw.1.below hb) (Oc.Pow.below hw.2 hb (Nat.le_refl _))
    rw [str_list] at h
    exact h
  have HTN : Hid (∀ W, Below w.heap.size w W → Calls Tryd.prog 27 #[.string (str (nonR size).1)] W fun e w' => e = .returned (.tuple #[.agg #[.int .i64 (tolR (nonR size).1).1.1, .int .i64 (tolR (nonR size).1).1.2], .int .i64 (tolR (nonR size).1).2.1, .int .i64 (tolR (nonR size).1).2.2]) ∧ Below W.heap.size W w') := fun W hb => by
    have h := Told_any (str (nonR size).1) (by rw [str_size]; have := non_len size z0 z1; omega) W (hw.1.below hb) (Oc.Pow.below hw.2 hb (Nat.le_refl _))
    rw [str_list] at h
    exact h
  have HEQ := fun y1 y2 w => eqN a b y1 y2 w
  have HNE := fun w => neN 0 0 0 0 w
  clear hw ha hb hz
  have hTok : (telR (a, b) size).2 = 0 → isSp (a, b) size = true := fun h => by
    unfold telR at h
    split at h
    · assumption
    · cases h
  have hback : size ≤ 4611686018427387904 → (telR (a, b) size).2 = 0 → tolR (telR (a, b) size).1 = ((a, b), size, 0) := fun h1 h2 => tel_back (hTok h2) h1
  have hnback : 0 ≤ size → size ≤ 4611686018427387904 → tolR (nonR size).1 = ((0, 0), size, 0) := fun h1 h2 => non_back h1 h2
  have HBK : Hid (_ ∧ _) := ⟨hback, hnback⟩
  clear hback hnback hTok
  generalize tolR (telR (a, b) size).1 = TA at *
  generalize tolR (nonR size).1 = TN at *
  generalize telR (a, b) size = TR at *
  generalize nonR size = NR at *
  obtain ⟨tl, te⟩ := TR
  obtain ⟨nl, ne⟩ := NR
  dsimp only at *
  generalize str tl = T at *
  generalize str nl = N at *
  obtain ⟨w1, hw1⟩ : ∃ w1, w1 = w.alloc (.cells #[.int .i64 a, .int .i64 b] 44) := ⟨_, rfl⟩
  have HG1 : Hid (Grew w w1) := (by rw [hw1]; exact (Grew.refl w).alloc _ : Grew _ _)
  have HP1 : Hid (PB 44 w1 w.heap.size (a, b)) := (by rw [hw1]; exact PB.new 44 w (a, b) : PB _ _ _ _)
  have q0 := HP1.out.c0
  have q1 := HP1.out.c1
  go_enter Tryd.func8, Tryd.ntmps8
  go_wp2_with fail
  rw [← hw1]
  clear hw1
  generalize hg1 : w.heap.size = g1 at *
  refine (HT.out _ HG1.out).mono ?_
  rintro e w2 ⟨rfl, hg⟩
  have HG2 : Hid (Grew w1 w2) := hg
  clear hg q0 q1
  have q0 := (HP1.out.below HG2.out.below).c0
  have q1 := (HP1.out.below HG2.out.below).c1
  go_wp2_with fail
  refine (HRT.out _).mono ?_
  rintro e w3 ⟨rfl, hg⟩
  have HG3 : Hid (Grew w1 w3) := HG2.out.trans hg
  clear hg q0 q1
  go_wp2_with fail
  refine (HN.out _ (HG1.out.trans HG3.out)).mono ?_
  rintro e w4 ⟨rfl, hg⟩
  have HG4 : Hid (Grew w1 w4) := HG3.out.trans hg
  clear hg
  go_wp2_with fail
  refine (HRN.out _).mono ?_
  rintro e w5 ⟨rfl, hg⟩
  have HG5 : Hid (Grew w1 w5) := HG4.out.trans hg
  clear hg
  go_wp2_with fail
  refine (HA.out _ (HG1.out.trans HG5.out)).mono ?_
  rintro e w6 ⟨rfl, hb6⟩
  have HB6 : Hid (Below g1 w w6) := (by have h := bel_trans (HG1.out.trans HG5.out).below hb6; rw [hg1] at h; exact h : Below _ _ _)
  have HP6 : Hid (PB _ _ _ _) := (HP1.out.below HG5.out.below).below hb6
  clear hb6
  have dT : (T.toList != T.toList) = false := by simp
  have dN : (N.toList != N.toList) = false := by simp
  have de : (te != te) = false := by simp
  have dn : (ne != ne) = false := by simp
  by_cases hz0 : size < 0
  · go_wp2
    go_ret
    rw [hg1]
    exact ⟨rfl, HB6.out⟩
  by_cases hz1 : 4611686018427387904 < size
  · go_wp2
    go_ret
    rw [hg1]
    exact ⟨rfl, HB6.out⟩
  have hTN := HBK.out.2 (by omega) (by omega)
  subst hTN
  dsimp only at HTN
  go_wp2_with fail
  refine (HTN.out _ HB6.out).mono ?_
  rintro e w7 ⟨rfl, hb7⟩
  have HB7 : Hid (Below g1 w w7) := HB6.out.trans (hb7.mono (by have := HB6.out.size; omega))
  have HP7 : Hid (PB _ _ _ _) := HP6.out.below hb7
  clear hb7
  obtain ⟨w8, hw8⟩ : ∃ w8, w8 = w7.alloc (.cells #[.int .i64 0, .int .i64 0] 44) := ⟨_, rfl⟩
  have HQ8 : Hid (PB 44 w8 w7.heap.size (0, 0)) := (by rw [hw8]; exact PB.new _ w7 (0, 0) : PB _ _ _ _)
  have HP8 : Hid (PB 44 w8 g1 (a, b)) := (by rw [hw8]; exact HP7.out.alloc _ : PB _ _ _ _)
  have HB8 : Hid (Below g1 w w8) := (by rw [hw8]; exact HB7.out.alloc (by have := HB7.out.size; omega) _ : Below _ _ _)
  have dz : (size != size) = false := by simp
  have r0 := HQ8.out.c0
  have r1 := HQ8.out.c1
  generalize hg7 : w7.heap.size = g7 at *
  by_cases hte : te = 0
  · subst hte
    have hTA := HBK.out.1 (by omega) (by first | rfl | trivial)
    subst hTA
    dsimp only at HTA
    go_wp2_with fail
    rw [← hw8]
    clear hw8
    refine (HTA.out _ HB8.out).mono ?_
    rintro e w9 ⟨rfl, hb9⟩
    have HB9 : Hid (Below g1 w w9) := HB8.out.trans (hb9.mono (by have := HB8.out.size; omega))
    have HP9 : Hid (PB _ _ _ _) := HP8.out.below hb9
    clear hb9
    have v0 := HP9.out.c0
    have v1 := HP9.out.c1
    have hlt := HP9.out.lt
    have hne1 : w9.heap.size ≠ g1 := by omega
    have hne2 : g1 ≠ w9.heap.size := by omega
    go_wp2
    go_ret
    rw [hg1]
    exact ⟨ret_bool (by simp), HB9.out.alloc (by have := HB9.out.size; omega) _⟩
  · have hte' : (te != 0) = true := by simp [hte]
    go_wp2_with fail
    rw [← hw8]
    clear hw8
    go_wp2
    go_ret
    rw [hg1]
    exact ⟨rfl, HB8.out⟩

end Sn
end Go.Proofs.YtbgbidjngjdceaaDoor
