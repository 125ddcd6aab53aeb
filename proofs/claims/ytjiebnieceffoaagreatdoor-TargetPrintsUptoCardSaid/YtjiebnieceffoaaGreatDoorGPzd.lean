/-
  The document's text of a target (written by mkgpzd.py; towards TargetPrints).
-/
import Derived.Test.YtjiebnieceffoaaGreatDoorGPzc
import Derived.Test.YtjiebnieceffoaaGreatDoorGPx
set_option linter.unusedVariables false
set_option linter.unusedSimpArgs false
set_option maxRecDepth 100000
namespace Go.Proofs.YtjiebnieceffoaaGreatDoor
open Go.RowKit Go.Shelf
namespace Tg
open Oc

/-- What the document writes: as written, but of an unknown form as an asterisk. -/
def txtR (form : Int) (host : List UInt8) (port : Int) (path query : List UInt8) (hq : Bool) : List UInt8 × List UInt8 :=
  if form = 1 ∨ form = 2 ∨ form = 3 then wrtR form host port path query hq else (optL, [42])

set_option maxHeartbeats 4000000 in
theorem rtext_any (a c : Int) (B P Q : ByteArray) (f : Bool) (hB : B.size ≤ 1048576) (hP : P.size ≤ 1048576) (hQ : Q.size ≤ 1048576) (c0 : -9223372036854775808 ≤ c) (c1 : c ≤ 9223372036854775807) (w : World) :
    Calls Tryz.prog 36 #[.agg #[.int .i64 a, .string B, .int .i64 c, .string P, .string Q, .bool f]] w fun e w' => e = .returned (.tuple #[.string (str (txtR a B.data.toList c P.data.toList Q.data.toList f).1), .string (str (txtR a B.data.toList c P.data.toList Q.data.toList f).2)]) ∧ Below w.heap.size w w' := by
  obtain ⟨w2, hw2⟩ : ∃ w2, w2 = w.alloc (.cells #[.int .i64 a, .string B, .int .i64 c, .string P, .string Q, .bool f] 27) := ⟨_, rfl⟩
  have R1 : w2.heap[w.heap.size]? = some (.cells #[.int .i64 a, .string B, .int .i64 c, .string P, .string Q, .bool f] 27 (0, 0)) := by rw [hw2]; exact World.alloc_heap_new w _
  have hz2 : w.heap.size < w2.heap.size := by rw [hw2]; simp
  have HB2 : Hid (Below w.heap.size w w2) := (by rw [hw2]; exact (Below.refl _ w).alloc (Nat.le_refl _) _ : Below _ _ _)
  have HR1 : Hid (_) := R1
  clear R1
  have HD : Hid (∀ W, Calls Tryz.prog 27 #[.int .i64 c] W fun e w' => e = .returned (.string (str (Lib.itoa c))) ∧ Below W.heap.size W w') := fun W => rDigits_any c c0 c1 W
  have hdl : (str (Lib.itoa c)).size ≤ 22 := by rw [str_size]; exact itoa_len c c0 c1
  have HT : Hid (txtR a B.data.toList c P.data.toList Q.data.toList f = if a = 1 ∨ a = 2 ∨ a = 3 then wrtR a B.data.toList c P.data.toList Q.data.toList f else (optL, [42])) := (rfl : _ = _)
  cases f with
  | false =>
    by_cases hc : c = -1
    · subst hc
      by_cases h1 : a = 1
      · subst h1
        have HA : Hid (str (txtR 1 B.data.toList (-1) P.data.toList Q.data.toList false).2 = P ++ ⟨#[]⟩) := (by
          refine eq_list ?_
          rw [str_list]
          simp [txtR, wrtR, plcR, autR, httpL, ByteArray.toList_data_append, str_list] : _ = _)
        have HM : Hid (str (txtR 1 B.data.toList (-1) P.data.toList Q.data.toList false).1 = ⟨#[71, 69, 84]⟩) := (by simp [txtR, wrtR, getL, conL, optL]; rfl : _ = _)
        rw [HA.out, HM.out]
        clear HA HM HT
        go_enter Tryz.func36, Tryz.ntmps36
        clear hw2
        go_wp2_with fail
        go_quiet (fail)
        go_wp2
        go_ret2
        refine ⟨?_, ?_⟩
        · first | rfl | simp
        · first | exact (((Below.refl _ w).alloc (Nat.le_refl _) _).trans ⟨rfl, rfl, rfl, Nat.le_refl _, fun _ _ => rfl⟩) | exact Below.trans (((Below.refl _ w).alloc (Nat.le_refl _) _).trans ⟨rfl, rfl, rfl, Nat.le_refl _, fun _ _ => rfl⟩) (Below.mono ⟨rfl, rfl, rfl, Nat.le_refl _, fun _ _ => rfl⟩ (by simp))
      have e1 : (a == 1) = false := by simp [h1]
      by_cases h2 : a = 2
      · subst h2
        have HA : Hid (str (txtR 2 B.data.toList (-1) P.data.toList Q.data.toList false).2 = ⟨#[104, 116, 116, 112, 58, 47, 47]⟩ ++ B ++ ⟨#[]⟩ ++ P ++ ⟨#[]⟩) := (by
          refine eq_list ?_
          rw [str_list]
          simp [txtR, wrtR, plcR, autR, httpL, ByteArray.toList_data_append, str_list] : _ = _)
        have HM : Hid (str (txtR 2 B.data.toList (-1) P.data.toList Q.data.toList false).1 = ⟨#[71, 69, 84]⟩) := (by simp [txtR, wrtR, getL, conL, optL]; rfl : _ = _)
        rw [HA.out, HM.out]
        clear HA HM HT
        go_enter Tryz.func36, Tryz.ntmps36
        clear hw2
        go_wp2_with fail
        go_quiet (fail)
        go_wp2
        go_ret2
        refine ⟨?_, ?_⟩
        · first | rfl | simp
        · first | exact (((Below.refl _ w).alloc (Nat.le_refl _) _).trans ⟨rfl, rfl, rfl, Nat.le_refl _, fun _ _ => rfl⟩) | exact Below.trans (((Below.refl _ w).alloc (Nat.le_refl _) _).trans ⟨rfl, rfl, rfl, Nat.le_refl _, fun _ _ => rfl⟩) (Below.mono ⟨rfl, rfl, rfl, Nat.le_refl _, fun _ _ => rfl⟩ (by simp))
      have e2 : (a == 2) = false := by simp [h2]
      by_cases h3 : a = 3
      · subst h3
        have HA : Hid (str (txtR 3 B.data.toList (-1) P.data.toList Q.data.toList false).2 = B ++ ⟨#[]⟩) := (by
          refine eq_list ?_
          rw [str_list]
          simp [txtR, wrtR, plcR, autR, httpL, ByteArray.toList_data_append, str_list] : _ = _)
        have HM : Hid (str (txtR 3 B.data.toList (-1) P.data.toList Q.data.toList false).1 = ⟨#[67, 79, 78, 78, 69, 67, 84]⟩) := (by simp [txtR, wrtR, getL, conL, optL]; rfl : _ = _)
        rw [HA.out, HM.out]
        clear HA HM HT
        go_enter Tryz.func36, Tryz.ntmps36
        clear hw2
        go_wp2_with fail
        go_quiet (fail)
        go_wp2
        go_ret2
        refine ⟨?_, ?_⟩
        · first | rfl | simp
        · first | exact (((Below.refl _ w).alloc (Nat.le_refl _) _).trans ⟨rfl, rfl, rfl, Nat.le_refl _, fun _ _ => rfl⟩) | exact Below.trans (((Below.refl _ w).alloc (Nat.le_refl _) _).trans ⟨rfl, rfl, rfl, Nat.le_refl _, fun _ _ => rfl⟩) (Below.mono ⟨rfl, rfl, rfl, Nat.le_refl _, fun _ _ => rfl⟩ (by simp))
      have e3 : (a == 3) = false := by simp [h3]
      have HA : Hid (str (txtR a B.data.toList (-1) P.data.toList Q.data.toList false).2 = ⟨#[42]⟩) := (by
        refine eq_list ?_
        rw [str_list]
        simp [txtR, wrtR, plcR, autR, httpL, ByteArray.toList_data_append, str_list, h1, h2, h3] : _ = _)
      have HM : Hid (str (txtR a B.data.toList (-1) P.data.toList Q.data.toList false).1 = ⟨#[79, 80, 84, 73, 79, 78, 83]⟩) := (by simp [txtR, wrtR, getL, conL, optL, h1, h2, h3]; rfl : _ = _)
      rw [HA.out, HM.out]
      clear HA HM HT
      go_enter Tryz.func36, Tryz.ntmps36
      clear hw2
      go_wp2
      go_ret2
      refine ⟨?_, ?_⟩
      · first | rfl | simp
      · first | exact ((Below.refl _ w).alloc (Nat.le_refl _) _) | exact Below.trans ((Below.refl _ w).alloc (Nat.le_refl _) _) (Below.mono ⟨rfl, rfl, rfl, Nat.le_refl _, fun _ _ => rfl⟩ (by simp))
    have hcb : (c == -1) = false := by simp [hc]
    by_cases h1 : a = 1
    · subst h1
      have HA : Hid (str (txtR 1 B.data.toList c P.data.toList Q.data.toList false).2 = P ++ ⟨#[]⟩) := (by
        refine eq_list ?_
        rw [str_list]
        simp [txtR, wrtR, plcR, autR, httpL, ByteArray.toList_data_append, str_list, hc] : _ = _)
      have HM : Hid (str (txtR 1 B.data.toList c P.data.toList Q.data.toList false).1 = ⟨#[71, 69, 84]⟩) := (by simp [txtR, wrtR, getL, conL, optL]; rfl : _ = _)
      rw [HA.out, HM.out]
      clear HA HM HT
      generalize str (Lib.itoa c) = D at *
      go_enter Tryz.func36, Tryz.ntmps36
      go_wp2_with fail
      rw [← hw2]
      refine (HD.out _).mono ?_
      rintro e w3 ⟨rfl, hb3⟩
      have HB3 : Hid (Below w2.heap.size w2 w3) := hb3
      clear hb3
      have R1 := (HB3.out.block _ hz2).trans HR1.out
      have d0 := Lib.cell_of_heap R1 0
      have d1 := Lib.cell_of_heap R1 1
      have d2 := Lib.cell_of_heap R1 2
      have d3 := Lib.cell_of_heap R1 3
      have d4 := Lib.cell_of_heap R1 4
      have d5 := Lib.cell_of_heap R1 5
      simp at d0 d1 d2 d3 d4 d5
      clear R1
      go_wp2_with fail
      go_quiet (fail)
      go_wp2
      go_ret2
      refine ⟨?_, ?_⟩
      · first | rfl | simp
      · first | exact ((HB2.out.trans (HB3.out.mono HB2.out.size)).trans ⟨rfl, rfl, rfl, Nat.le_refl _, fun _ _ => rfl⟩) | exact Below.trans ((HB2.out.trans (HB3.out.mono HB2.out.size)).trans ⟨rfl, rfl, rfl, Nat.le_refl _, fun _ _ => rfl⟩) (Below.mono ⟨rfl, rfl, rfl, Nat.le_refl _, fun _ _ => rfl⟩ (by simp))
    have e1 : (a == 1) = false := by simp [h1]
    by_cases h2 : a = 2
    · subst h2
      have HA : Hid (str (txtR 2 B.data.toList c P.data.toList Q.data.toList false).2 = ⟨#[104, 116, 116, 112, 58, 47, 47]⟩ ++ B ++ (⟨#[58]⟩ ++ str (Lib.itoa c)) ++ P ++ ⟨#[]⟩) := (by
        refine eq_list ?_
        rw [str_list]
        simp [txtR, wrtR, plcR, autR, httpL, ByteArray.toList_data_append, str_list, hc] : _ = _)
      have HM : Hid (str (txtR 2 B.data.toList c P.data.toList Q.data.toList false).1 = ⟨#[71, 69, 84]⟩) := (by simp [txtR, wrtR, getL, conL, optL]; rfl : _ = _)
      rw [HA.out, HM.out]
      clear HA HM HT
      generalize str (Lib.itoa c) = D at *
      go_enter Tryz.func36, Tryz.ntmps36
      go_wp2_with fail
      rw [← hw2]
      refine (HD.out _).mono ?_
      rintro e w3 ⟨rfl, hb3⟩
      have HB3 : Hid (Below w2.heap.size w2 w3) := hb3
      clear hb3
      have R1 := (HB3.out.block _ hz2).trans HR1.out
      have d0 := Lib.cell_of_heap R1 0
      have d1 := Lib.cell_of_heap R1 1
      have d2 := Lib.cell_of_heap R1 2
      have d3 := Lib.cell_of_heap R1 3
      have d4 := Lib.cell_of_heap R1 4
      have d5 := Lib.cell_of_heap R1 5
      simp at d0 d1 d2 d3 d4 d5
      clear R1
      go_wp2_with fail
      go_quiet (fail)
      go_wp2
      go_ret2
      refine ⟨?_, ?_⟩
      · first | rfl | simp
      · first | exact ((HB2.out.trans (HB3.out.mono HB2.out.size)).trans ⟨rfl, rfl, rfl, Nat.le_refl _, fun _ _ => rfl⟩) | exact Below.trans ((HB2.out.trans (HB3.out.mono HB2.out.size)).trans ⟨rfl, rfl, rfl, Nat.le_refl _, fun _ _ => rfl⟩) (Below.mono ⟨rfl, rfl, rfl, Nat.le_refl _, fun _ _ => rfl⟩ (by simp))
    have e2 : (a == 2) = false := by simp [h2]
    by_cases h3 : a = 3
    · subst h3
      have HA : Hid (str (txtR 3 B.data.toList c P.data.toList Q.data.toList false).2 = B ++ (⟨#[58]⟩ ++ str (Lib.itoa c))) := (by
        refine eq_list ?_
        rw [str_list]
        simp [txtR, wrtR, plcR, autR, httpL, ByteArray.toList_data_append, str_list, hc] : _ = _)
      have HM : Hid (str (txtR 3 B.data.toList c P.data.toList Q.data.toList false).1 = ⟨#[67, 79, 78, 78, 69, 67, 84]⟩) := (by simp [txtR, wrtR, getL, conL, optL]; rfl : _ = _)
      rw [HA.out, HM.out]
      clear HA HM HT
      generalize str (Lib.itoa c) = D at *
      go_enter Tryz.func36, Tryz.ntmps36
      go_wp2_with fail
      rw [← hw2]
      refine (HD.out _).mono ?_
      rintro e w3 ⟨rfl, hb3⟩
      have HB3 : Hid (Below w2.heap.size w2 w3) := hb3
      clear hb3
      have R1 := (HB3.out.block _ hz2).trans HR1.out
      have d0 := Lib.cell_of_heap R1 0
      have d1 := Lib.cell_of_heap R1 1
      have d2 := Lib.cell_of_heap R1 2
      have d3 := Lib.cell_of_heap R1 3
      have d4 := Lib.cell_of_heap R1 4
      have d5 := Lib.cell_of_heap R1 5
      simp at d0 d1 d2 d3 d4 d5
      clear R1
      go_wp2_with fail
      go_quiet (fail)
      go_wp2
      go_ret2
      refine ⟨?_, ?_⟩
      · first | rfl | simp
      · first | exact ((HB2.out.trans (HB3.out.mono HB2.out.size)).trans ⟨rfl, rfl, rfl, Nat.le_refl _, fun _ _ => rfl⟩) | exact Below.trans ((HB2.out.trans (HB3.out.mono HB2.out.size)).trans ⟨rfl, rfl, rfl, Nat.le_refl _, fun _ _ => rfl⟩) (Below.mono ⟨rfl, rfl, rfl, Nat.le_refl _, fun _ _ => rfl⟩ (by simp))
    have e3 : (a == 3) = false := by simp [h3]
    have HA : Hid (str (txtR a B.data.toList c P.data.toList Q.data.toList false).2 = ⟨#[42]⟩) := (by
      refine eq_list ?_
      rw [str_list]
      simp [txtR, wrtR, plcR, autR, httpL, ByteArray.toList_data_append, str_list, hc, h1, h2, h3] : _ = _)
    have HM : Hid (str (txtR a B.data.toList c P.data.toList Q.data.toList false).1 = ⟨#[79, 80, 84, 73, 79, 78, 83]⟩) := (by simp [txtR, wrtR, getL, conL, optL, h1, h2, h3]; rfl : _ = _)
    rw [HA.out, HM.out]
    clear HA HM HT
    generalize str (Lib.itoa c) = D at *
    go_enter Tryz.func36, Tryz.ntmps36
    go_wp2_with fail
    rw [← hw2]
    refine (HD.out _).mono ?_
    rintro e w3 ⟨rfl, hb3⟩
    have HB3 : Hid (Below w2.heap.size w2 w3) := hb3
    clear hb3
    have R1 := (HB3.out.block _ hz2).trans HR1.out
    have d0 := Lib.cell_of_heap R1 0
    have d1 := Lib.cell_of_heap R1 1
    have d2 := Lib.cell_of_heap R1 2
    have d3 := Lib.cell_of_heap R1 3
    have d4 := Lib.cell_of_heap R1 4
    have d5 := Lib.cell_of_heap R1 5
    simp at d0 d1 d2 d3 d4 d5
    clear R1
    go_wp2
    go_ret2
    refine ⟨?_, ?_⟩
    · first | rfl | simp
    · first | exact (HB2.out.trans (HB3.out.mono HB2.out.size)) | exact Below.trans (HB2.out.trans (HB3.out.mono HB2.out.size)) (Below.mono ⟨rfl, rfl, rfl, Nat.le_refl _, fun _ _ => rfl⟩ (by simp))
  | true =>
    by_cases hc : c = -1
    · subst hc
      by_cases h1 : a = 1
      · subst h1
        have HA : Hid (str (txtR 1 B.data.toList (-1) P.data.toList Q.data.toList true).2 = P ++ (⟨#[63]⟩ ++ Q)) := (by
          refine eq_list ?_
          rw [str_list]
          simp [txtR, wrtR, plcR, autR, httpL, ByteArray.toList_data_append, str_list] : _ = _)
        have HM : Hid (str (txtR 1 B.data.toList (-1) P.data.toList Q.data.toList true).1 = ⟨#[71, 69, 84]⟩) := (by simp [txtR, wrtR, getL, conL, optL]; rfl : _ = _)
        rw [HA.out, HM.out]
        clear HA HM HT
        go_enter Tryz.func36, Tryz.ntmps36
        clear hw2
        go_wp2_with fail
        go_quiet (fail)
        go_wp2
        go_ret2
        refine ⟨?_, ?_⟩
        · first | rfl | simp
        · first | exact (((Below.refl _ w).alloc (Nat.le_refl _) _).trans ⟨rfl, rfl, rfl, Nat.le_refl _, fun _ _ => rfl⟩) | exact Below.trans (((Below.refl _ w).alloc (Nat.le_refl _) _).trans ⟨rfl, rfl, rfl, Nat.le_refl _, fun _ _ => rfl⟩) (Below.mono ⟨rfl, rfl, rfl, Nat.le_refl _, fun _ _ => rfl⟩ (by simp))
      have e1 : (a == 1) = false := by simp [h1]
      by_cases h2 : a = 2
      · subst h2
        have HA : Hid (str (txtR 2 B.data.toList (-1) P.data.toList Q.data.toList true).2 = ⟨#[104, 116, 116, 112, 58, 47, 47]⟩ ++ B ++ ⟨#[]⟩ ++ P ++ (⟨#[63]⟩ ++ Q)) := (by
          refine eq_list ?_
          rw [str_list]
          simp [txtR, wrtR, plcR, autR, httpL, ByteArray.toList_data_append, str_list] : _ = _)
        have HM : Hid (str (txtR 2 B.data.toList (-1) P.data.toList Q.data.toList true).1 = ⟨#[71, 69, 84]⟩) := (by simp [txtR, wrtR, getL, conL, optL]; rfl : _ = _)
        rw [HA.out, HM.out]
        clear HA HM HT
        go_enter Tryz.func36, Tryz.ntmps36
        clear hw2
        go_wp2_with fail
        go_quiet (fail)
        go_wp2
        go_ret2
        refine ⟨?_, ?_⟩
        · first | rfl | simp
        · first | exact (((Below.refl _ w).alloc (Nat.le_refl _) _).trans ⟨rfl, rfl, rfl, Nat.le_refl _, fun _ _ => rfl⟩) | exact Below.trans (((Below.refl _ w).alloc (Nat.le_refl _) _).trans ⟨rfl, rfl, rfl, Nat.le_refl _, fun _ _ => rfl⟩) (Below.mono ⟨rfl, rfl, rfl, Nat.le_refl _, fun _ _ => rfl⟩ (by simp))
      have e2 : (a == 2) = false := by simp [h2]
      by_cases h3 : a = 3
      · subst h3
        have HA : Hid (str (txtR 3 B.data.toList (-1) P.data.toList Q.data.toList true).2 = B ++ ⟨#[]⟩) := (by
          refine eq_list ?_
          rw [str_list]
          simp [txtR, wrtR, plcR, autR, httpL, ByteArray.toList_data_append, str_list] : _ = _)
        have HM : Hid (str (txtR 3 B.data.toList (-1) P.data.toList Q.data.toList true).1 = ⟨#[67, 79, 78, 78, 69, 67, 84]⟩) := (by simp [txtR, wrtR, getL, conL, optL]; rfl : _ = _)
        rw [HA.out, HM.out]
        clear HA HM HT
        go_enter Tryz.func36, Tryz.ntmps36
        clear hw2
        go_wp2_with fail
        go_quiet (fail)
        go_wp2
        go_ret2
        refine ⟨?_, ?_⟩
        · first | rfl | simp
        · first | exact (((Below.refl _ w).alloc (Nat.le_refl _) _).trans ⟨rfl, rfl, rfl, Nat.le_refl _, fun _ _ => rfl⟩) | exact Below.trans (((Below.refl _ w).alloc (Nat.le_refl _) _).trans ⟨rfl, rfl, rfl, Nat.le_refl _, fun _ _ => rfl⟩) (Below.mono ⟨rfl, rfl, rfl, Nat.le_refl _, fun _ _ => rfl⟩ (by simp))
      have e3 : (a == 3) = false := by simp [h3]
      have HA : Hid (str (txtR a B.data.toList (-1) P.data.toList Q.data.toList true).2 = ⟨#[42]⟩) := (by
        refine eq_list ?_
        rw [str_list]
        simp [txtR, wrtR, plcR, autR, httpL, ByteArray.toList_data_append, str_list, h1, h2, h3] : _ = _)
      have HM : Hid (str (txtR a B.data.toList (-1) P.data.toList Q.data.toList true).1 = ⟨#[79, 80, 84, 73, 79, 78, 83]⟩) := (by simp [txtR, wrtR, getL, conL, optL, h1, h2, h3]; rfl : _ = _)
      rw [HA.out, HM.out]
      clear HA HM HT
      go_enter Tryz.func36, Tryz.ntmps36
      clear hw2
      go_wp2
      go_ret2
      refine ⟨?_, ?_⟩
      · first | rfl | simp
      · first | exact ((Below.refl _ w).alloc (Nat.le_refl _) _) | exact Below.trans ((Below.refl _ w).alloc (Nat.le_refl _) _) (Below.mono ⟨rfl, rfl, rfl, Nat.le_refl _, fun _ _ => rfl⟩ (by simp))
    have hcb : (c == -1) = false := by simp [hc]
    by_cases h1 : a = 1
    · subst h1
      have HA : Hid (str (txtR 1 B.data.toList c P.data.toList Q.data.toList true).2 = P ++ (⟨#[63]⟩ ++ Q)) := (by
        refine eq_list ?_
        rw [str_list]
        simp [txtR, wrtR, plcR, autR, httpL, ByteArray.toList_data_append, str_list, hc] : _ = _)
      have HM : Hid (str (txtR 1 B.data.toList c P.data.toList Q.data.toList true).1 = ⟨#[71, 69, 84]⟩) := (by simp [txtR, wrtR, getL, conL, optL]; rfl : _ = _)
      rw [HA.out, HM.out]
      clear HA HM HT
      generalize str (Lib.itoa c) = D at *
      go_enter Tryz.func36, Tryz.ntmps36
      go_wp2_with fail
      rw [← hw2]
      refine (HD.out _).mono ?_
      rintro e w3 ⟨rfl, hb3⟩
      have HB3 : Hid (Below w2.heap.size w2 w3) := hb3
      clear hb3
      have R1 := (HB3.out.block _ hz2).trans HR1.out
      have d0 := Lib.cell_of_heap R1 0
      have d1 := Lib.cell_of_heap R1 1
      have d2 := Lib.cell_of_heap R1 2
      have d3 := Lib.cell_of_heap R1 3
      have d4 := Lib.cell_of_heap R1 4
      have d5 := Lib.cell_of_heap R1 5
      simp at d0 d1 d2 d3 d4 d5
      clear R1
      go_wp2_with fail
      go_quiet (fail)
      go_wp2
      go_ret2
      refine ⟨?_, ?_⟩
      · first | rfl | simp
      · first | exact ((HB2.out.trans (HB3.out.mono HB2.out.size)).trans ⟨rfl, rfl, rfl, Nat.le_refl _, fun _ _ => rfl⟩) | exact Below.trans ((HB2.out.trans (HB3.out.mono HB2.out.size)).trans ⟨rfl, rfl, rfl, Nat.le_refl _, fun _ _ => rfl⟩) (Below.mono ⟨rfl, rfl, rfl, Nat.le_refl _, fun _ _ => rfl⟩ (by simp))
    have e1 : (a == 1) = false := by simp [h1]
    by_cases h2 : a = 2
    · subst h2
      have HA : Hid (str (txtR 2 B.data.toList c P.data.toList Q.data.toList true).2 = ⟨#[104, 116, 116, 112, 58, 47, 47]⟩ ++ B ++ (⟨#[58]⟩ ++ str (Lib.itoa c)) ++ P ++ (⟨#[63]⟩ ++ Q)) := (by
        refine eq_list ?_
        rw [str_list]
        simp [txtR, wrtR, plcR, autR, httpL, ByteArray.toList_data_append, str_list, hc] : _ = _)
      have HM : Hid (str (txtR 2 B.data.toList c P.data.toList Q.data.toList true).1 = ⟨#[71, 69, 84]⟩) := (by simp [txtR, wrtR, getL, conL, optL]; rfl : _ = _)
      rw [HA.out, HM.out]
      clear HA HM HT
      generalize str (Lib.itoa c) = D at *
      go_enter Tryz.func36, Tryz.ntmps36
      go_wp2_with fail
      rw [← hw2]
      refine (HD.out _).mono ?_
      rintro e w3 ⟨rfl, hb3⟩
      have HB3 : Hid (Below w2.heap.size w2 w3) := hb3
      clear hb3
      have R1 := (HB3.out.block _ hz2).trans HR1.out
      have d0 := Lib.cell_of_heap R1 0
      have d1 := Lib.cell_of_heap R1 1
      have d2 := Lib.cell_of_heap R1 2
      have d3 := Lib.cell_of_heap R1 3
      have d4 := Lib.cell_of_heap R1 4
      have d5 := Lib.cell_of_heap R1 5
      simp at d0 d1 d2 d3 d4 d5
      clear R1
      go_wp2_with fail
      go_quiet (fail)
      go_wp2
      go_ret2
      refine ⟨?_, ?_⟩
      · first | rfl | simp
      · first | exact ((HB2.out.trans (HB3.out.mono HB2.out.size)).trans ⟨rfl, rfl, rfl, Nat.le_refl _, fun _ _ => rfl⟩) | exact Below.trans ((HB2.out.trans (HB3.out.mono HB2.out.size)).trans ⟨rfl, rfl, rfl, Nat.le_refl _, fun _ _ => rfl⟩) (Below.mono ⟨rfl, rfl, rfl, Nat.le_refl _, fun _ _ => rfl⟩ (by simp))
    have e2 : (a == 2) = false := by simp [h2]
    by_cases h3 : a = 3
    · subst h3
      have HA : Hid (str (txtR 3 B.data.toList c P.data.toList Q.data.toList true).2 = B ++ (⟨#[58]⟩ ++ str (Lib.itoa c))) := (by
        refine eq_list ?_
        rw [str_list]
        simp [txtR, wrtR, plcR, autR, httpL, ByteArray.toList_data_append, str_list, hc] : _ = _)
      have HM : Hid (str (txtR 3 B.data.toList c P.data.toList Q.data.toList true).1 = ⟨#[67, 79, 78, 78, 69, 67, 84]⟩) := (by simp [txtR, wrtR, getL, conL, optL]; rfl : _ = _)
      rw [HA.out, HM.out]
      clear HA HM HT
      generalize str (Lib.itoa c) = D at *
      go_enter Tryz.func36, Tryz.ntmps36
      go_wp2_with fail
      rw [← hw2]
      refine (HD.out _).mono ?_
      rintro e w3 ⟨rfl, hb3⟩
      have HB3 : Hid (Below w2.heap.size w2 w3) := hb3
      clear hb3
      have R1 := (HB3.out.block _ hz2).trans HR1.out
      have d0 := Lib.cell_of_heap R1 0
      have d1 := Lib.cell_of_heap R1 1
      have d2 := Lib.cell_of_heap R1 2
      have d3 := Lib.cell_of_heap R1 3
      have d4 := Lib.cell_of_heap R1 4
      have d5 := Lib.cell_of_heap R1 5
      simp at d0 d1 d2 d3 d4 d5
      clear R1
      go_wp2_with fail
      go_quiet (fail)
      go_wp2
      go_ret2
      refine ⟨?_, ?_⟩
      · first | rfl | simp
      · first | exact ((HB2.out.trans (HB3.out.mono HB2.out.size)).trans ⟨rfl, rfl, rfl, Nat.le_refl _, fun _ _ => rfl⟩) | exact Below.trans ((HB2.out.trans (HB3.out.mono HB2.out.size)).trans ⟨rfl, rfl, rfl, Nat.le_refl _, fun _ _ => rfl⟩) (Below.mono ⟨rfl, rfl, rfl, Nat.le_refl _, fun _ _ => rfl⟩ (by simp))
    have e3 : (a == 3) = false := by simp [h3]
    have HA : Hid (str (txtR a B.data.toList c P.data.toList Q.data.toList true).2 = ⟨#[42]⟩) := (by
      refine eq_list ?_
      rw [str_list]
      simp [txtR, wrtR, plcR, autR, httpL, ByteArray.toList_data_append, str_list, hc, h1, h2, h3] : _ = _)
    have HM : Hid (str (txtR a B.data.toList c P.data.toList Q.data.toList true).1 = ⟨#[79, 80, 84, 73, 79, 78, 83]⟩) := (by simp [txtR, wrtR, getL, conL, optL, h1, h2, h3]; rfl : _ = _)
    rw [HA.out, HM.out]
    clear HA HM HT
    generalize str (Lib.itoa c) = D at *
    go_enter Tryz.func36, Tryz.ntmps36
    go_wp2_with fail
    rw [← hw2]
    refine (HD.out _).mono ?_
    rintro e w3 ⟨rfl, hb3⟩
    have HB3 : Hid (Below w2.heap.size w2 w3) := hb3
    clear hb3
    have R1 := (HB3.out.block _ hz2).trans HR1.out
    have d0 := Lib.cell_of_heap R1 0
    have d1 := Lib.cell_of_heap R1 1
    have d2 := Lib.cell_of_heap R1 2
    have d3 := Lib.cell_of_heap R1 3
    have d4 := Lib.cell_of_heap R1 4
    have d5 := Lib.cell_of_heap R1 5
    simp at d0 d1 d2 d3 d4 d5
    clear R1
    go_wp2
    go_ret2
    refine ⟨?_, ?_⟩
    · first | rfl | simp
    · first | exact (HB2.out.trans (HB3.out.mono HB2.out.size)) | exact Below.trans (HB2.out.trans (HB3.out.mono HB2.out.size)) (Below.mono ⟨rfl, rfl, rfl, Nat.le_refl _, fun _ _ => rfl⟩ (by simp))

end Tg
end Go.Proofs.YtjiebnieceffoaaGreatDoor
