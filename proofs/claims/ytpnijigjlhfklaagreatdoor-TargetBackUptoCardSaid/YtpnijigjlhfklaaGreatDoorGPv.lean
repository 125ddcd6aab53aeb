/-
  target.Parse on whatever texts (written by mkgpv.py).
-/
import Derived.Test.YtpnijigjlhfklaaGreatDoorGPs
set_option linter.unusedVariables false
set_option linter.unusedSimpArgs false
set_option maxRecDepth 100000
namespace Go.Proofs.YtpnijigjlhfklaaGreatDoor
open Go.RowKit Go.Shelf
namespace Tg
open Oc

theorem eqL (m : ByteArray) (L : List UInt8) : (m.toList == L) = decide (m.data.toList = L) := by
  rw [ByteArray.toList_eq, Bool.eq_iff_iff, beq_iff_eq, decide_eq_true_iff]
theorem low_http : lower httpL = httpL := by decide +kernel
theorem same_http (s : ByteArray) : decide (lowS (s.extract 0 7) = lowS ⟨#[104, 116, 116, 112, 58, 47, 47]⟩) = decide (lower (s.data.toList.take 7) = httpL) := by
  unfold lowS
  rw [Lib.extract_from_zero, show (⟨#[104, 116, 116, 112, 58, 47, 47]⟩ : ByteArray).data.toList = httpL from rfl, low_http, Bool.eq_iff_iff, decide_eq_true_iff, decide_eq_true_iff]
  constructor
  · intro h
    have := congrArg (fun b : ByteArray => b.data.toList) h
    simpa [str_list] using this
  · intro h; rw [h]

set_option maxHeartbeats 8000000 in
theorem Parse_any (m s : ByteArray) (hm : m.size ≤ 4000000) (hs : s.size ≤ 4000000) (w : World) (he : HE w) :
    Calls Tryz.prog 6 #[.string m, .string s] w fun e w' => e = .returned (.tuple (prV (parP m.data.toList s.data.toList))) ∧ Below w.heap.size w w' := by
  obtain ⟨w2, hw2⟩ : ∃ w2, w2 = w.alloc (.cells #[.int .i64 0, .string ⟨#[]⟩, .int .i64 0, .string ⟨#[]⟩, .string ⟨#[]⟩, .bool false] 23) := ⟨_, rfl⟩
  have R1 : w2.heap[w.heap.size]? = some (.cells #[.int .i64 0, .string ⟨#[]⟩, .int .i64 0, .string ⟨#[]⟩, .string ⟨#[]⟩, .bool false] 23 (0, 0)) := by rw [hw2]; exact World.alloc_heap_new w _
  have hb2 : Below w.heap.size w w2 := by rw [hw2]; exact (Below.refl _ w).alloc (Nat.le_refl _) _
  have hz2 : w2.heap.size = w.heap.size + 1 := by rw [hw2]; simp
  have HR1 : Hid (_) := R1
  have HB2 : Hid (Below w.heap.size w w2) := hb2
  have HE2 : Hid (HE w2) := he.below hb2
  clear R1 hb2 he
  by_cases h0 : s.size = 0
  · have hl : s.data.toList = [] := List.length_eq_zero_iff.1 (by rw [size_list]; exact h0)
    have hE : s.toList.isEmpty = true := empty_of h0
    unfold parP
    rw [if_pos hl]
    unfold wrongP prV tgt
    dsimp only
    clear hl
    have R1 := HR1.out
    have c0 := Lib.cell_of_heap R1 0
    have c1 := Lib.cell_of_heap R1 1
    have c2 := Lib.cell_of_heap R1 2
    have c3 := Lib.cell_of_heap R1 3
    have c4 := Lib.cell_of_heap R1 4
    have c5 := Lib.cell_of_heap R1 5
    have f0 := Lib.frozen_of_heap R1 0
    have f1 := Lib.frozen_of_heap R1 1
    have f2 := Lib.frozen_of_heap R1 2
    have f3 := Lib.frozen_of_heap R1 3
    have f4 := Lib.frozen_of_heap R1 4
    have f5 := Lib.frozen_of_heap R1 5
    simp at c0 c1 c2 c3 c4 c5
    clear R1
    rw [hw2] at c0 f0 c1 f1 c2 f2 c3 f3 c4 f4 c5 f5
    go_enter Tryz.func6, Tryz.ntmps6
    go_wp2
    refine bodyPost_ret (v := .tuple #[.agg #[.int .i64 0, .string ⟨#[]⟩, .int .i64 0, .string ⟨#[]⟩, .string ⟨#[]⟩, .bool false], .int .i64 0, .int .i64 50]) (by simp [results, Tryz.results6, go_sem, c0, c1, c2, c3, c4, c5]) rfl ?_
    exact ⟨rfl, (Below.refl _ w).alloc (Nat.le_refl _) _⟩
  have hE : s.toList.isEmpty = false := nonempty_of h0
  have hl : s.data.toList ≠ [] := fun e => h0 (by rw [← size_list, e]; rfl)
  have hlt : 0 < s.size := by omega
  by_cases hc : m.data.toList = conL
  · have hcm : (m.toList == [67, 79, 78, 78, 69, 67, 84]) = true := by rw [eqL]; exact decide_eq_true hc
    unfold parP
    rw [if_neg hl, if_pos hc]
    have HA : Hid (∀ w, HE w → _) := fun w h => parseAuthority_any s hs w h
    clear hc hl
    generalize conP s.data.toList = Q at *
    go_enter Tryz.func6, Tryz.ntmps6
    go_wp2_with fail
    rw [← hw2]
    refine (HA.out _ HE2.out).mono ?_
    rintro e w3 ⟨rfl, hb3⟩
    have HB3 : Hid (Below w2.heap.size w2 w3) := hb3
    clear hb3
    obtain ⟨q1, q2, q3, q4, q5, q6, q7, q8⟩ := Q
    unfold prV tgt
    dsimp only
    have R1 := (HB3.out.block _ (show w.heap.size < _ by omega)).trans HR1.out
    have c0 := Lib.cell_of_heap R1 0
    have c1 := Lib.cell_of_heap R1 1
    have c2 := Lib.cell_of_heap R1 2
    have c3 := Lib.cell_of_heap R1 3
    have c4 := Lib.cell_of_heap R1 4
    have c5 := Lib.cell_of_heap R1 5
    have f0 := Lib.frozen_of_heap R1 0
    have f1 := Lib.frozen_of_heap R1 1
    have f2 := Lib.frozen_of_heap R1 2
    have f3 := Lib.frozen_of_heap R1 3
    have f4 := Lib.frozen_of_heap R1 4
    have f5 := Lib.frozen_of_heap R1 5
    simp at c0 c1 c2 c3 c4 c5
    clear R1
    go_wp2
    refine bodyPost_ret (v := .tuple #[.agg #[.int .i64 q1, .string (str q2), .int .i64 q3, .string (str q4), .string (str q5), .bool q6], .int .i64 q7, .int .i64 q8]) (by simp [results, Tryz.results6, go_sem, c0, c1, c2, c3, c4, c5]) rfl ?_
    exact ⟨rfl, (Below.setCell (p := ⟨w.heap.size, 5, none⟩) (Below.setCell (p := ⟨w.heap.size, 4, none⟩) (Below.setCell (p := ⟨w.heap.size, 3, none⟩) (Below.setCell (p := ⟨w.heap.size, 2, none⟩) (Below.setCell (p := ⟨w.heap.size, 1, none⟩) (Below.setCell (p := ⟨w.heap.size, 0, none⟩) (HB2.out.trans (HB3.out.mono (by omega))) (by simp) _) (by simp) _) (by simp) _) (by simp) _) (by simp) _) (by simp) _)⟩
  have hcm : (m.toList == [67, 79, 78, 78, 69, 67, 84]) = false := by rw [eqL]; exact decide_eq_false hc
  have hby : ((s[0].toNat : Nat) : Int) = byt s 0 := byt_at s 0 hlt
  by_cases h47 : s.data.toList.head? = some 47
  · unfold parP
    rw [if_neg hl, if_neg hc, if_pos h47]
    rw [(head_byt s h0 47).1 h47] at hby
    have HA : Hid (∀ w, HE w → Calls Tryz.prog 21 #[.agg #[.int .i64 1, .string ⟨#[]⟩, .int .i64 (-1), .string ⟨#[]⟩, .string ⟨#[]⟩, .bool false], .string s, .int .i64 0] w fun e w' => e = .returned (.tuple (prV (placeP 1 (-1) [] s.data.toList 0))) ∧ Below w.heap.size w w') := fun w h => parsePlace_p 1 (-1) [] [] [] false s (by omega) 0 (by omega) w h.1
    clear hc hl h47
    generalize placeP 1 (-1) [] s.data.toList 0 = Q at *
    go_enter Tryz.func6, Tryz.ntmps6
    go_wp2_with fail
    rw [← hw2]
    refine (HA.out _ HE2.out).mono ?_
    rintro e w3 ⟨rfl, hb3⟩
    have HB3 : Hid (Below w2.heap.size w2 w3) := hb3
    clear hb3
    obtain ⟨q1, q2, q3, q4, q5, q6, q7, q8⟩ := Q
    unfold prV tgt
    dsimp only
    have R1 := (HB3.out.block _ (show w.heap.size < _ by omega)).trans HR1.out
    have c0 := Lib.cell_of_heap R1 0
    have c1 := Lib.cell_of_heap R1 1
    have c2 := Lib.cell_of_heap R1 2
    have c3 := Lib.cell_of_heap R1 3
    have c4 := Lib.cell_of_heap R1 4
    have c5 := Lib.cell_of_heap R1 5
    have f0 := Lib.frozen_of_heap R1 0
    have f1 := Lib.frozen_of_heap R1 1
    have f2 := Lib.frozen_of_heap R1 2
    have f3 := Lib.frozen_of_heap R1 3
    have f4 := Lib.frozen_of_heap R1 4
    have f5 := Lib.frozen_of_heap R1 5
    simp at c0 c1 c2 c3 c4 c5
    clear R1
    go_wp2
    refine bodyPost_ret (v := .tuple #[.agg #[.int .i64 q1, .string (str q2), .int .i64 q3, .string (str q4), .string (str q5), .bool q6], .int .i64 q7, .int .i64 q8]) (by simp [results, Tryz.results6, go_sem, c0, c1, c2, c3, c4, c5]) rfl ?_
    exact ⟨rfl, (Below.setCell (p := ⟨w.heap.size, 5, none⟩) (Below.setCell (p := ⟨w.heap.size, 4, none⟩) (Below.setCell (p := ⟨w.heap.size, 3, none⟩) (Below.setCell (p := ⟨w.heap.size, 2, none⟩) (Below.setCell (p := ⟨w.heap.size, 1, none⟩) (Below.setCell (p := ⟨w.heap.size, 0, none⟩) (HB2.out.trans (HB3.out.mono (by omega))) (by simp) _) (by simp) _) (by simp) _) (by simp) _) (by simp) _) (by simp) _)⟩
  have h47b : (byt s 0 == 47) = false := by
    rw [beq_eq_false_iff_ne]
    exact fun e => h47 ((head_byt s h0 47).2 e)
  by_cases ho : m.data.toList = optL ∧ s.data.toList = [42]
  · have hom : (m.toList == [79, 80, 84, 73, 79, 78, 83]) = true := by rw [eqL]; exact decide_eq_true ho.1
    have hst : (s.toList == [42]) = true := by rw [eqL]; exact decide_eq_true ho.2
    unfold parP
    rw [if_neg hl, if_neg hc, if_neg h47, if_pos ho]
    unfold prV tgt
    dsimp only
    clear hc hl h47 ho
    have R1 := HR1.out
    have c0 := Lib.cell_of_heap R1 0
    have c1 := Lib.cell_of_heap R1 1
    have c2 := Lib.cell_of_heap R1 2
    have c3 := Lib.cell_of_heap R1 3
    have c4 := Lib.cell_of_heap R1 4
    have c5 := Lib.cell_of_heap R1 5
    have f0 := Lib.frozen_of_heap R1 0
    have f1 := Lib.frozen_of_heap R1 1
    have f2 := Lib.frozen_of_heap R1 2
    have f3 := Lib.frozen_of_heap R1 3
    have f4 := Lib.frozen_of_heap R1 4
    have f5 := Lib.frozen_of_heap R1 5
    simp at c0 c1 c2 c3 c4 c5
    clear R1
    rw [hw2] at c0 f0 c1 f1 c2 f2 c3 f3 c4 f4 c5 f5
    go_enter Tryz.func6, Tryz.ntmps6
    go_wp2
    refine bodyPost_ret (v := .tuple #[.agg #[.int .i64 4, .string ⟨#[]⟩, .int .i64 (-1), .string ⟨#[]⟩, .string ⟨#[]⟩, .bool false], .int .i64 0, .int .i64 0]) (by simp [results, Tryz.results6, go_sem, c0, c1, c2, c3, c4, c5]) rfl ?_
    exact ⟨rfl, (Below.refl _ w).alloc (Nat.le_refl _) _⟩
  have hsm := same_http s
  have hP : parP m.data.toList s.data.toList = if s.size < 7 ∨ lower (s.data.toList.take 7) ≠ httpL then wrongP 0 50 else absP s.data.toList := by
    unfold parP
    rw [if_neg hl, if_neg hc, if_neg h47, if_neg ho, size_list]
  rw [hP]
  clear hP
  have hoo : (m.toList == [79, 80, 84, 73, 79, 78, 83]) = false ∨ ((m.toList == [79, 80, 84, 73, 79, 78, 83]) = true ∧ (s.toList == [42]) = false) := by
    rw [eqL, eqL]
    by_cases h : m.data.toList = optL
    · refine .inr ⟨decide_eq_true h, decide_eq_false (fun e => ho ⟨h, e⟩)⟩
    · exact .inl (decide_eq_false h)
  clear ho hc hl h47
  rcases hoo with hom | ⟨hom, hst⟩
  · by_cases h7 : s.size < 7
    · rw [if_pos (.inl h7)]
      have h7' : (s.size : Int) < 7 := by omega
      unfold wrongP prV tgt
      dsimp only
      clear hsm
      have R1 := HR1.out
      have c0 := Lib.cell_of_heap R1 0
      have c1 := Lib.cell_of_heap R1 1
      have c2 := Lib.cell_of_heap R1 2
      have c3 := Lib.cell_of_heap R1 3
      have c4 := Lib.cell_of_heap R1 4
      have c5 := Lib.cell_of_heap R1 5
      have f0 := Lib.frozen_of_heap R1 0
      have f1 := Lib.frozen_of_heap R1 1
      have f2 := Lib.frozen_of_heap R1 2
      have f3 := Lib.frozen_of_heap R1 3
      have f4 := Lib.frozen_of_heap R1 4
      have f5 := Lib.frozen_of_heap R1 5
      simp at c0 c1 c2 c3 c4 c5
      clear R1
      rw [hw2] at c0 f0 c1 f1 c2 f2 c3 f3 c4 f4 c5 f5
      go_enter Tryz.func6, Tryz.ntmps6
      go_wp2
      refine bodyPost_ret (v := .tuple #[.agg #[.int .i64 0, .string ⟨#[]⟩, .int .i64 0, .string ⟨#[]⟩, .string ⟨#[]⟩, .bool false], .int .i64 0, .int .i64 50]) (by simp [results, Tryz.results6, go_sem, c0, c1, c2, c3, c4, c5]) rfl ?_
      exact ⟨rfl, (Below.refl _ w).alloc (Nat.le_refl _) _⟩
    have h7' : ¬ (s.size : Int) < 7 := by omega
    have h7'' : (7 : Int) ≤ (s.size : Int) := by omega
    have HS : Hid (∀ w, Calls Tryz.prog 22 #[.string (s.extract 0 7), .string ⟨#[104, 116, 116, 112, 58, 47, 47]⟩] w fun e w' => e = .returned (.bool (decide (lower (s.data.toList.take 7) = httpL))) ∧ Below w.heap.size w w') := fun w => by
      have := Same_any (s.extract 0 7) ⟨#[104, 116, 116, 112, 58, 47, 47]⟩ (by unfold maxLen; rw [ByteArray.size_extract]; omega) (by unfold maxLen; decide) w
      rw [hsm] at this
      exact this
    clear hsm
    by_cases hh : lower (s.data.toList.take 7) = httpL
    · rw [if_neg (fun e => e.elim h7 (fun e => e hh))]
      rw [decide_eq_true hh] at HS
      have HA : Hid (∀ w, HE w → _) := fun w h => parseAbsolute_any s hs (by omega) w h
      generalize absP s.data.toList = Q at *
      clear hh
      go_enter Tryz.func6, Tryz.ntmps6
      go_wp2_with fail
      rw [← hw2]
      refine (HS.out _).mono ?_
      rintro e w3 ⟨rfl, hb3⟩
      have HB3 : Hid (Below w2.heap.size w2 w3) := hb3
      have HE3 : Hid (HE w3) := HE2.out.below hb3
      clear hb3
      go_wp2_with fail
      refine (HA.out _ HE3.out).mono ?_
      rintro e w4 ⟨rfl, hb4⟩
      have HB4 : Hid (Below w2.heap.size w2 w4) := bel_trans HB3.out hb4
      clear hb4
      obtain ⟨q1, q2, q3, q4, q5, q6, q7, q8⟩ := Q
      unfold prV tgt
      dsimp only
      have R1 := (HB4.out.block _ (show w.heap.size < _ by omega)).trans HR1.out
      have c0 := Lib.cell_of_heap R1 0
      have c1 := Lib.cell_of_heap R1 1
      have c2 := Lib.cell_of_heap R1 2
      have c3 := Lib.cell_of_heap R1 3
      have c4 := Lib.cell_of_heap R1 4
      have c5 := Lib.cell_of_heap R1 5
      have f0 := Lib.frozen_of_heap R1 0
      have f1 := Lib.frozen_of_heap R1 1
      have f2 := Lib.frozen_of_heap R1 2
      have f3 := Lib.frozen_of_heap R1 3
      have f4 := Lib.frozen_of_heap R1 4
      have f5 := Lib.frozen_of_heap R1 5
      simp at c0 c1 c2 c3 c4 c5
      clear R1
      go_wp2
      refine bodyPost_ret (v := .tuple #[.agg #[.int .i64 q1, .string (str q2), .int .i64 q3, .string (str q4), .string (str q5), .bool q6], .int .i64 q7, .int .i64 q8]) (by simp [results, Tryz.results6, go_sem, c0, c1, c2, c3, c4, c5]) rfl ?_
      exact ⟨rfl, (Below.setCell (p := ⟨w.heap.size, 5, none⟩) (Below.setCell (p := ⟨w.heap.size, 4, none⟩) (Below.setCell (p := ⟨w.heap.size, 3, none⟩) (Below.setCell (p := ⟨w.heap.size, 2, none⟩) (Below.setCell (p := ⟨w.heap.size, 1, none⟩) (Below.setCell (p := ⟨w.heap.size, 0, none⟩) (HB2.out.trans (HB4.out.mono (by omega))) (by simp) _) (by simp) _) (by simp) _) (by simp) _) (by simp) _) (by simp) _)⟩
    · rw [if_pos (.inr hh)]
      rw [decide_eq_false hh] at HS
      unfold wrongP prV tgt
      dsimp only
      clear hh
      go_enter Tryz.func6, Tryz.ntmps6
      go_wp2_with fail
      rw [← hw2]
      refine (HS.out _).mono ?_
      rintro e w3 ⟨rfl, hb3⟩
      have HB3 : Hid (Below w2.heap.size w2 w3) := hb3
      have HE3 : Hid (HE w3) := HE2.out.below hb3
      clear hb3
      have R1 := (HB3.out.block _ (show w.heap.size < _ by omega)).trans HR1.out
      have c0 := Lib.cell_of_heap R1 0
      have c1 := Lib.cell_of_heap R1 1
      have c2 := Lib.cell_of_heap R1 2
      have c3 := Lib.cell_of_heap R1 3
      have c4 := Lib.cell_of_heap R1 4
      have c5 := Lib.cell_of_heap R1 5
      have f0 := Lib.frozen_of_heap R1 0
      have f1 := Lib.frozen_of_heap R1 1
      have f2 := Lib.frozen_of_heap R1 2
      have f3 := Lib.frozen_of_heap R1 3
      have f4 := Lib.frozen_of_heap R1 4
      have f5 := Lib.frozen_of_heap R1 5
      simp at c0 c1 c2 c3 c4 c5
      clear R1
      go_wp2
      refine bodyPost_ret (v := .tuple #[.agg #[.int .i64 0, .string ⟨#[]⟩, .int .i64 0, .string ⟨#[]⟩, .string ⟨#[]⟩, .bool false], .int .i64 0, .int .i64 50]) (by simp [results, Tryz.results6, go_sem, c0, c1, c2, c3, c4, c5]) rfl ?_
      exact ⟨rfl, (Below.setCell (p := ⟨w.heap.size, 5, none⟩) (Below.setCell (p := ⟨w.heap.size, 4, none⟩) (Below.setCell (p := ⟨w.heap.size, 3, none⟩) (Below.setCell (p := ⟨w.heap.size, 2, none⟩) (Below.setCell (p := ⟨w.heap.size, 1, none⟩) (Below.setCell (p := ⟨w.heap.size, 0, none⟩) (HB2.out.trans (HB3.out.mono (by omega))) (by simp) _) (by simp) _) (by simp) _) (by simp) _) (by simp) _) (by simp) _)⟩
  · by_cases h7 : s.size < 7
    · rw [if_pos (.inl h7)]
      have h7' : (s.size : Int) < 7 := by omega
      unfold wrongP prV tgt
      dsimp only
      clear hsm
      have R1 := HR1.out
      have c0 := Lib.cell_of_heap R1 0
      have c1 := Lib.cell_of_heap R1 1
      have c2 := Lib.cell_of_heap R1 2
      have c3 := Lib.cell_of_heap R1 3
      have c4 := Lib.cell_of_heap R1 4
      have c5 := Lib.cell_of_heap R1 5
      have f0 := Lib.frozen_of_heap R1 0
      have f1 := Lib.frozen_of_heap R1 1
      have f2 := Lib.frozen_of_heap R1 2
      have f3 := Lib.frozen_of_heap R1 3
      have f4 := Lib.frozen_of_heap R1 4
      have f5 := Lib.frozen_of_heap R1 5
      simp at c0 c1 c2 c3 c4 c5
      clear R1
      rw [hw2] at c0 f0 c1 f1 c2 f2 c3 f3 c4 f4 c5 f5
      go_enter Tryz.func6, Tryz.ntmps6
      go_wp2
      refine bodyPost_ret (v := .tuple #[.agg #[.int .i64 0, .string ⟨#[]⟩, .int .i64 0, .string ⟨#[]⟩, .string ⟨#[]⟩, .bool false], .int .i64 0, .int .i64 50]) (by simp [results, Tryz.results6, go_sem, c0, c1, c2, c3, c4, c5]) rfl ?_
      exact ⟨rfl, (Below.refl _ w).alloc (Nat.le_refl _) _⟩
    have h7' : ¬ (s.size : Int) < 7 := by omega
    have h7'' : (7 : Int) ≤ (s.size : Int) := by omega
    have HS : Hid (∀ w, Calls Tryz.prog 22 #[.string (s.extract 0 7), .string ⟨#[104, 116, 116, 112, 58, 47, 47]⟩] w fun e w' => e = .returned (.bool (decide (lower (s.data.toList.take 7) = httpL))) ∧ Below w.heap.size w w') := fun w => by
      have := Same_any (s.extract 0 7) ⟨#[104, 116, 116, 112, 58, 47, 47]⟩ (by unfold maxLen; rw [ByteArray.size_extract]; omega) (by unfold maxLen; decide) w
      rw [hsm] at this
      exact this
    clear hsm
    by_cases hh : lower (s.data.toList.take 7) = httpL
    · rw [if_neg (fun e => e.elim h7 (fun e => e hh))]
      rw [decide_eq_true hh] at HS
      have HA : Hid (∀ w, HE w → _) := fun w h => parseAbsolute_any s hs (by omega) w h
      generalize absP s.data.toList = Q at *
      clear hh
      go_enter Tryz.func6, Tryz.ntmps6
      go_wp2_with fail
      rw [← hw2]
      refine (HS.out _).mono ?_
      rintro e w3 ⟨rfl, hb3⟩
      have HB3 : Hid (Below w2.heap.size w2 w3) := hb3
      have HE3 : Hid (HE w3) := HE2.out.below hb3
      clear hb3
      go_wp2_with fail
      refine (HA.out _ HE3.out).mono ?_
      rintro e w4 ⟨rfl, hb4⟩
      have HB4 : Hid (Below w2.heap.size w2 w4) := bel_trans HB3.out hb4
      clear hb4
      obtain ⟨q1, q2, q3, q4, q5, q6, q7, q8⟩ := Q
      unfold prV tgt
      dsimp only
      have R1 := (HB4.out.block _ (show w.heap.size < _ by omega)).trans HR1.out
      have c0 := Lib.cell_of_heap R1 0
      have c1 := Lib.cell_of_heap R1 1
      have c2 := Lib.cell_of_heap R1 2
      have c3 := Lib.cell_of_heap R1 3
      have c4 := Lib.cell_of_heap R1 4
      have c5 := Lib.cell_of_heap R1 5
      have f0 := Lib.frozen_of_heap R1 0
      have f1 := Lib.frozen_of_heap R1 1
      have f2 := Lib.frozen_of_heap R1 2
      have f3 := Lib.frozen_of_heap R1 3
      have f4 := Lib.frozen_of_heap R1 4
      have f5 := Lib.frozen_of_heap R1 5
      simp at c0 c1 c2 c3 c4 c5
      clear R1
      go_wp2
      refine bodyPost_ret (v := .tuple #[.agg #[.int .i64 q1, .string (str q2), .int .i64 q3, .string (str q4), .string (str q5), .bool q6], .int .i64 q7, .int .i64 q8]) (by simp [results, Tryz.results6, go_sem, c0, c1, c2, c3, c4, c5]) rfl ?_
      exact ⟨rfl, (Below.setCell (p := ⟨w.heap.size, 5, none⟩) (Below.setCell (p := ⟨w.heap.size, 4, none⟩) (Below.setCell (p := ⟨w.heap.size, 3, none⟩) (Below.setCell (p := ⟨w.heap.size, 2, none⟩) (Below.setCell (p := ⟨w.heap.size, 1, none⟩) (Below.setCell (p := ⟨w.heap.size, 0, none⟩) (HB2.out.trans (HB4.out.mono (by omega))) (by simp) _) (by simp) _) (by simp) _) (by simp) _) (by simp) _) (by simp) _)⟩
    · rw [if_pos (.inr hh)]
      rw [decide_eq_false hh] at HS
      unfold wrongP prV tgt
      dsimp only
      clear hh
      go_enter Tryz.func6, Tryz.ntmps6
      go_wp2_with fail
      rw [← hw2]
      refine (HS.out _).mono ?_
      rintro e w3 ⟨rfl, hb3⟩
      have HB3 : Hid (Below w2.heap.size w2 w3) := hb3
      have HE3 : Hid (HE w3) := HE2.out.below hb3
      clear hb3
      have R1 := (HB3.out.block _ (show w.heap.size < _ by omega)).trans HR1.out
      have c0 := Lib.cell_of_heap R1 0
      have c1 := Lib.cell_of_heap R1 1
      have c2 := Lib.cell_of_heap R1 2
      have c3 := Lib.cell_of_heap R1 3
      have c4 := Lib.cell_of_heap R1 4
      have c5 := Lib.cell_of_heap R1 5
      have f0 := Lib.frozen_of_heap R1 0
      have f1 := Lib.frozen_of_heap R1 1
      have f2 := Lib.frozen_of_heap R1 2
      have f3 := Lib.frozen_of_heap R1 3
      have f4 := Lib.frozen_of_heap R1 4
      have f5 := Lib.frozen_of_heap R1 5
      simp at c0 c1 c2 c3 c4 c5
      clear R1
      go_wp2
      refine bodyPost_ret (v := .tuple #[.agg #[.int .i64 0, .string ⟨#[]⟩, .int .i64 0, .string ⟨#[]⟩, .string ⟨#[]⟩, .bool false], .int .i64 0, .int .i64 50]) (by simp [results, Tryz.results6, go_sem, c0, c1, c2, c3, c4, c5]) rfl ?_
      exact ⟨rfl, (Below.setCell (p := ⟨w.heap.size, 5, none⟩) (Below.setCell (p := ⟨w.heap.size, 4, none⟩) (Below.setCell (p := ⟨w.heap.size, 3, none⟩) (Below.setCell (p := ⟨w.heap.size, 2, none⟩) (Below.setCell (p := ⟨w.heap.size, 1, none⟩) (Below.setCell (p := ⟨w.heap.size, 0, none⟩) (HB2.out.trans (HB3.out.mono (by omega))) (by simp) _) (by simp) _) (by simp) _) (by simp) _) (by simp) _) (by simp) _)⟩

end Tg
end Go.Proofs.YtpnijigjlhfklaaGreatDoor
