/-
  The document's Parse (written by mkgpx.py).
-/
import Derived.Test.YtpnijigjlhfklaaGreatDoorGPv
import Derived.Test.YtpnijigjlhfklaaGreatDoorGPw
set_option linter.unusedVariables false
set_option linter.unusedSimpArgs false
set_option maxRecDepth 100000
namespace Go.Proofs.YtpnijigjlhfklaaGreatDoor
open Go.RowKit Go.Shelf
namespace Tg
open Oc

theorem port_facts (l : List UInt8) : -1 ≤ (portR l).1 ∧ (portR l).1 ≤ 65535 := by
  unfold portR
  split
  · exact ⟨by decide, by decide⟩
  · split
    · exact ⟨by decide, by decide⟩
    · have := numR_nn 10 (by decide) 65535 (by decide) (Lib.trimPrefix l [58])
      dsimp only
      omega
theorem auth_facts (l : List UInt8) : ((authP l).2.2 = 0 ∨ (authP l).2.2 = 52) ∧ -1 ≤ (authP l).2.1 ∧ (authP l).2.1 ≤ 65535 := by
  unfold authP
  split
  · exact ⟨.inr rfl, by decide, by decide⟩
  · exact ⟨.inl rfl, port_facts _⟩
theorem rHost_p (s : ByteArray) (hs : s.size ≤ 4000000) (w : World) :
    Calls Tryz.prog 24 #[.string s] w fun e w' => e = .returned (.tuple #[.string (str (authP s.data.toList).1), .int .i64 (authP s.data.toList).2.1, .int .i64 (authP s.data.toList).2.2]) ∧ Below w.heap.size w w' := by
  have := rHostPort_any s hs w
  rw [← auth_hp] at this
  exact this
theorem end_here (s : ByteArray) (k : Nat) (h7 : 7 ≤ k) (hk : k < s.size) (he : k = 7 + hdLen (s.data.toList.drop 7)) : byt s k = 47 ∨ (byt s k ≠ 47 ∧ byt s k = 63) := by
  have hl : hdLen (s.data.toList.drop 7) < (s.data.toList.drop 7).length := by rw [List.length_drop, size_list]; omega
  have h1 := hd_at _ hl
  have h2 : (s.data.toList.drop 7)[hdLen (s.data.toList.drop 7)]'hl = s[k]'hk := by
    rw [List.getElem_drop]
    subst he
    simp
    rfl
  rw [h2] at h1
  rw [← byt_at s k hk]
  unfold endB at h1
  simp only [Bool.or_eq_true, beq_iff_eq] at h1
  rcases h1 with h1 | h1 <;> rw [h1]
  · exact .inl rfl
  · exact .inr ⟨by decide, rfl⟩
theorem end_not (s : ByteArray) (k : Nat) (h7 : 7 ≤ k) (hk : k < s.size) (he : k < 7 + hdLen (s.data.toList.drop 7)) : byt s k ≠ 47 ∧ byt s k ≠ 63 := by
  have h1 := hd_in (s.data.toList.drop 7) (k - 7) (s[k]'hk) (by omega) (by
    rw [List.getElem?_drop, show 7 + (k - 7) = k by omega]
    exact Lib.data_getElem? s k hk)
  rw [← byt_at s k hk]
  unfold endB at h1
  simp only [Bool.or_eq_false_iff, beq_eq_false_iff_ne] at h1
  have hn : ∀ c : UInt8, (s[k]'hk) ≠ c → ((s[k].toNat : Nat) : Int) ≠ (c.toNat : Int) := fun c hc e => hc (UInt8.toNat_inj.1 (by omega))
  exact ⟨hn 47 h1.1, hn 63 h1.2⟩

set_option maxHeartbeats 8000000 in
theorem rParse_any (m s : ByteArray) (hm : m.size ≤ 4000000) (hs : s.size ≤ 4000000) (w : World) :
    Calls Tryz.prog 7 #[.string m, .string s] w fun e w' => e = .returned (.tuple (prV (parP m.data.toList s.data.toList))) ∧ Below w.heap.size w w' := by
  obtain ⟨w2, hw2⟩ : ∃ w2, w2 = w.alloc (.cells #[.int .i64 0, .string ⟨#[]⟩, .int .i64 0, .string ⟨#[]⟩, .string ⟨#[]⟩, .bool false] 27) := ⟨_, rfl⟩
  have R1 : w2.heap[w.heap.size]? = some (.cells #[.int .i64 0, .string ⟨#[]⟩, .int .i64 0, .string ⟨#[]⟩, .string ⟨#[]⟩, .bool false] 27 (0, 0)) := by rw [hw2]; exact World.alloc_heap_new w _
  have hb2 : Below w.heap.size w w2 := by rw [hw2]; exact (Below.refl _ w).alloc (Nat.le_refl _) _
  have hz2 : w2.heap.size = w.heap.size + 1 := by rw [hw2]; simp
  have HR1 : Hid (_) := R1
  have HB2 : Hid (Below w.heap.size w w2) := hb2
  clear R1 hb2
  by_cases h0 : s.size = 0
  · have hl : s.data.toList = [] := List.length_eq_zero_iff.1 (by rw [size_list]; exact h0)
    have hE : s.toList.isEmpty = true := empty_of h0
    unfold parP
    rw [if_pos hl]
    unfold wrongP prV tgt
    dsimp only
    clear hl
    have R1 := HR1.out
    have c0 := Lib.cell_of_heap R1 0
    have c1 := Lib.cell_of_heap R1 1
    have c2 := Lib.cell_of_heap R1 2
    have c3 := Lib.cell_of_heap R1 3
    have c4 := Lib.cell_of_heap R1 4
    have c5 := Lib.cell_of_heap R1 5
    have f0 := Lib.frozen_of_heap R1 0
    have f1 := Lib.frozen_of_heap R1 1
    have f2 := Lib.frozen_of_heap R1 2
    have f3 := Lib.frozen_of_heap R1 3
    have f4 := Lib.frozen_of_heap R1 4
    have f5 := Lib.frozen_of_heap R1 5
    simp at c0 c1 c2 c3 c4 c5
    clear R1
    rw [hw2] at c0 f0 c1 f1 c2 f2 c3 f3 c4 f4 c5 f5
    go_enter Tryz.func7, Tryz.ntmps7
    go_wp2
    refine bodyPost_ret (v := .tuple #[.agg #[.int .i64 0, .string ⟨#[]⟩, .int .i64 0, .string ⟨#[]⟩, .string ⟨#[]⟩, .bool false], .int .i64 0, .int .i64 50]) (by simp [results, Tryz.results7, go_sem, c0, c1, c2, c3, c4, c5]) rfl ?_
    exact ⟨rfl, (Below.refl _ w).alloc (Nat.le_refl _) _⟩
  have hE : s.toList.isEmpty = false := nonempty_of h0
  have hl : s.data.toList ≠ [] := fun e => h0 (by rw [← size_list, e]; rfl)
  have hlt : 0 < s.size := by omega
  by_cases hc : m.data.toList = conL
  · have hcm : (m.toList == [67, 79, 78, 78, 69, 67, 84]) = true := by rw [eqL]; exact decide_eq_true hc
    unfold parP
    rw [if_neg hl, if_pos hc]
    have HA : Hid (∀ w, _) := fun w => rHost_p s hs w
    have hf := auth_facts s.data.toList
    clear hc hl
    unfold conP
    generalize authP s.data.toList = R at *
    obtain ⟨r1, r2, r3⟩ := R
    dsimp only at HA hf ⊢
    by_cases h3 : r3 = 0
    · subst h3
      by_cases h2 : r2 = -1
      · subst h2
        rw [if_pos (.inr rfl)]
        unfold wrongP
        unfold prV tgt
        dsimp only
        go_enter Tryz.func7, Tryz.ntmps7
        go_wp2_with fail
        rw [← hw2]
        refine (HA.out _).mono ?_
        rintro e w3 ⟨rfl, hb3⟩
        have HB3 : Hid (Below w2.heap.size w2 w3) := hb3
        clear hb3
        have R1 := (HB3.out.block _ (show w.heap.size < _ by omega)).trans HR1.out
        have c0 := Lib.cell_of_heap R1 0
        have c1 := Lib.cell_of_heap R1 1
        have c2 := Lib.cell_of_heap R1 2
        have c3 := Lib.cell_of_heap R1 3
        have c4 := Lib.cell_of_heap R1 4
        have c5 := Lib.cell_of_heap R1 5
        have f0 := Lib.frozen_of_heap R1 0
        have f1 := Lib.frozen_of_heap R1 1
        have f2 := Lib.frozen_of_heap R1 2
        have f3 := Lib.frozen_of_heap R1 3
        have f4 := Lib.frozen_of_heap R1 4
        have f5 := Lib.frozen_of_heap R1 5
        simp at c0 c1 c2 c3 c4 c5
        clear R1
        go_wp2
        refine bodyPost_ret (v := .tuple #[.agg #[.int .i64 0, .string ⟨#[]⟩, .int .i64 0, .string ⟨#[]⟩, .string ⟨#[]⟩, .bool false], .int .i64 0, .int .i64 52]) (by simp [results, Tryz.results7, go_sem, c0, c1, c2, c3, c4, c5]) rfl ?_
        exact ⟨rfl, (Below.setCell (p := ⟨w.heap.size, 5, none⟩) (Below.setCell (p := ⟨w.heap.size, 4, none⟩) (Below.setCell (p := ⟨w.heap.size, 3, none⟩) (Below.setCell (p := ⟨w.heap.size, 2, none⟩) (Below.setCell (p := ⟨w.heap.size, 1, none⟩) (Below.setCell (p := ⟨w.heap.size, 0, none⟩) (HB2.out.trans (HB3.out.mono (by omega))) (by simp) _) (by simp) _) (by simp) _) (by simp) _) (by simp) _) (by simp) _)⟩
      · rw [if_neg (fun e => e.elim (fun e => e rfl) h2)]
        have h2' : ¬ r2 < 0 := by omega
        unfold prV tgt
        dsimp only
        go_enter Tryz.func7, Tryz.ntmps7
        go_wp2_with fail
        rw [← hw2]
        refine (HA.out _).mono ?_
        rintro e w3 ⟨rfl, hb3⟩
        have HB3 : Hid (Below w2.heap.size w2 w3) := hb3
        clear hb3
        have R1 := (HB3.out.block _ (show w.heap.size < _ by omega)).trans HR1.out
        have c0 := Lib.cell_of_heap R1 0
        have c1 := Lib.cell_of_heap R1 1
        have c2 := Lib.cell_of_heap R1 2
        have c3 := Lib.cell_of_heap R1 3
        have c4 := Lib.cell_of_heap R1 4
        have c5 := Lib.cell_of_heap R1 5
        have f0 := Lib.frozen_of_heap R1 0
        have f1 := Lib.frozen_of_heap R1 1
        have f2 := Lib.frozen_of_heap R1 2
        have f3 := Lib.frozen_of_heap R1 3
        have f4 := Lib.frozen_of_heap R1 4
        have f5 := Lib.frozen_of_heap R1 5
        simp at c0 c1 c2 c3 c4 c5
        clear R1
        go_wp2
        refine bodyPost_ret (v := .tuple #[.agg #[.int .i64 3, .string (str r1), .int .i64 r2, .string ⟨#[]⟩, .string ⟨#[]⟩, .bool false], .int .i64 0, .int .i64 0]) (by simp [results, Tryz.results7, go_sem, c0, c1, c2, c3, c4, c5]) rfl ?_
        exact ⟨rfl, (Below.setCell (p := ⟨w.heap.size, 5, none⟩) (Below.setCell (p := ⟨w.heap.size, 4, none⟩) (Below.setCell (p := ⟨w.heap.size, 3, none⟩) (Below.setCell (p := ⟨w.heap.size, 2, none⟩) (Below.setCell (p := ⟨w.heap.size, 1, none⟩) (Below.setCell (p := ⟨w.heap.size, 0, none⟩) (HB2.out.trans (HB3.out.mono (by omega))) (by simp) _) (by simp) _) (by simp) _) (by simp) _) (by simp) _) (by simp) _)⟩
    · rw [if_pos (.inl h3)]
      unfold wrongP
      have h3' : (r3 == 0) = false := by simp [h3]
      unfold prV tgt
      dsimp only
      go_enter Tryz.func7, Tryz.ntmps7
      go_wp2_with fail
      rw [← hw2]
      refine (HA.out _).mono ?_
      rintro e w3 ⟨rfl, hb3⟩
      have HB3 : Hid (Below w2.heap.size w2 w3) := hb3
      clear hb3
      have R1 := (HB3.out.block _ (show w.heap.size < _ by omega)).trans HR1.out
      have c0 := Lib.cell_of_heap R1 0
      have c1 := Lib.cell_of_heap R1 1
      have c2 := Lib.cell_of_heap R1 2
      have c3 := Lib.cell_of_heap R1 3
      have c4 := Lib.cell_of_heap R1 4
      have c5 := Lib.cell_of_heap R1 5
      have f0 := Lib.frozen_of_heap R1 0
      have f1 := Lib.frozen_of_heap R1 1
      have f2 := Lib.frozen_of_heap R1 2
      have f3 := Lib.frozen_of_heap R1 3
      have f4 := Lib.frozen_of_heap R1 4
      have f5 := Lib.frozen_of_heap R1 5
      simp at c0 c1 c2 c3 c4 c5
      clear R1
      go_wp2
      refine bodyPost_ret (v := .tuple #[.agg #[.int .i64 0, .string ⟨#[]⟩, .int .i64 0, .string ⟨#[]⟩, .string ⟨#[]⟩, .bool false], .int .i64 0, .int .i64 52]) (by simp [results, Tryz.results7, go_sem, c0, c1, c2, c3, c4, c5]) rfl ?_
      exact ⟨rfl, (Below.setCell (p := ⟨w.heap.size, 5, none⟩) (Below.setCell (p := ⟨w.heap.size, 4, none⟩) (Below.setCell (p := ⟨w.heap.size, 3, none⟩) (Below.setCell (p := ⟨w.heap.size, 2, none⟩) (Below.setCell (p := ⟨w.heap.size, 1, none⟩) (Below.setCell (p := ⟨w.heap.size, 0, none⟩) (HB2.out.trans (HB3.out.mono (by omega))) (by simp) _) (by simp) _) (by simp) _) (by simp) _) (by simp) _) (by simp) _)⟩
  have hcm : (m.toList == [67, 79, 78, 78, 69, 67, 84]) = false := by rw [eqL]; exact decide_eq_false hc
  have hby : ((s[0].toNat : Nat) : Int) = byt s 0 := byt_at s 0 hlt
  by_cases h47 : s.data.toList.head? = some 47
  · unfold parP
    rw [if_neg hl, if_neg hc, if_pos h47]
    rw [(head_byt s h0 47).1 h47] at hby
    have HA : Hid (∀ w, Calls Tryz.prog 25 #[.string s, .int .i64 0, .agg #[.int .i64 1, .string ⟨#[]⟩, .int .i64 (-1), .string ⟨#[]⟩, .string ⟨#[]⟩, .bool false]] w fun e w' => e = .returned (.tuple (prV (placeP 1 (-1) [] s.data.toList 0))) ∧ Below w.heap.size w w') := fun w => rrest_any 1 (-1) [] [] [] false s (by omega) 0 (by omega) w
    clear hc hl h47
    generalize placeP 1 (-1) [] s.data.toList 0 = Q at *
    go_enter Tryz.func7, Tryz.ntmps7
    go_wp2_with fail
    rw [← hw2]
    refine (HA.out _).mono ?_
    rintro e w3 ⟨rfl, hb3⟩
    have HB3 : Hid (Below w2.heap.size w2 w3) := hb3
    clear hb3
    obtain ⟨q1, q2, q3, q4, q5, q6, q7, q8⟩ := Q
    unfold prV tgt
    dsimp only
    have R1 := (HB3.out.block _ (show w.heap.size < _ by omega)).trans HR1.out
    have c0 := Lib.cell_of_heap R1 0
    have c1 := Lib.cell_of_heap R1 1
    have c2 := Lib.cell_of_heap R1 2
    have c3 := Lib.cell_of_heap R1 3
    have c4 := Lib.cell_of_heap R1 4
    have c5 := Lib.cell_of_heap R1 5
    have f0 := Lib.frozen_of_heap R1 0
    have f1 := Lib.frozen_of_heap R1 1
    have f2 := Lib.frozen_of_heap R1 2
    have f3 := Lib.frozen_of_heap R1 3
    have f4 := Lib.frozen_of_heap R1 4
    have f5 := Lib.frozen_of_heap R1 5
    simp at c0 c1 c2 c3 c4 c5
    clear R1
    go_wp2
    refine bodyPost_ret (v := .tuple #[.agg #[.int .i64 q1, .string (str q2), .int .i64 q3, .string (str q4), .string (str q5), .bool q6], .int .i64 q7, .int .i64 q8]) (by simp [results, Tryz.results7, go_sem, c0, c1, c2, c3, c4, c5]) rfl ?_
    exact ⟨rfl, (Below.setCell (p := ⟨w.heap.size, 5, none⟩) (Below.setCell (p := ⟨w.heap.size, 4, none⟩) (Below.setCell (p := ⟨w.heap.size, 3, none⟩) (Below.setCell (p := ⟨w.heap.size, 2, none⟩) (Below.setCell (p := ⟨w.heap.size, 1, none⟩) (Below.setCell (p := ⟨w.heap.size, 0, none⟩) (HB2.out.trans (HB3.out.mono (by omega))) (by simp) _) (by simp) _) (by simp) _) (by simp) _) (by simp) _) (by simp) _)⟩
  have h47b : (byt s 0 == 47) = false := by
    rw [beq_eq_false_iff_ne]
    exact fun e => h47 ((head_byt s h0 47).2 e)
  by_cases ho : m.data.toList = optL ∧ s.data.toList = [42]
  · have hom : (m.toList == [79, 80, 84, 73, 79, 78, 83]) = true := by rw [eqL]; exact decide_eq_true ho.1
    have hst : (s.toList == [42]) = true := by rw [eqL]; exact decide_eq_true ho.2
    unfold parP
    rw [if_neg hl, if_neg hc, if_neg h47, if_pos ho]
    unfold prV tgt
    dsimp only
    clear hc hl h47 ho
    have R1 := HR1.out
    have c0 := Lib.cell_of_heap R1 0
    have c1 := Lib.cell_of_heap R1 1
    have c2 := Lib.cell_of_heap R1 2
    have c3 := Lib.cell_of_heap R1 3
    have c4 := Lib.cell_of_heap R1 4
    have c5 := Lib.cell_of_heap R1 5
    have f0 := Lib.frozen_of_heap R1 0
    have f1 := Lib.frozen_of_heap R1 1
    have f2 := Lib.frozen_of_heap R1 2
    have f3 := Lib.frozen_of_heap R1 3
    have f4 := Lib.frozen_of_heap R1 4
    have f5 := Lib.frozen_of_heap R1 5
    simp at c0 c1 c2 c3 c4 c5
    clear R1
    rw [hw2] at c0 f0 c1 f1 c2 f2 c3 f3 c4 f4 c5 f5
    go_enter Tryz.func7, Tryz.ntmps7
    go_wp2
    refine bodyPost_ret (v := .tuple #[.agg #[.int .i64 4, .string ⟨#[]⟩, .int .i64 (-1), .string ⟨#[]⟩, .string ⟨#[]⟩, .bool false], .int .i64 0, .int .i64 0]) (by simp [results, Tryz.results7, go_sem, c0, c1, c2, c3, c4, c5]) rfl ?_
    exact ⟨rfl, (Below.refl _ w).alloc (Nat.le_refl _) _⟩
  have hP : parP m.data.toList s.data.toList = if s.size < 7 ∨ lower (s.data.toList.take 7) ≠ httpL then wrongP 0 50 else absP s.data.toList := by
    unfold parP
    rw [if_neg hl, if_neg hc, if_neg h47, if_neg ho, size_list]
  rw [hP]
  clear hP
  have hoo : (s.toList == [42]) = false ∨ ((s.toList == [42]) = true ∧ (m.toList == [79, 80, 84, 73, 79, 78, 83]) = false) := by
    rw [eqL, eqL]
    by_cases h : s.data.toList = [42]
    · refine .inr ⟨decide_eq_true h, decide_eq_false (fun e => ho ⟨e, h⟩)⟩
    · exact .inl (decide_eq_false h)
  clear ho hc hl h47
  rcases hoo with hst | ⟨hst, hom⟩
  · by_cases h7 : s.size < 7
    · rw [if_pos (.inl h7)]
      have h7' : (s.size : Int) < 7 := by omega
      unfold wrongP prV tgt
      dsimp only
      have R1 := HR1.out
      have c0 := Lib.cell_of_heap R1 0
      have c1 := Lib.cell_of_heap R1 1
      have c2 := Lib.cell_of_heap R1 2
      have c3 := Lib.cell_of_heap R1 3
      have c4 := Lib.cell_of_heap R1 4
      have c5 := Lib.cell_of_heap R1 5
      have f0 := Lib.frozen_of_heap R1 0
      have f1 := Lib.frozen_of_heap R1 1
      have f2 := Lib.frozen_of_heap R1 2
      have f3 := Lib.frozen_of_heap R1 3
      have f4 := Lib.frozen_of_heap R1 4
      have f5 := Lib.frozen_of_heap R1 5
      simp at c0 c1 c2 c3 c4 c5
      clear R1
      rw [hw2] at c0 f0 c1 f1 c2 f2 c3 f3 c4 f4 c5 f5
      go_enter Tryz.func7, Tryz.ntmps7
      go_wp2
      refine bodyPost_ret (v := .tuple #[.agg #[.int .i64 0, .string ⟨#[]⟩, .int .i64 0, .string ⟨#[]⟩, .string ⟨#[]⟩, .bool false], .int .i64 0, .int .i64 50]) (by simp [results, Tryz.results7, go_sem, c0, c1, c2, c3, c4, c5]) rfl ?_
      exact ⟨rfl, (Below.refl _ w).alloc (Nat.le_refl _) _⟩
    have h7' : ¬ (s.size : Int) < 7 := by omega
    have h7'' : (7 : Int) ≤ (s.size : Int) := by omega
    have HS : Hid (∀ w, Calls Tryz.prog 26 #[.string (s.extract 0 7)] w fun e w' => e = .returned (.string (str (lower (s.data.toList.take 7)))) ∧ Below w.heap.size w w') := fun w => by
      have := rLower_any (s.extract 0 7) (by unfold maxLen; rw [ByteArray.size_extract]; omega) w
      unfold lowS at this
      rw [Lib.extract_from_zero] at this
      exact this
    have hcmp : ((str (lower (s.data.toList.take 7))).toList == [104, 116, 116, 112, 58, 47, 47]) = decide (lower (s.data.toList.take 7) = httpL) := by rw [eqL, str_list]; rfl
    by_cases hh : lower (s.data.toList.take 7) = httpL
    · rw [if_neg (fun e => e.elim h7 (fun e => e hh))]
      rw [decide_eq_true hh] at hcmp
      clear hh
      generalize str (lower (s.data.toList.take 7)) = L7 at *
      have hdl : (s.data.toList.drop 7).length = s.size - 7 := by rw [List.length_drop, size_list]
      have hle := hd_le (s.data.toList.drop 7)
      rw [hdl] at hle
      have HEh : Hid (∀ k, 7 ≤ k → k < s.size → k = 7 + hdLen (s.data.toList.drop 7) → byt s k = 47 ∨ (byt s k ≠ 47 ∧ byt s k = 63)) := (fun k a b c => end_here s k a b c : ∀ k, 7 ≤ k → k < s.size → k = 7 + hdLen (s.data.toList.drop 7) → byt s k = 47 ∨ (byt s k ≠ 47 ∧ byt s k = 63))
      have HEn : Hid (∀ k, 7 ≤ k → k < s.size → k < 7 + hdLen (s.data.toList.drop 7) → byt s k ≠ 47 ∧ byt s k ≠ 63) := (fun k a b c => end_not s k a b c : ∀ k, 7 ≤ k → k < s.size → k < 7 + hdLen (s.data.toList.drop 7) → byt s k ≠ 47 ∧ byt s k ≠ 63)
      have HAu : Hid (∀ k, k ≤ s.size → k = 7 + hdLen (s.data.toList.drop 7) → ∀ w, Calls Tryz.prog 24 #[.string (s.extract 7 k)] w fun e w' => e = .returned (.tuple #[.string (str (authP (absT s.data.toList)).1), .int .i64 (authP (absT s.data.toList)).2.1, .int .i64 (authP (absT s.data.toList)).2.2]) ∧ Below w.heap.size w w') := fun k hk e w => by
        have := rHost_p (s.extract 7 k) (by rw [ByteArray.size_extract]; omega) w
        rw [show (s.extract 7 k).data.toList = absT s.data.toList by rw [ext_list]; unfold absT; rw [e, show 7 + hdLen (s.data.toList.drop 7) - 7 = hdLen (s.data.toList.drop 7) by omega]] at this
        exact this
      have HRs : Hid (∀ (r1 : List UInt8) (r2 : Int) (k : Nat), k ≤ s.size → ∀ w, Calls Tryz.prog 25 #[.string s, .int .i64 (k : Int), .agg #[.int .i64 2, .string (str r1), .int .i64 r2, .string ⟨#[]⟩, .string ⟨#[]⟩, .bool false]] w fun e w' => e = .returned (.tuple (prV (placeP 2 r2 r1 s.data.toList k))) ∧ Below w.heap.size w w') := fun r1 r2 k hk w => rrest_any 2 r2 r1 [] [] false s (by omega) k hk w
      have hf := auth_facts (absT s.data.toList)
      unfold absP
      generalize authP (absT s.data.toList) = R at *
      obtain ⟨r1, r2, r3⟩ := R
      dsimp only at HAu hf ⊢
      generalize hdLen (s.data.toList.drop 7) = h at *
      clear hdl
      generalize hV : (if r3 ≠ 0 then wrongP 7 r3 else placeP 2 r2 r1 s.data.toList (7 + h)) = V
      have HV : Hid (V = if r3 ≠ 0 then wrongP 7 r3 else placeP 2 r2 r1 s.data.toList (7 + h)) := hV.symm
      clear hV
      go_enter Tryz.func7, Tryz.ntmps7
      go_wp2_with fail
      rw [← hw2]
      refine (HS.out _).mono ?_
      rintro e w3 ⟨rfl, hb3⟩
      have HB3 : Hid (Below w2.heap.size w2 w3) := hb3
      clear hb3
      go_wp2
      go_loopw [10] (fun i wr => ∃ k : Nat, 7 ≤ k ∧ k ≤ 7 + h ∧ i = .int .i64 k ∧ wr = w3) (fun i _ => s.size - (intOf i).toNat)
      case atStart => exact ⟨7, by omega, by omega, rfl, rfl⟩
      case round =>
        obtain ⟨k, hk7, hk, rfl, rfl⟩ := hrel
        by_cases hz : k < s.size
        · have hbk : ((s[k].toNat : Nat) : Int) = byt s k := byt_at s k hz
          by_cases hkh : k = 7 + h
          · rcases HEh.out k hk7 hz hkh with h47k | h63k
            · rw [h47k] at hbk
              clear h47k
              have hks : k ≤ s.size := by omega
              have HA : Hid (∀ w, _) := HAu.out k hks hkh
              have HRk : Hid (∀ w, _) := HRs.out r1 r2 k hks
              have HV2 := HV.out
              rw [← hkh] at HV2
              clear HV
              clear HAu HRs HEh HEn hle
              have k7 : (7 : Int) ≤ (k : Int) := by omega
              have kz : (k : Int) ≤ (s.size : Int) := by omega
              clear hkh
              rcases hf.1 with h3 | h3
              · subst h3
                rw [if_neg (fun e => e rfl)] at HV2
                generalize placeP 2 r2 r1 s.data.toList k = Q at *
                have HVQ : Hid (V = Q) := HV2
                clear HV2
                go_wp2_with fail
                refine (HA.out _).mono ?_
                rintro e w4 ⟨rfl, hb4⟩
                have HB4 : Hid (Below w2.heap.size w2 w4) := bel_trans HB3.out hb4
                clear hb4
                go_wp2_with fail
                refine (HRk.out _).mono ?_
                rintro e w5 ⟨rfl, hb5⟩
                have HB5 : Hid (Below w2.heap.size w2 w5) := bel_trans HB4.out hb5
                clear hb5
                obtain ⟨q1, q2, q3, q4, q5, q6, q7, q8⟩ := Q
                unfold prV tgt
                dsimp only
                have R1 := (HB5.out.block _ (show w.heap.size < _ by omega)).trans HR1.out
                have c0 := Lib.cell_of_heap R1 0
                have c1 := Lib.cell_of_heap R1 1
                have c2 := Lib.cell_of_heap R1 2
                have c3 := Lib.cell_of_heap R1 3
                have c4 := Lib.cell_of_heap R1 4
                have c5 := Lib.cell_of_heap R1 5
                have f0 := Lib.frozen_of_heap R1 0
                have f1 := Lib.frozen_of_heap R1 1
                have f2 := Lib.frozen_of_heap R1 2
                have f3 := Lib.frozen_of_heap R1 3
                have f4 := Lib.frozen_of_heap R1 4
                have f5 := Lib.frozen_of_heap R1 5
                simp at c0 c1 c2 c3 c4 c5
                clear R1
                go_wp2
                refine bodyPost_ret (v := .tuple #[.agg #[.int .i64 q1, .string (str q2), .int .i64 q3, .string (str q4), .string (str q5), .bool q6], .int .i64 q7, .int .i64 q8]) (by simp [results, Tryz.results7, go_sem, c0, c1, c2, c3, c4, c5]) rfl ?_
                exact ⟨by rw [HVQ.out]; rfl, (Below.setCell (p := ⟨w.heap.size, 5, none⟩) (Below.setCell (p := ⟨w.heap.size, 4, none⟩) (Below.setCell (p := ⟨w.heap.size, 3, none⟩) (Below.setCell (p := ⟨w.heap.size, 2, none⟩) (Below.setCell (p := ⟨w.heap.size, 1, none⟩) (Below.setCell (p := ⟨w.heap.size, 0, none⟩) (HB2.out.trans (HB5.out.mono (by omega))) (by simp) _) (by simp) _) (by simp) _) (by simp) _) (by simp) _) (by simp) _)⟩
              · subst h3
                rw [if_pos (by decide)] at HV2
                have HVQ : Hid (V = wrongP 7 52) := HV2
                clear HV2
                go_wp2_with fail
                refine (HA.out _).mono ?_
                rintro e w4 ⟨rfl, hb4⟩
                have HB4 : Hid (Below w2.heap.size w2 w4) := bel_trans HB3.out hb4
                clear hb4
                have R1 := (HB4.out.block _ (show w.heap.size < _ by omega)).trans HR1.out
                have c0 := Lib.cell_of_heap R1 0
                have c1 := Lib.cell_of_heap R1 1
                have c2 := Lib.cell_of_heap R1 2
                have c3 := Lib.cell_of_heap R1 3
                have c4 := Lib.cell_of_heap R1 4
                have c5 := Lib.cell_of_heap R1 5
                have f0 := Lib.frozen_of_heap R1 0
                have f1 := Lib.frozen_of_heap R1 1
                have f2 := Lib.frozen_of_heap R1 2
                have f3 := Lib.frozen_of_heap R1 3
                have f4 := Lib.frozen_of_heap R1 4
                have f5 := Lib.frozen_of_heap R1 5
                simp at c0 c1 c2 c3 c4 c5
                clear R1
                go_wp2
                refine bodyPost_ret (v := .tuple #[.agg #[.int .i64 0, .string ⟨#[]⟩, .int .i64 0, .string ⟨#[]⟩, .string ⟨#[]⟩, .bool false], .int .i64 7, .int .i64 52]) (by simp [results, Tryz.results7, go_sem, c0, c1, c2, c3, c4, c5]) rfl ?_
                exact ⟨by rw [HVQ.out]; rfl, (Below.setCell (p := ⟨w.heap.size, 5, none⟩) (Below.setCell (p := ⟨w.heap.size, 4, none⟩) (Below.setCell (p := ⟨w.heap.size, 3, none⟩) (Below.setCell (p := ⟨w.heap.size, 2, none⟩) (Below.setCell (p := ⟨w.heap.size, 1, none⟩) (Below.setCell (p := ⟨w.heap.size, 0, none⟩) (HB2.out.trans (HB4.out.mono (by omega))) (by simp) _) (by simp) _) (by simp) _) (by simp) _) (by simp) _) (by simp) _)⟩
            · rw [h63k.2] at hbk
              clear h63k
              have hks : k ≤ s.size := by omega
              have HA : Hid (∀ w, _) := HAu.out k hks hkh
              have HRk : Hid (∀ w, _) := HRs.out r1 r2 k hks
              have HV2 := HV.out
              rw [← hkh] at HV2
              clear HV
              clear HAu HRs HEh HEn hle
              have k7 : (7 : Int) ≤ (k : Int) := by omega
              have kz : (k : Int) ≤ (s.size : Int) := by omega
              clear hkh
              rcases hf.1 with h3 | h3
              · subst h3
                rw [if_neg (fun e => e rfl)] at HV2
                generalize placeP 2 r2 r1 s.data.toList k = Q at *
                have HVQ : Hid (V = Q) := HV2
                clear HV2
                go_wp2_with fail
                refine (HA.out _).mono ?_
                rintro e w4 ⟨rfl, hb4⟩
                have HB4 : Hid (Below w2.heap.size w2 w4) := bel_trans HB3.out hb4
                clear hb4
                go_wp2_with fail
                refine (HRk.out _).mono ?_
                rintro e w5 ⟨rfl, hb5⟩
                have HB5 : Hid (Below w2.heap.size w2 w5) := bel_trans HB4.out hb5
                clear hb5
                obtain ⟨q1, q2, q3, q4, q5, q6, q7, q8⟩ := Q
                unfold prV tgt
                dsimp only
                have R1 := (HB5.out.block _ (show w.heap.size < _ by omega)).trans HR1.out
                have c0 := Lib.cell_of_heap R1 0
                have c1 := Lib.cell_of_heap R1 1
                have c2 := Lib.cell_of_heap R1 2
                have c3 := Lib.cell_of_heap R1 3
                have c4 := Lib.cell_of_heap R1 4
                have c5 := Lib.cell_of_heap R1 5
                have f0 := Lib.frozen_of_heap R1 0
                have f1 := Lib.frozen_of_heap R1 1
                have f2 := Lib.frozen_of_heap R1 2
                have f3 := Lib.frozen_of_heap R1 3
                have f4 := Lib.frozen_of_heap R1 4
                have f5 := Lib.frozen_of_heap R1 5
                simp at c0 c1 c2 c3 c4 c5
                clear R1
                go_wp2
                refine bodyPost_ret (v := .tuple #[.agg #[.int .i64 q1, .string (str q2), .int .i64 q3, .string (str q4), .string (str q5), .bool q6], .int .i64 q7, .int .i64 q8]) (by simp [results, Tryz.results7, go_sem, c0, c1, c2, c3, c4, c5]) rfl ?_
                exact ⟨by rw [HVQ.out]; rfl, (Below.setCell (p := ⟨w.heap.size, 5, none⟩) (Below.setCell (p := ⟨w.heap.size, 4, none⟩) (Below.setCell (p := ⟨w.heap.size, 3, none⟩) (Below.setCell (p := ⟨w.heap.size, 2, none⟩) (Below.setCell (p := ⟨w.heap.size, 1, none⟩) (Below.setCell (p := ⟨w.heap.size, 0, none⟩) (HB2.out.trans (HB5.out.mono (by omega))) (by simp) _) (by simp) _) (by simp) _) (by simp) _) (by simp) _) (by simp) _)⟩
              · subst h3
                rw [if_pos (by decide)] at HV2
                have HVQ : Hid (V = wrongP 7 52) := HV2
                clear HV2
                go_wp2_with fail
                refine (HA.out _).mono ?_
                rintro e w4 ⟨rfl, hb4⟩
                have HB4 : Hid (Below w2.heap.size w2 w4) := bel_trans HB3.out hb4
                clear hb4
                have R1 := (HB4.out.block _ (show w.heap.size < _ by omega)).trans HR1.out
                have c0 := Lib.cell_of_heap R1 0
                have c1 := Lib.cell_of_heap R1 1
                have c2 := Lib.cell_of_heap R1 2
                have c3 := Lib.cell_of_heap R1 3
                have c4 := Lib.cell_of_heap R1 4
                have c5 := Lib.cell_of_heap R1 5
                have f0 := Lib.frozen_of_heap R1 0
                have f1 := Lib.frozen_of_heap R1 1
                have f2 := Lib.frozen_of_heap R1 2
                have f3 := Lib.frozen_of_heap R1 3
                have f4 := Lib.frozen_of_heap R1 4
                have f5 := Lib.frozen_of_heap R1 5
                simp at c0 c1 c2 c3 c4 c5
                clear R1
                go_wp2
                refine bodyPost_ret (v := .tuple #[.agg #[.int .i64 0, .string ⟨#[]⟩, .int .i64 0, .string ⟨#[]⟩, .string ⟨#[]⟩, .bool false], .int .i64 7, .int .i64 52]) (by simp [results, Tryz.results7, go_sem, c0, c1, c2, c3, c4, c5]) rfl ?_
                exact ⟨by rw [HVQ.out]; rfl, (Below.setCell (p := ⟨w.heap.size, 5, none⟩) (Below.setCell (p := ⟨w.heap.size, 4, none⟩) (Below.setCell (p := ⟨w.heap.size, 3, none⟩) (Below.setCell (p := ⟨w.heap.size, 2, none⟩) (Below.setCell (p := ⟨w.heap.size, 1, none⟩) (Below.setCell (p := ⟨w.heap.size, 0, none⟩) (HB2.out.trans (HB4.out.mono (by omega))) (by simp) _) (by simp) _) (by simp) _) (by simp) _) (by simp) _) (by simp) _)⟩
          · have hn := HEn.out k hk7 hz (by omega)
            have e47 : (byt s k == 47) = false := by simp [hn.1]
            have e63 : (byt s k == 63) = false := by simp [hn.2]
            have n47 : (byt s k != 47) = true := by simp [hn.1]
            have n63 : (byt s k != 63) = true := by simp [hn.2]
            clear hn
            go_wp2
            go_roundw
            case rel => exact ⟨k + 1, by omega, by omega, by go_num, by first | trivial | rfl⟩
            case measure => simp [intOf]; omega
        · have hkh : k = 7 + h := by omega
          have hks : k ≤ s.size := by omega
          have HA : Hid (∀ w, _) := HAu.out k hks hkh
          have HRk : Hid (∀ w, _) := HRs.out r1 r2 k hks
          have HV2 := HV.out
          rw [← hkh] at HV2
          clear HV
          clear HAu HRs HEh HEn hle
          have k7 : (7 : Int) ≤ (k : Int) := by omega
          have kz : (k : Int) ≤ (s.size : Int) := by omega
          clear hkh
          rcases hf.1 with h3 | h3
          · subst h3
            rw [if_neg (fun e => e rfl)] at HV2
            generalize placeP 2 r2 r1 s.data.toList k = Q at *
            have HVQ : Hid (V = Q) := HV2
            clear HV2
            go_wp2_with fail
            refine (HA.out _).mono ?_
            rintro e w4 ⟨rfl, hb4⟩
            have HB4 : Hid (Below w2.heap.size w2 w4) := bel_trans HB3.out hb4
            clear hb4
            go_wp2_with fail
            refine (HRk.out _).mono ?_
            rintro e w5 ⟨rfl, hb5⟩
            have HB5 : Hid (Below w2.heap.size w2 w5) := bel_trans HB4.out hb5
            clear hb5
            obtain ⟨q1, q2, q3, q4, q5, q6, q7, q8⟩ := Q
            unfold prV tgt
            dsimp only
            have R1 := (HB5.out.block _ (show w.heap.size < _ by omega)).trans HR1.out
            have c0 := Lib.cell_of_heap R1 0
            have c1 := Lib.cell_of_heap R1 1
            have c2 := Lib.cell_of_heap R1 2
            have c3 := Lib.cell_of_heap R1 3
            have c4 := Lib.cell_of_heap R1 4
            have c5 := Lib.cell_of_heap R1 5
            have f0 := Lib.frozen_of_heap R1 0
            have f1 := Lib.frozen_of_heap R1 1
            have f2 := Lib.frozen_of_heap R1 2
            have f3 := Lib.frozen_of_heap R1 3
            have f4 := Lib.frozen_of_heap R1 4
            have f5 := Lib.frozen_of_heap R1 5
            simp at c0 c1 c2 c3 c4 c5
            clear R1
            go_wp2
            refine bodyPost_ret (v := .tuple #[.agg #[.int .i64 q1, .string (str q2), .int .i64 q3, .string (str q4), .string (str q5), .bool q6], .int .i64 q7, .int .i64 q8]) (by simp [results, Tryz.results7, go_sem, c0, c1, c2, c3, c4, c5]) rfl ?_
            exact ⟨by rw [HVQ.out]; rfl, (Below.setCell (p := ⟨w.heap.size, 5, none⟩) (Below.setCell (p := ⟨w.heap.size, 4, none⟩) (Below.setCell (p := ⟨w.heap.size, 3, none⟩) (Below.setCell (p := ⟨w.heap.size, 2, none⟩) (Below.setCell (p := ⟨w.heap.size, 1, none⟩) (Below.setCell (p := ⟨w.heap.size, 0, none⟩) (HB2.out.trans (HB5.out.mono (by omega))) (by simp) _) (by simp) _) (by simp) _) (by simp) _) (by simp) _) (by simp) _)⟩
          · subst h3
            rw [if_pos (by decide)] at HV2
            have HVQ : Hid (V = wrongP 7 52) := HV2
            clear HV2
            go_wp2_with fail
            refine (HA.out _).mono ?_
            rintro e w4 ⟨rfl, hb4⟩
            have HB4 : Hid (Below w2.heap.size w2 w4) := bel_trans HB3.out hb4
            clear hb4
            have R1 := (HB4.out.block _ (show w.heap.size < _ by omega)).trans HR1.out
            have c0 := Lib.cell_of_heap R1 0
            have c1 := Lib.cell_of_heap R1 1
            have c2 := Lib.cell_of_heap R1 2
            have c3 := Lib.cell_of_heap R1 3
            have c4 := Lib.cell_of_heap R1 4
            have c5 := Lib.cell_of_heap R1 5
            have f0 := Lib.frozen_of_heap R1 0
            have f1 := Lib.frozen_of_heap R1 1
            have f2 := Lib.frozen_of_heap R1 2
            have f3 := Lib.frozen_of_heap R1 3
            have f4 := Lib.frozen_of_heap R1 4
            have f5 := Lib.frozen_of_heap R1 5
            simp at c0 c1 c2 c3 c4 c5
            clear R1
            go_wp2
            refine bodyPost_ret (v := .tuple #[.agg #[.int .i64 0, .string ⟨#[]⟩, .int .i64 0, .string ⟨#[]⟩, .string ⟨#[]⟩, .bool false], .int .i64 7, .int .i64 52]) (by simp [results, Tryz.results7, go_sem, c0, c1, c2, c3, c4, c5]) rfl ?_
            exact ⟨by rw [HVQ.out]; rfl, (Below.setCell (p := ⟨w.heap.size, 5, none⟩) (Below.setCell (p := ⟨w.heap.size, 4, none⟩) (Below.setCell (p := ⟨w.heap.size, 3, none⟩) (Below.setCell (p := ⟨w.heap.size, 2, none⟩) (Below.setCell (p := ⟨w.heap.size, 1, none⟩) (Below.setCell (p := ⟨w.heap.size, 0, none⟩) (HB2.out.trans (HB4.out.mono (by omega))) (by simp) _) (by simp) _) (by simp) _) (by simp) _) (by simp) _) (by simp) _)⟩
    · rw [if_pos (.inr hh)]
      rw [decide_eq_false hh] at hcmp
      clear hh
      generalize str (lower (s.data.toList.take 7)) = L7 at *
      unfold wrongP prV tgt
      dsimp only
      go_enter Tryz.func7, Tryz.ntmps7
      go_wp2_with fail
      rw [← hw2]
      refine (HS.out _).mono ?_
      rintro e w3 ⟨rfl, hb3⟩
      have HB3 : Hid (Below w2.heap.size w2 w3) := hb3
      clear hb3
      have R1 := (HB3.out.block _ (show w.heap.size < _ by omega)).trans HR1.out
      have c0 := Lib.cell_of_heap R1 0
      have c1 := Lib.cell_of_heap R1 1
      have c2 := Lib.cell_of_heap R1 2
      have c3 := Lib.cell_of_heap R1 3
      have c4 := Lib.cell_of_heap R1 4
      have c5 := Lib.cell_of_heap R1 5
      have f0 := Lib.frozen_of_heap R1 0
      have f1 := Lib.frozen_of_heap R1 1
      have f2 := Lib.frozen_of_heap R1 2
      have f3 := Lib.frozen_of_heap R1 3
      have f4 := Lib.frozen_of_heap R1 4
      have f5 := Lib.frozen_of_heap R1 5
      simp at c0 c1 c2 c3 c4 c5
      clear R1
      go_wp2
      refine bodyPost_ret (v := .tuple #[.agg #[.int .i64 0, .string ⟨#[]⟩, .int .i64 0, .string ⟨#[]⟩, .string ⟨#[]⟩, .bool false], .int .i64 0, .int .i64 50]) (by simp [results, Tryz.results7, go_sem, c0, c1, c2, c3, c4, c5]) rfl ?_
      exact ⟨rfl, (Below.setCell (p := ⟨w.heap.size, 5, none⟩) (Below.setCell (p := ⟨w.heap.size, 4, none⟩) (Below.setCell (p := ⟨w.heap.size, 3, none⟩) (Below.setCell (p := ⟨w.heap.size, 2, none⟩) (Below.setCell (p := ⟨w.heap.size, 1, none⟩) (Below.setCell (p := ⟨w.heap.size, 0, none⟩) (HB2.out.trans (HB3.out.mono (by omega))) (by simp) _) (by simp) _) (by simp) _) (by simp) _) (by simp) _) (by simp) _)⟩
  · have h1z : s.size = 1 := by
      rw [eqL] at hst
      rw [← size_list, of_decide_eq_true hst]; rfl
    have h7 : s.size < 7 := by omega
    clear h1z
    rw [if_pos (.inl h7)]
    have h7' : (s.size : Int) < 7 := by omega
    unfold wrongP prV tgt
    dsimp only
    have R1 := HR1.out
    have c0 := Lib.cell_of_heap R1 0
    have c1 := Lib.cell_of_heap R1 1
    have c2 := Lib.cell_of_heap R1 2
    have c3 := Lib.cell_of_heap R1 3
    have c4 := Lib.cell_of_heap R1 4
    have c5 := Lib.cell_of_heap R1 5
    have f0 := Lib.frozen_of_heap R1 0
    have f1 := Lib.frozen_of_heap R1 1
    have f2 := Lib.frozen_of_heap R1 2
    have f3 := Lib.frozen_of_heap R1 3
    have f4 := Lib.frozen_of_heap R1 4
    have f5 := Lib.frozen_of_heap R1 5
    simp at c0 c1 c2 c3 c4 c5
    clear R1
    rw [hw2] at c0 f0 c1 f1 c2 f2 c3 f3 c4 f4 c5 f5
    go_enter Tryz.func7, Tryz.ntmps7
    go_wp2
    refine bodyPost_ret (v := .tuple #[.agg #[.int .i64 0, .string ⟨#[]⟩, .int .i64 0, .string ⟨#[]⟩, .string ⟨#[]⟩, .bool false], .int .i64 0, .int .i64 50]) (by simp [results, Tryz.results7, go_sem, c0, c1, c2, c3, c4, c5]) rfl ?_
    exact ⟨rfl, (Below.refl _ w).alloc (Nat.le_refl _) _⟩

end Tg
end Go.Proofs.YtpnijigjlhfklaaGreatDoor
