/-
  AcceptPrints.
-/
import Derived.Test.YtmgadjnllahbiaaDoorARn
import Derived.Test.YtmgadjnllahbiaaDoorAAw
import Derived.Test.YtmgadjnllahbiaaDoorALk
set_option linter.unusedVariables false
set_option linter.unusedSimpArgs false
namespace Go.Proofs.YtmgadjnllahbiaaDoor
open Go.RowKit Go.Shelf
namespace Ac
open Oc Tg

theorem MB {T : Nat} {w : World} {g : Nat} {A B : ByteArray} {v : Value} (h : w.heap[g]? = some (.cells #[.string A, .string B, v] T (0, 0))) : w.cell? ⟨g, 0, none⟩ = some (.string A) ∧ w.cell? ⟨g, 1, none⟩ = some (.string B) ∧ w.cell? ⟨g, 2, none⟩ = some v := by
  have c0 := Lib.cell_of_heap h 0
  have c1 := Lib.cell_of_heap h 1
  have c2 := Lib.cell_of_heap h 2
  simp at c0 c1 c2
  exact ⟨c0, c1, c2⟩
theorem heap_bel {w w' : World} {g : Nat} {o : Obj} (h : w.heap[g]? = some o) (b : Below w.heap.size w w') : w'.heap[g]? = some o := by
  have hl : g < w.heap.size := by
    rcases Nat.lt_or_ge g w.heap.size with h' | h'
    · exact h'
    · simp [Array.getElem?_eq_none h'] at h
  rw [b.block g hl]
  exact h

set_option maxRecDepth 100000 in
set_option maxHeartbeats 4000000 in
theorem walk_AcceptPrints (A B : List UInt8) (v : Value) (ps : List Prm) (hA : A.length ≤ 1048576) (hB : B.length ≤ 1048576) (hM : EachP 1048576 ps) (hl : ps.length ≤ 1048576) (hS : sumP ps ≤ 8388608) (w : World) (hrd : RdP v ps w) (hw : Env w) :
    Calls Tryd.prog 3 #[.agg #[.string (str A), .string (str B), v]] w fun e w' => e = .returned (.bool true) ∧ Below w.heap.size w w' := by
  have HE : Hid (Env w) := hw
  have HR : Hid (RdP v ps w) := hrd
  have HMd : Hid (∀ W, RdP v ps W → Calls _ _ _ W _) := fun W h => media_any (str A) (str B) v ps (by omega) W h
  have HP : Hid (∀ W, RdP v ps W → Env W → Calls _ _ _ W _) := fun W h he => Print07_any A B v ps hA hB hM hl hS W h he.1
  have HQ : Hid (∀ u W, RdP u ps W → Calls _ _ _ W _) := fun u W h => rPrint07_any A B u ps hA hB hM hl hS W h
  have HAk : Hid (∀ v1 v2 W, RdP v1 ps W → RdP v2 ps W → Calls _ _ _ W _) := fun v1 v2 W h1 h2 => alike07_any (str A) (str B) v1 v2 ps W h1 h2 (by omega)
  have HAw : Hid (∀ W, Env W → Calls _ _ _ W _) := fun W he => awake_any W he
  have hprl : (prM A B ps).1.length ≤ 134217728 := by
    rw [prM_doc]
    split
    · simp
    · have : (printR ps).1.length ≤ 16777216 := by
        unfold printR
        cases hp : prts ps with
        | none => simp
        | some x => have := prts_len ps x hp; dsimp only; omega
      simp
      omega
  have HB' : Hid ((prM A B ps).2 = 0 → ∀ W, Env W → Calls Tryd.prog 9 #[.string (str (prM A B ps).1)] W fun e w' => ∃ u, e = .returned (.tuple #[.agg #[.string (str A), .string (str B), u], .int .i64 0]) ∧ RdP u ps w' ∧ Below W.heap.size W w') := fun h W he => by
    have hp := Parse_any (str (prM A B ps).1) (by rw [str_size]; exact hprl) W he
    rw [str_list, prM_read A B ps h] at hp
    refine hp.mono ?_
    rintro e w' ⟨u, rfl, ho, hb⟩
    exact ⟨u, rfl, OwnP.rd ho, hb⟩
  clear hw hprl
  obtain ⟨va, vc, rfl, _⟩ := hrd
  generalize prM A B ps = PM at *
  obtain ⟨pt, pe⟩ := PM
  dsimp only at *
  generalize str pt = PT at *
  generalize str A = SA at *
  generalize str B = SB at *
  obtain ⟨w1, hw1⟩ : ∃ w1, w1 = w.alloc (.cells #[.string SA, .string SB, .slice va ps.length vc] 24) := ⟨_, rfl⟩
  have H1 : Hid (w1.heap[w.heap.size]? = some (.cells #[.string SA, .string SB, .slice va ps.length vc] 24 (0, 0))) := (by rw [hw1]; exact heap_alloc_new w _ : _ = _)
  have HB1 : Hid (Below w.heap.size w w1) := (by rw [hw1]; exact (Below.refl _ w).alloc (Nat.le_refl _) _ : Below _ _ _)
  obtain ⟨c0, c1, c2⟩ := MB H1.out
  go_enter Tryd.func3, Tryd.ntmps3
  go_wp2_with fail
  rw [← hw1]
  clear hw1
  refine (HMd.out _ (HR.out.below HB1.out)).mono ?_
  rintro e w2 ⟨u, rfl, hou, hb2⟩
  have HB2 : Hid (Below w.heap.size w w2) := bel_trans HB1.out hb2
  have H2 : Hid (_ = _) := heap_bel H1.out hb2
  have HRu : Hid (RdP u ps w2) := OwnP.rd hou
  obtain ⟨ua, uc, rfl, _⟩ := OwnP.rd hou
  clear hou hb2 c0 c1 c2
  obtain ⟨w3, hw3⟩ : ∃ w3, w3 = w2.alloc (.cells #[.string SA, .string SB, .slice ua ps.length uc] 27) := ⟨_, rfl⟩
  have hb3 : Below w2.heap.size w2 w3 := by rw [hw3]; exact (Below.refl _ w2).alloc (Nat.le_refl _) _
  have HB3 : Hid (Below w.heap.size w w3) := bel_trans HB2.out hb3
  have H3 : Hid (_ = _) := heap_bel H2.out hb3
  have K3 : Hid (w3.heap[w2.heap.size]? = some (.cells #[.string SA, .string SB, .slice ua ps.length uc] 27 (0, 0))) := (by rw [hw3]; exact heap_alloc_new w2 _ : _ = _)
  have HRu3 : Hid (RdP _ ps w3) := HRu.out.below hb3
  clear hb3
  obtain ⟨c0, c1, c2⟩ := MB H2.out
  have hlt2 : w.heap.size < w2.heap.size := World.block_lt_of_cell? w2 _ c0
  have hne1 : w.heap.size ≠ w2.heap.size := by omega
  have hne2 : w2.heap.size ≠ w.heap.size := by omega
  generalize hg2 : w2.heap.size = g2 at *
  go_wp2_with fail
  rw [← hw3]
  clear hw3
  refine (HP.out _ (HR.out.below HB3.out) (HE.out.below HB3.out)).mono ?_
  rintro e w4 ⟨rfl, hb4⟩
  have HB4 : Hid (Below w.heap.size w w4) := bel_trans HB3.out hb4
  have H4 : Hid (_ = _) := heap_bel H3.out hb4
  have K4 : Hid (_ = _) := heap_bel K3.out hb4
  have HRu4 : Hid (RdP _ ps w4) := HRu3.out.below hb4
  clear hb4 c0 c1 c2
  obtain ⟨c0, c1, c2⟩ := MB K4.out
  go_wp2_with fail
  refine (HQ.out _ _ HRu4.out).mono ?_
  rintro e w5 ⟨rfl, hb5⟩
  have HB5 : Hid (Below w.heap.size w w5) := bel_trans HB4.out hb5
  have H5 : Hid (_ = _) := heap_bel H4.out hb5
  have K5 : Hid (_ = _) := heap_bel K4.out hb5
  have HRu5 : Hid (RdP _ ps w5) := HRu4.out.below hb5
  clear hb5 c0 c1 c2
  go_wp2_with fail
  refine (HAw.out _ (HE.out.below HB5.out)).mono ?_
  rintro e w6 ⟨rfl, hb6⟩
  have HB6 : Hid (Below w.heap.size w w6) := bel_trans HB5.out hb6
  have H6 : Hid (_ = _) := heap_bel H5.out hb6
  have K6 : Hid (_ = _) := heap_bel K5.out hb6
  have HRu6 : Hid (RdP _ ps w6) := HRu5.out.below hb6
  clear hb6
  obtain ⟨c0, c1, c2⟩ := MB H6.out
  obtain ⟨d0, d1, d2⟩ := MB K6.out
  have nT : (PT.toList != PT.toList) = false := by simp
  have nE : (pe != pe) = false := by simp
  go_wp2_with fail
  refine (HAk.out _ _ _ (HR.out.below HB6.out) HRu6.out).mono ?_
  rintro e w7 ⟨rfl, hb7⟩
  have HB7 : Hid (Below w.heap.size w w7) := bel_trans HB6.out hb7
  have K7 : Hid (_ = _) := heap_bel K6.out hb7
  have HRu7 : Hid (RdP _ ps w7) := HRu6.out.below hb7
  clear hb7 c0 c1 c2 d0 d1 d2
  by_cases hpe : pe = 0
  · subst hpe
    have HBk := HB'.out rfl
    have HBk' : Hid (∀ W, Env W → Calls _ _ _ W _) := HBk
    clear HBk
    go_wp2_with fail
    refine (HBk'.out _ (HE.out.below HB7.out)).mono ?_
    rintro e w8 ⟨u2, rfl, hru2, hb8⟩
    have HB8 : Hid (Below w.heap.size w w8) := bel_trans HB7.out hb8
    have K8 : Hid (_ = _) := heap_bel K7.out hb8
    have HRu8 : Hid (RdP _ ps w8) := HRu7.out.below hb8
    have HR8 : Hid (RdP u2 ps w8) := hru2
    obtain ⟨xa, xc, rfl, _⟩ := hru2
    clear hb8
    obtain ⟨w9, hw9⟩ : ∃ w9, w9 = w8.alloc (.cells #[.string SA, .string SB, .slice xa ps.length xc] 24) := ⟨_, rfl⟩
    have hb9 : Below w8.heap.size w8 w9 := by rw [hw9]; exact (Below.refl _ w8).alloc (Nat.le_refl _) _
    have HB9 : Hid (Below w.heap.size w w9) := bel_trans HB8.out hb9
    have J9 : Hid (w9.heap[w8.heap.size]? = some (.cells #[.string SA, .string SB, .slice xa ps.length xc] 24 (0, 0))) := (by rw [hw9]; exact heap_alloc_new w8 _ : _ = _)
    have K9 : Hid (_ = _) := heap_bel K8.out hb9
    have HRu9 : Hid (RdP _ ps w9) := HRu8.out.below hb9
    have HR9 : Hid (RdP _ ps w9) := HR8.out.below hb9
    clear hb9
    obtain ⟨d0, d1, d2⟩ := MB K8.out
    have hlt8 : g2 < w8.heap.size := World.block_lt_of_cell? w8 _ d0
    have hne3 : g2 ≠ w8.heap.size := by omega
    have hne4 : w8.heap.size ≠ g2 := by omega
    generalize hg8 : w8.heap.size = g8 at *
    go_wp2_with fail
    rw [← hw9]
    clear hw9
    refine (HAk.out _ _ _ HR9.out HRu9.out).mono ?_
    rintro e wa ⟨rfl, hba⟩
    have HBa : Hid (Below w.heap.size w wa) := bel_trans HB9.out hba
    clear hba
    go_wp2
    go_ret
    exact ⟨ret_bool (by simp), HBa.out⟩
  · have hpe' : (pe != 0) = true := by simp [hpe]
    go_wp2
    go_ret
    exact ⟨rfl, HB7.out⟩

end Ac
end Go.Proofs.YtmgadjnllahbiaaDoor
