/-
  A ring and its document's, made.
-/
import Derived.Test.YtonbjdiehbemjaaGRef2
import Derived.BigRegion
set_option linter.unusedVariables false
set_option linter.unusedSimpArgs false
namespace Go.Proofs.Ytonbjdiehbemjaa
open Go.RowKit
namespace Rg

set_option maxRecDepth 100000 in
set_option maxHeartbeats 2000000 in
theorem made_any (w : World) (c : Nat) (h1 : 1 ≤ c) (h2 : c ≤ 1048576) : Calls Try.prog 10 #[.int .i64 (c : Int)] w fun e w' => ∃ rp sb, e = .returned (.tuple #[.pointer (some ⟨rp, 0, none⟩), .agg #[.int .i64 (c : Int), .slice none 0 0, .int .i64 0], .bool true]) ∧ w.heap.size ≤ rp ∧ w.heap.size ≤ sb ∧ IsRing w' rp sb c 0 [] ∧ Below w.heap.size w w' := by
  obtain ⟨w1, hw1⟩ : ∃ w1, w1 = w.alloc (.cells #[.int .i64 0, .slice none 0 0, .int .i64 0] 27) := ⟨_, rfl⟩
  have HB1 : Hid (Below w.heap.size w w1) := (by rw [hw1]; exact (Below.refl _ w).alloc (Nat.le_refl _) _ : Below w.heap.size w w1)
  have HA1 : Hid (w1.heap[w.heap.size]? = some (.cells #[.int .i64 0, .slice none 0 0, .int .i64 0] 27 (0, 0))) := (by rw [hw1]; exact heap_alloc_new _ _ : w1.heap[w.heap.size]? = _)
  have hs1 : w.heap.size < w1.heap.size := by rw [hw1]; simp
  go_enter Try.func10, Try.ntmps10
  go_wp2_with fail
  rw [← hw1]
  clear hw1
  refine (New_any w1 c h1 h2).mono ?_
  rintro e w2 ⟨rfl, hA, hb⟩
  have HR2 : Hid (IsRing w2 (w1.heap.size + 1) w1.heap.size c 0 []) := hA
  have HB2 : Hid (Below w1.heap.size w1 w2) := hb
  clear hA hb
  go_wp2_with fail
  refine (rNew_any w2 c h1 h2).mono ?_
  rintro e w3 ⟨rfl, hb⟩
  have HB3 : Hid (Below w1.heap.size w1 w3) := bel_trans HB2.out hb
  have HR3 : Hid (IsRing w3 (w1.heap.size + 1) w1.heap.size c 0 []) := HR2.out.below hb
  clear hb
  obtain ⟨d0, d1, d2, df⟩ := row3 ((But.of_below HB3.out).heap HA1.out (fun e => by cases e))
  have hlt : w.heap.size < w3.heap.size := by have := HB3.out.size; omega
  have hne : w.heap.size ≠ w3.heap.size := by omega
  have hne2 : w3.heap.size ≠ w.heap.size := by omega
  have hn : (some (⟨w1.heap.size + 1, 0, none⟩ : Addr) == none) = false := rfl
  go_wp2
  go_region
  go_wp2
  have hz3 := (But.of_below HB3.out).heap HA1.out (fun e => by cases e)
  have z1 := heap_setCell_same w3 w.heap.size 0 _ _ (.int .i64 (c : Int)) hz3
  have z2 := heap_setCell_same _ w.heap.size 1 _ _ (.slice none 0 0) z1
  have z3 := heap_setCell_same _ w.heap.size 2 _ _ (.int .i64 0) z2
  have z4 := (Below.heap_alloc _ (.cells #[.int .i64 (c : Int), .slice none 0 0, .int .i64 0] 27) w.heap.size (Array.getElem?_eq_some_iff.1 z3).1).trans z3
  obtain ⟨f0, f1, f2, ff⟩ := row3 z4
  refine bodyPost_ret (v := .tuple #[.pointer (some ⟨w1.heap.size + 1, 0, none⟩), .agg #[.int .i64 (c : Int), .slice none 0 0, .int .i64 0], .bool true]) (by clear z1 z2 z3 z4 hz3; simp [results, Try.results10, go_sem, f0, f1, f2]) rfl ?_
  have hbut : But [w.heap.size] w3 ((((w3.setCell ⟨w.heap.size, 0, none⟩ (.int .i64 (c : Int))).setCell ⟨w.heap.size, 1, none⟩ (.slice none 0 0)).setCell ⟨w.heap.size, 2, none⟩ (.int .i64 0)).alloc (.cells #[.int .i64 (c : Int), .slice none 0 0, .int .i64 0] 27)).drew := (((((But.refl _ w3).setCell (by simp) _).setCell (by simp) _).setCell (by simp) _).alloc _).drew
  refine ⟨w1.heap.size + 1, w1.heap.size, rfl, by omega, by omega, HR3.out.but hbut (by simp; omega) (by simp; omega), ?_⟩
  exact (bel_trans HB1.out HB3.out).trans (hbut.below (by omega) (by simp))

set_option maxRecDepth 100000 in
set_option maxHeartbeats 2000000 in
theorem made_bad (w : World) (c : Int) (h : ¬ (1 ≤ c ∧ c ≤ 1048576)) : Calls Try.prog 10 #[.int .i64 c] w fun e w' => e = .returned (.tuple #[.pointer none, .agg #[.int .i64 0, .slice none 0 0, .int .i64 0], .bool true]) ∧ Below w.heap.size w w' := by
  obtain ⟨w1, hw1⟩ : ∃ w1, w1 = w.alloc (.cells #[.int .i64 0, .slice none 0 0, .int .i64 0] 27) := ⟨_, rfl⟩
  have HB1 : Hid (Below w.heap.size w w1) := (by rw [hw1]; exact (Below.refl _ w).alloc (Nat.le_refl _) _ : Below w.heap.size w w1)
  have HA1 : Hid (w1.heap[w.heap.size]? = some (.cells #[.int .i64 0, .slice none 0 0, .int .i64 0] 27 (0, 0))) := (by rw [hw1]; exact heap_alloc_new _ _ : w1.heap[w.heap.size]? = _)
  have hs1 : w.heap.size < w1.heap.size := by rw [hw1]; simp
  go_enter Try.func10, Try.ntmps10
  go_wp2_with fail
  rw [← hw1]
  clear hw1
  refine (New_bad w1 c h).mono ?_
  rintro e w2 ⟨rfl, hb⟩
  have HB2 : Hid (Below w1.heap.size w1 w2) := hb
  clear hb
  go_wp2_with fail
  refine (rNew_bad w2 c h).mono ?_
  rintro e w3 ⟨rfl, hb⟩
  have HB3 : Hid (Below w1.heap.size w1 w3) := bel_trans HB2.out hb
  clear hb
  obtain ⟨d0, d1, d2, df⟩ := row3 ((But.of_below HB3.out).heap HA1.out (fun e => by cases e))
  have hlt : w.heap.size < w3.heap.size := by have := HB3.out.size; omega
  have hne : w.heap.size ≠ w3.heap.size := by omega
  have hne2 : w3.heap.size ≠ w.heap.size := by omega
  go_wp2
  go_region
  go_wp2
  have hz3 := (But.of_below HB3.out).heap HA1.out (fun e => by cases e)
  have z1 := heap_setCell_same w3 w.heap.size 0 _ _ (.int .i64 0) hz3
  have z2 := heap_setCell_same _ w.heap.size 1 _ _ (.slice none 0 0) z1
  have z3 := heap_setCell_same _ w.heap.size 2 _ _ (.int .i64 0) z2
  have z4 := (Below.heap_alloc _ (.cells #[.int .i64 0, .slice none 0 0, .int .i64 0] 27) w.heap.size (Array.getElem?_eq_some_iff.1 z3).1).trans z3
  obtain ⟨f0, f1, f2, ff⟩ := row3 z4
  refine bodyPost_ret (v := .tuple #[.pointer none, .agg #[.int .i64 0, .slice none 0 0, .int .i64 0], .bool true]) (by clear z1 z2 z3 z4 hz3; simp [results, Try.results10, go_sem, f0, f1, f2]) rfl ?_
  have hbut : But [w.heap.size] w3 ((((w3.setCell ⟨w.heap.size, 0, none⟩ (.int .i64 0)).setCell ⟨w.heap.size, 1, none⟩ (.slice none 0 0)).setCell ⟨w.heap.size, 2, none⟩ (.int .i64 0)).alloc (.cells #[.int .i64 0, .slice none 0 0, .int .i64 0] 27)).drew := (((((But.refl _ w3).setCell (by simp) _).setCell (by simp) _).setCell (by simp) _).alloc _).drew
  exact ⟨rfl, (bel_trans HB1.out HB3.out).trans (hbut.below (by omega) (by simp))⟩

end Rg
end Go.Proofs.Ytonbjdiehbemjaa
