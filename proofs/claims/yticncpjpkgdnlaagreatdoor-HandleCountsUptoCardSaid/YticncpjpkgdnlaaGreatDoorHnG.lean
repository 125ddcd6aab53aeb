/-
  handle: answerEcho, Answer at Echo (written by mkhng.py)
-/
import Derived.Test.YticncpjpkgdnlaaGreatDoorHnF
set_option linter.unusedVariables false
set_option linter.unusedSimpArgs false
set_option maxRecDepth 100000
namespace Go.Proofs.YticncpjpkgdnlaaGreatDoor
open Go.RowKit Go.Shelf
namespace Hn
open Oc Tg _root_.Go.Proofs.YticncpjpkgdnlaaGreatDoor.Fd _root_.Go.Proofs.YticncpjpkgdnlaaGreatDoor.Ck _root_.Go.Proofs.YticncpjpkgdnlaaGreatDoor.Ms

set_option maxHeartbeats 4000000 in
theorem answerEcho_x (w : World) : Calls Tryz.prog 25 #[.agg #[.int .i64 4, .string ⟨#[]⟩, .string ⟨#[]⟩, .string ⟨#[]⟩, .int .i64 0, .int .i64 0], .agg #[.string ⟨#[71, 69, 84]⟩, .string ⟨#[47, 120]⟩, .int .i64 0, .int .i64 0, .slice none 0 0, .string ⟨#[]⟩, .slice none 0 0, .int .i64 0, .string ⟨#[]⟩, .int .i64 0, .string ⟨#[]⟩, .string ⟨#[]⟩, .bool false, .slice none 0 0, .int .i64 0], .pointer none] w fun e w' => ∃ a c, e = .returned (.agg #[.int .i64 200, .string ⟨#[]⟩, .slice a 1 c, .string ⟨#[71, 69, 84, 32, 47, 120, 10, 10]⟩]) ∧ OwnF 26 w.heap.size (.slice a 1 c) [(nCT, plT)] w' ∧ Below w.heap.size w w' := by
  obtain ⟨w1, hw1⟩ : ∃ w1, w1 = w.alloc (.cells #[.int .i64 4, .string ⟨#[]⟩, .string ⟨#[]⟩, .string ⟨#[]⟩, .int .i64 0, .int .i64 0] 39) := ⟨_, rfl⟩
  have hb1 : Below w.heap.size w w1 := by rw [hw1]; exact (Below.refl _ w).alloc (Nat.le_refl _) _
  have hs1 : w1.heap.size = w.heap.size + 1 := by rw [hw1]; simp
  obtain ⟨w2, hw2⟩ : ∃ w2, w2 = w1.alloc (.cells #[.string ⟨#[71, 69, 84]⟩, .string ⟨#[47, 120]⟩, .int .i64 0, .int .i64 0, .slice none 0 0, .string ⟨#[]⟩, .slice none 0 0, .int .i64 0, .string ⟨#[]⟩, .int .i64 0, .string ⟨#[]⟩, .string ⟨#[]⟩, .bool false, .slice none 0 0, .int .i64 0] 34) := ⟨_, rfl⟩
  have hb2 : Below w1.heap.size w1 w2 := by rw [hw2]; exact (Below.refl _ w1).alloc (Nat.le_refl _) _
  have hs2 : w2.heap.size = w.heap.size + 2 := by rw [hw2]; simp; omega
  have hZ2 : Blk 34 w2 (w.heap.size + 1) [.string ⟨#[71, 69, 84]⟩, .string ⟨#[47, 120]⟩, .int .i64 0, .int .i64 0, .slice none 0 0, .string ⟨#[]⟩, .slice none 0 0, .int .i64 0, .string ⟨#[]⟩, .int .i64 0, .string ⟨#[]⟩, .string ⟨#[]⟩, .bool false, .slice none 0 0, .int .i64 0] := by rw [hw2, ← hs1]; exact heap_alloc_new w1 _
  obtain ⟨w3, hw3⟩ : ∃ w3, w3 = w2.alloc (.cells #[.int .i64 0, .string ⟨#[]⟩, .slice none 0 0, .string ⟨#[]⟩] 36) := ⟨_, rfl⟩
  have hb3 : Below w2.heap.size w2 w3 := by rw [hw3]; exact (Below.refl _ w2).alloc (Nat.le_refl _) _
  have hR3 : Blk 36 w3 (w.heap.size + 2) [.int .i64 0, .string ⟨#[]⟩, .slice none 0 0, .string ⟨#[]⟩] := by rw [hw3, ← hs2]; exact heap_alloc_new w2 _
  have hs3 : w3.heap.size = w.heap.size + 3 := by rw [hw3]; simp; omega
  obtain ⟨w4, hw4⟩ : ∃ w4, w4 = w3.alloc (.cells #[.pointer none, .slice none 0 0] 58) := ⟨_, rfl⟩
  have hb4 : Below w3.heap.size w3 w4 := by rw [hw4]; exact (Below.refl _ w3).alloc (Nat.le_refl _) _
  have hs4 : w4.heap.size = w.heap.size + 4 := by rw [hw4]; simp; omega
  have hD4 : Bd (w.heap.size + 4) (w.heap.size + 3) [] w4 := by
    have := Bd.new w3 (w.heap.size + 4)
    rw [hs3] at this
    rw [hw4]
    exact this
  have HZ4 : Hid (Blk 34 w4 (w.heap.size + 1) [.string ⟨#[71, 69, 84]⟩, .string ⟨#[47, 120]⟩, .int .i64 0, .int .i64 0, .slice none 0 0, .string ⟨#[]⟩, .slice none 0 0, .int .i64 0, .string ⟨#[]⟩, .int .i64 0, .string ⟨#[]⟩, .string ⟨#[]⟩, .bool false, .slice none 0 0, .int .i64 0]) := ((hZ2.below hb3).below hb4 : Blk _ _ _ _)
  have HB4 : Hid (Below w.heap.size w w4) := (bel_tr (bel_tr (bel_tr hb1 hb2 (by omega)) hb3 (by omega)) hb4 (by omega) : Below _ _ _)
  have HW4 : Hid (w4 = _) := hw4
  have HW3 : Hid (w3 = _) := hw3
  have HW2 : Hid (w2 = _) := hw2
  have HW1 : Hid (w1 = _) := hw1
  have HS4 : Hid (w4.heap.size = w.heap.size + 4) := hs4
  have HR4 : Hid (Blk 36 w4 (w.heap.size + 2) [.int .i64 0, .string ⟨#[]⟩, .slice none 0 0, .string ⟨#[]⟩]) := (hR3.below hb4 : Blk _ _ _ _)
  have k0 := HZ4.out.cell 0 rfl
  have k1 := HZ4.out.cell 1 rfl
  have HC : Hid (Calls _ _ _ _ _) := WriteString_bd (w.heap.size + 4) (w.heap.size + 3) [] ⟨#[71, 69, 84, 32, 47, 120, 10]⟩ w4 hD4 (by decide) (by omega)
  have e1 : (⟨#[71, 69, 84]⟩ : ByteArray) ++ ⟨#[32]⟩ = ⟨#[71, 69, 84, 32]⟩ := by decide +kernel
  have e2 : (⟨#[71, 69, 84, 32]⟩ : ByteArray) ++ ⟨#[47, 120]⟩ = ⟨#[71, 69, 84, 32, 47, 120]⟩ := by decide +kernel
  have e3 : (⟨#[71, 69, 84, 32, 47, 120]⟩ : ByteArray) ++ ⟨#[10]⟩ = ⟨#[71, 69, 84, 32, 47, 120, 10]⟩ := by decide +kernel
  have e4 : (⟨#[10]⟩ : ByteArray) ++ ⟨#[]⟩ = ⟨#[10]⟩ := by decide +kernel
  clear hw1 hw2 hw3 hw4 hb1 hb2 hb3 hb4 hR3 hs1 hs2 hZ2 hs3 hs4 hD4
  go_enter Tryz.func25, Tryz.ntmps25
  go_wp2_with fail
  rw [← HW1.out, ← HW2.out, ← HW3.out, ← HW4.out]
  refine HC.out.mono ?_
  rintro e w5 ⟨rfl, hD5, hF5⟩
  rw [List.nil_append] at hD5
  have HD5 : Hid (Bd (w.heap.size + 4) (w.heap.size + 3) (Lib.strCells ⟨#[71, 69, 84, 32, 47, 120, 10]⟩) w5) := hD5
  have HZ5 : Hid (Blk 34 w5 (w.heap.size + 1) [.string ⟨#[71, 69, 84]⟩, .string ⟨#[47, 120]⟩, .int .i64 0, .int .i64 0, .slice none 0 0, .string ⟨#[]⟩, .slice none 0 0, .int .i64 0, .string ⟨#[]⟩, .int .i64 0, .string ⟨#[]⟩, .string ⟨#[]⟩, .bool false, .slice none 0 0, .int .i64 0]) := ((hF5.block _ (by omega) (by omega)).trans HZ4.out : Blk _ _ _ _)
  have HR5 : Hid (Blk 36 w5 (w.heap.size + 2) [.int .i64 0, .string ⟨#[]⟩, .slice none 0 0, .string ⟨#[]⟩]) := ((hF5.block _ (by omega) (by omega)).trans HR4.out : Blk _ _ _ _)
  have HB5 : Hid (Below w.heap.size w w5) := HB4.out.trans (hF5.below (by omega) (by omega))
  have hs5 : w.heap.size + 4 ≤ w5.heap.size := by have := hF5.size; have := HS4.out; omega
  have k4 := HZ5.out.cell 4 rfl
  have k5 := HZ5.out.cell 5 rfl
  have HC5 : Hid (Calls _ _ _ _ _) := WriteString_bd (w.heap.size + 4) (w.heap.size + 3) (Lib.strCells ⟨#[71, 69, 84, 32, 47, 120, 10]⟩) ⟨#[10]⟩ w5 hD5 (by decide) hs5
  clear hD5 hF5 HC HW1 HW2 HW3 HW4 HR4 HZ4 HB4 HS4 k0 k1 e1 e2 e3
  go_wp2_with fail
  go_loopw [24] (fun i wr => i = .int .i64 0 ∧ wr = w5) (fun i _ => 0)
  case atStart => exact ⟨rfl, rfl⟩
  case round =>
  obtain ⟨rfl, rfl⟩ := hrel
  go_wp2_with fail
  refine HC5.out.mono ?_
  rintro e w6 ⟨rfl, hD6, hF6⟩
  have HD6 : Hid (Bd (w.heap.size + 4) (w.heap.size + 3) (Lib.byteCells [71, 69, 84, 32, 47, 120, 10, 10]) w6) := (hD6 : Bd _ _ _ _)
  have HR6 : Hid (Blk 36 w6 (w.heap.size + 2) [.int .i64 0, .string ⟨#[]⟩, .slice none 0 0, .string ⟨#[]⟩]) := ((hF6.block _ (by omega) (by omega)).trans HR5.out : Blk _ _ _ _)
  have HB6 : Hid (Below w.heap.size w w6) := HB5.out.trans (hF6.below (by omega) (by omega))
  have hs6 : w.heap.size + 4 ≤ w6.heap.size := Nat.le_trans hs5 hF6.size
  have HC6 : Hid (Calls _ _ _ _ _) := String_bd (w.heap.size + 4) (w.heap.size + 3) [71, 69, 84, 32, 47, 120, 10, 10] w6 HD6.out hs6
  clear hD6 hF6 HC5 HR5 HZ5 HB5 HD5 k4 k5 hs5
  go_wp2_with fail
  refine HC6.out.mono ?_
  rintro e w7 ⟨rfl, hb7, _⟩
  have hb7' : Below (w.heap.size + 3) w6 w7 := hb7.mono (by omega)
  have HR7 : Hid (Blk 36 w7 (w.heap.size + 2) [.int .i64 0, .string ⟨#[]⟩, .slice none 0 0, .string ⟨#[]⟩]) := ((hb7'.block _ (by omega)).trans HR6.out : Blk _ _ _ _)
  have HB7 : Hid (Below w.heap.size w w7) := HB6.out.trans (hb7'.mono (by omega))
  rw [show str [71, 69, 84, 32, 47, 120, 10, 10] = ⟨#[71, 69, 84, 32, 47, 120, 10, 10]⟩ from rfl]
  have HC7 : Hid (Calls _ _ _ _ _) := texted_any ⟨#[71, 69, 84, 32, 47, 120, 10, 10]⟩ (.slice none 0 0) [] (by simp) w7 (inF_nil w7)
  clear hb7 hb7' HC6 HR6 HB6 HD6 hs6
  go_wp2_with fail
  refine HC7.out.mono ?_
  rintro e w8 ⟨a, c, rfl, ho, hb8⟩
  have HO8 : Hid (OwnF 26 w.heap.size (.slice a 1 c) [(nCT, plT)] w8) := own_upF ho HB7.out.size
  have HB8 : Hid (Below w.heap.size w w8) := bel_tr HB7.out hb8 HB7.out.size
  have HR8 : Hid (Blk 36 w8 (w.heap.size + 2) [.int .i64 0, .string ⟨#[]⟩, .slice none 0 0, .string ⟨#[]⟩]) := HR7.out.below hb8
  rw [show ([] : List Fl).length + 1 = 1 from rfl]
  clear ho hb8 HC7 HB7 HR7
  have r0 := HR8.out.cell 0 rfl
  have r1 := HR8.out.cell 1 rfl
  have r2 := HR8.out.cell 2 rfl
  have r3 := HR8.out.cell 3 rfl
  have rf := HR8.out.free
  have hD8 := HR8.out.lt
  have hb9 := set4_but w8 (w.heap.size + 2) (.int .i64 200) (.string ⟨#[]⟩) (.slice a 1 c) (.string ⟨#[71, 69, 84, 32, 47, 120, 10, 10]⟩)
  have hl9 : Below w.heap.size w8 (set4 w8 (w.heap.size + 2) (.int .i64 200) (.string ⟨#[]⟩) (.slice a 1 c) (.string ⟨#[71, 69, 84, 32, 47, 120, 10, 10]⟩)) := hb9.below (by omega) (fun x hx => by simp at hx; omega)
  obtain ⟨W9, hW9⟩ : ∃ W9, W9 = set4 w8 (w.heap.size + 2) (.int .i64 200) (.string ⟨#[]⟩) (.slice a 1 c) (.string ⟨#[71, 69, 84, 32, 47, 120, 10, 10]⟩) := ⟨_, rfl⟩
  have HL9 : Hid (Below w.heap.size w W9) := (by rw [hW9]; exact HB8.out.trans hl9 : Below _ _ _)
  have hB9 : Blk 36 W9 (w.heap.size + 2) [.int .i64 200, .string ⟨#[]⟩, .slice a 1 c, .string ⟨#[71, 69, 84, 32, 47, 120, 10, 10]⟩] := by rw [hW9]; exact set4_blk HR8.out (.int .i64 200) (.string ⟨#[]⟩) (.slice a 1 c) (.string ⟨#[71, 69, 84, 32, 47, 120, 10, 10]⟩)
  have HO9 : Hid (OwnF 26 w.heap.size (.slice a 1 c) [(nCT, plT)] W9) := (by rw [hW9]; exact HR8.out.keep HO8.out (by decide) hb9 : OwnF _ _ _ _ _)
  have HW9 : Hid (((((w8.setCell ⟨w.heap.size + 2, 0, none⟩ (.int .i64 200)).setCell ⟨w.heap.size + 2, 1, none⟩ (.string ⟨#[]⟩)).setCell ⟨w.heap.size + 2, 2, none⟩ (.slice a 1 c)).setCell ⟨w.heap.size + 2, 3, none⟩ (.string ⟨#[71, 69, 84, 32, 47, 120, 10, 10]⟩)) = W9) := hW9.symm
  clear hb9 hl9 hW9
  go_wp2
  rw [HW9.out]
  clear r0 r1 r2 r3 rf
  have q0 := hB9.cell 0 rfl
  have q1 := hB9.cell 1 rfl
  have q2 := hB9.cell 2 rfl
  have q3 := hB9.cell 3 rfl
  refine bodyPost_ret (v := .agg #[.int .i64 200, .string ⟨#[]⟩, .slice a 1 c, .string ⟨#[71, 69, 84, 32, 47, 120, 10, 10]⟩]) (by simp [results, Tryz.results25, go_sem, q0, q1, q2, q3]) rfl ?_
  exact ⟨a, c, rfl, HO9.out, HL9.out⟩


set_option maxHeartbeats 4000000 in
theorem Answer_echo (w : World) : Calls Tryz.prog 7 #[.agg #[.int .i64 4, .string ⟨#[]⟩, .string ⟨#[]⟩, .string ⟨#[]⟩, .int .i64 0, .int .i64 0], .agg #[.string ⟨#[71, 69, 84]⟩, .string ⟨#[47, 120]⟩, .int .i64 0, .int .i64 0, .slice none 0 0, .string ⟨#[]⟩, .slice none 0 0, .int .i64 0, .string ⟨#[]⟩, .int .i64 0, .string ⟨#[]⟩, .string ⟨#[]⟩, .bool false, .slice none 0 0, .int .i64 0], .pointer none] w fun e w' => ∃ a c, e = .returned (.agg #[.int .i64 200, .string ⟨#[]⟩, .slice a 1 c, .string ⟨#[71, 69, 84, 32, 47, 120, 10, 10]⟩]) ∧ OwnF 26 w.heap.size (.slice a 1 c) [(nCT, plT)] w' ∧ Below w.heap.size w w' := by
  obtain ⟨w1, hw1⟩ : ∃ w1, w1 = w.alloc (.cells #[.int .i64 4, .string ⟨#[]⟩, .string ⟨#[]⟩, .string ⟨#[]⟩, .int .i64 0, .int .i64 0] 39) := ⟨_, rfl⟩
  have hb1 : Below w.heap.size w w1 := by rw [hw1]; exact (Below.refl _ w).alloc (Nat.le_refl _) _
  have hs1 : w1.heap.size = w.heap.size + 1 := by rw [hw1]; simp
  have hK1 : Blk 39 w1 w.heap.size [.int .i64 4, .string ⟨#[]⟩, .string ⟨#[]⟩, .string ⟨#[]⟩, .int .i64 0, .int .i64 0] := by rw [hw1]; exact heap_alloc_new w _
  obtain ⟨w2, hw2⟩ : ∃ w2, w2 = w1.alloc (.cells #[.string ⟨#[71, 69, 84]⟩, .string ⟨#[47, 120]⟩, .int .i64 0, .int .i64 0, .slice none 0 0, .string ⟨#[]⟩, .slice none 0 0, .int .i64 0, .string ⟨#[]⟩, .int .i64 0, .string ⟨#[]⟩, .string ⟨#[]⟩, .bool false, .slice none 0 0, .int .i64 0] 34) := ⟨_, rfl⟩
  have hb2 : Below w1.heap.size w1 w2 := by rw [hw2]; exact (Below.refl _ w1).alloc (Nat.le_refl _) _
  have hs2 : w2.heap.size = w.heap.size + 2 := by rw [hw2]; simp; omega
  have hZ2 : Blk 34 w2 (w.heap.size + 1) [.string ⟨#[71, 69, 84]⟩, .string ⟨#[47, 120]⟩, .int .i64 0, .int .i64 0, .slice none 0 0, .string ⟨#[]⟩, .slice none 0 0, .int .i64 0, .string ⟨#[]⟩, .int .i64 0, .string ⟨#[]⟩, .string ⟨#[]⟩, .bool false, .slice none 0 0, .int .i64 0] := by rw [hw2, ← hs1]; exact heap_alloc_new w1 _
  obtain ⟨w3, hw3⟩ : ∃ w3, w3 = w2.alloc (.cells #[.int .i64 0, .string ⟨#[]⟩, .slice none 0 0, .string ⟨#[]⟩] 36) := ⟨_, rfl⟩
  have hb3 : Below w2.heap.size w2 w3 := by rw [hw3]; exact (Below.refl _ w2).alloc (Nat.le_refl _) _
  have hR3 : Blk 36 w3 (w.heap.size + 2) [.int .i64 0, .string ⟨#[]⟩, .slice none 0 0, .string ⟨#[]⟩] := by rw [hw3, ← hs2]; exact heap_alloc_new w2 _
  have hs3 : w3.heap.size = w.heap.size + 3 := by rw [hw3]; simp; omega
  have HK3 : Hid (Blk 39 w3 w.heap.size [.int .i64 4, .string ⟨#[]⟩, .string ⟨#[]⟩, .string ⟨#[]⟩, .int .i64 0, .int .i64 0]) := ((hK1.below hb2).below hb3 : Blk _ _ _ _)
  have HZ3 : Hid (Blk 34 w3 (w.heap.size + 1) [.string ⟨#[71, 69, 84]⟩, .string ⟨#[47, 120]⟩, .int .i64 0, .int .i64 0, .slice none 0 0, .string ⟨#[]⟩, .slice none 0 0, .int .i64 0, .string ⟨#[]⟩, .int .i64 0, .string ⟨#[]⟩, .string ⟨#[]⟩, .bool false, .slice none 0 0, .int .i64 0]) := (hZ2.below hb3 : Blk _ _ _ _)
  have HB3 : Hid (Below w.heap.size w w3) := (bel_tr (bel_tr hb1 hb2 (by omega)) hb3 (by omega) : Below _ _ _)
  have HW3 : Hid (w3 = _) := hw3
  have HW2 : Hid (w2 = _) := hw2
  have HW1 : Hid (w1 = _) := hw1
  have HS3 : Hid (w3.heap.size = w.heap.size + 3) := hs3
  have HR3 : Hid (Blk 36 w3 (w.heap.size + 2) [.int .i64 0, .string ⟨#[]⟩, .slice none 0 0, .string ⟨#[]⟩]) := hR3
  have k0 := HK3.out.cell 0 rfl
  have HC : Hid (Calls _ _ _ _ _) := kindOf_4 w3
  clear hw1 hw2 hw3 hb1 hb2 hb3 hK1 hR3 hs1 hs2 hZ2 hs3
  go_enter Tryz.func7, Tryz.ntmps7
  go_wp2_with fail
  rw [← HW1.out, ← HW2.out, ← HW3.out]
  refine HC.out.mono ?_
  rintro e w4 ⟨rfl, hb4⟩
  have hb5 : Below w4.heap.size w4 (w4.alloc (.cells #[.func (.func 23) #[] #[], .func (.func 24) #[] #[], .func (.func 25) #[] #[]] 47)) := (Below.refl _ w4).alloc (Nat.le_refl _) _
  have HM5 : Hid (Blk 47 (w4.alloc (.cells #[.func (.func 23) #[] #[], .func (.func 24) #[] #[], .func (.func 25) #[] #[]] 47)) w4.heap.size [.func (.func 23) #[] #[], .func (.func 24) #[] #[], .func (.func 25) #[] #[]]) := (heap_alloc_new w4 _ : Blk _ _ _ _)
  have HH5 : Hid (Blk 39 (w4.alloc (.cells #[.func (.func 23) #[] #[], .func (.func 24) #[] #[], .func (.func 25) #[] #[]] 47)) w.heap.size [.int .i64 4, .string ⟨#[]⟩, .string ⟨#[]⟩, .string ⟨#[]⟩, .int .i64 0, .int .i64 0]) := ((HK3.out.below hb4).below hb5 : Blk _ _ _ _)
  have HZ5 : Hid (Blk 34 (w4.alloc (.cells #[.func (.func 23) #[] #[], .func (.func 24) #[] #[], .func (.func 25) #[] #[]] 47)) (w.heap.size + 1) [.string ⟨#[71, 69, 84]⟩, .string ⟨#[47, 120]⟩, .int .i64 0, .int .i64 0, .slice none 0 0, .string ⟨#[]⟩, .slice none 0 0, .int .i64 0, .string ⟨#[]⟩, .int .i64 0, .string ⟨#[]⟩, .string ⟨#[]⟩, .bool false, .slice none 0 0, .int .i64 0]) := ((HZ3.out.below hb4).below hb5 : Blk _ _ _ _)
  have HR5 : Hid (Blk 36 (w4.alloc (.cells #[.func (.func 23) #[] #[], .func (.func 24) #[] #[], .func (.func 25) #[] #[]] 47)) (w.heap.size + 2) [.int .i64 0, .string ⟨#[]⟩, .slice none 0 0, .string ⟨#[]⟩]) := ((HR3.out.below hb4).below hb5 : Blk _ _ _ _)
  have HB4 : Hid (Below w.heap.size w w4) := bel_tr HB3.out hb4 HB3.out.size
  have HB5 : Hid (Below w.heap.size w (w4.alloc (.cells #[.func (.func 23) #[] #[], .func (.func 24) #[] #[], .func (.func 25) #[] #[]] 47))) := bel_tr HB4.out hb5 HB4.out.size
  have h0 : (w4.alloc (.cells #[.func (.func 23) #[] #[], .func (.func 24) #[] #[], .func (.func 25) #[] #[]] 47)).cell? ⟨w.heap.size, 0, none⟩ = some (.int .i64 4) := HH5.out.cell 0 rfl
  have h1 : (w4.alloc (.cells #[.func (.func 23) #[] #[], .func (.func 24) #[] #[], .func (.func 25) #[] #[]] 47)).cell? ⟨w.heap.size, 1, none⟩ = some (.string ⟨#[]⟩) := HH5.out.cell 1 rfl
  have h2 : (w4.alloc (.cells #[.func (.func 23) #[] #[], .func (.func 24) #[] #[], .func (.func 25) #[] #[]] 47)).cell? ⟨w.heap.size, 2, none⟩ = some (.string ⟨#[]⟩) := HH5.out.cell 2 rfl
  have h3 : (w4.alloc (.cells #[.func (.func 23) #[] #[], .func (.func 24) #[] #[], .func (.func 25) #[] #[]] 47)).cell? ⟨w.heap.size, 3, none⟩ = some (.string ⟨#[]⟩) := HH5.out.cell 3 rfl
  have h4 : (w4.alloc (.cells #[.func (.func 23) #[] #[], .func (.func 24) #[] #[], .func (.func 25) #[] #[]] 47)).cell? ⟨w.heap.size, 4, none⟩ = some (.int .i64 0) := HH5.out.cell 4 rfl
  have h5 : (w4.alloc (.cells #[.func (.func 23) #[] #[], .func (.func 24) #[] #[], .func (.func 25) #[] #[]] 47)).cell? ⟨w.heap.size, 5, none⟩ = some (.int .i64 0) := HH5.out.cell 5 rfl
  have m0 : (w4.alloc (.cells #[.func (.func 23) #[] #[], .func (.func 24) #[] #[], .func (.func 25) #[] #[]] 47)).cell? ⟨w4.heap.size, 0, none⟩ = some (.func (.func 23) #[] #[]) := HM5.out.cell 0 rfl
  have m1 : (w4.alloc (.cells #[.func (.func 23) #[] #[], .func (.func 24) #[] #[], .func (.func 25) #[] #[]] 47)).cell? ⟨w4.heap.size, 1, none⟩ = some (.func (.func 24) #[] #[]) := HM5.out.cell 1 rfl
  have m2 : (w4.alloc (.cells #[.func (.func 23) #[] #[], .func (.func 24) #[] #[], .func (.func 25) #[] #[]] 47)).cell? ⟨w4.heap.size, 2, none⟩ = some (.func (.func 25) #[] #[]) := HM5.out.cell 2 rfl
  have HT5 : Hid (Calls _ _ _ _ _) := takes_echo (w4.alloc (.cells #[.func (.func 23) #[] #[], .func (.func 24) #[] #[], .func (.func 25) #[] #[]] 47))
  clear hb4 hb5 HC HB3 HR3 HK3 HZ3 HW1 HW2 HW3 k0
  go_wp2_with fail
  refine HT5.out.mono ?_
  rintro e w6 ⟨rfl, hb6⟩
  have HM6 : Hid (Blk 47 w6 w4.heap.size [.func (.func 23) #[] #[], .func (.func 24) #[] #[], .func (.func 25) #[] #[]]) := HM5.out.below hb6
  have HH6 : Hid (Blk 39 w6 w.heap.size [.int .i64 4, .string ⟨#[]⟩, .string ⟨#[]⟩, .string ⟨#[]⟩, .int .i64 0, .int .i64 0]) := HH5.out.below hb6
  have HZ6 : Hid (Blk 34 w6 (w.heap.size + 1) [.string ⟨#[71, 69, 84]⟩, .string ⟨#[47, 120]⟩, .int .i64 0, .int .i64 0, .slice none 0 0, .string ⟨#[]⟩, .slice none 0 0, .int .i64 0, .string ⟨#[]⟩, .int .i64 0, .string ⟨#[]⟩, .string ⟨#[]⟩, .bool false, .slice none 0 0, .int .i64 0]) := HZ5.out.below hb6
  have HR6 : Hid (Blk 36 w6 (w.heap.size + 2) [.int .i64 0, .string ⟨#[]⟩, .slice none 0 0, .string ⟨#[]⟩]) := HR5.out.below hb6
  have HB6 : Hid (Below w.heap.size w w6) := bel_tr HB5.out hb6 HB5.out.size
  clear h0 h1 h2 h3 h4 h5 m0 m1 m2 hb6 HT5 HM5 HH5 HZ5 HR5 HB5
  have h0 := HH6.out.cell 0 rfl
  have h1 := HH6.out.cell 1 rfl
  have h2 := HH6.out.cell 2 rfl
  have h3 := HH6.out.cell 3 rfl
  have h4 := HH6.out.cell 4 rfl
  have h5 := HH6.out.cell 5 rfl
  have z0 := HZ6.out.cell 0 rfl
  have z1 := HZ6.out.cell 1 rfl
  have z2 := HZ6.out.cell 2 rfl
  have z3 := HZ6.out.cell 3 rfl
  have z4 := HZ6.out.cell 4 rfl
  have z5 := HZ6.out.cell 5 rfl
  have z6 := HZ6.out.cell 6 rfl
  have z7 := HZ6.out.cell 7 rfl
  have z8 := HZ6.out.cell 8 rfl
  have z9 := HZ6.out.cell 9 rfl
  have z10 := HZ6.out.cell 10 rfl
  have z11 := HZ6.out.cell 11 rfl
  have z12 := HZ6.out.cell 12 rfl
  have z13 := HZ6.out.cell 13 rfl
  have z14 := HZ6.out.cell 14 rfl
  have m2 := HM6.out.cell 2 rfl
  have HA6 : Hid (Calls _ _ _ _ _) := answerEcho_x w6
  go_wp2_with fail
  refine HA6.out.mono ?_
  rintro e w8 ⟨a, c, rfl, ho, hb8⟩
  have HO8 : Hid (OwnF 26 w.heap.size (.slice a 1 c) [(nCT, plT)] w8) := own_upF ho HB6.out.size
  have HB8 : Hid (Below w.heap.size w w8) := bel_tr HB6.out hb8 HB6.out.size
  have HR8 : Hid (Blk 36 w8 (w.heap.size + 2) [.int .i64 0, .string ⟨#[]⟩, .slice none 0 0, .string ⟨#[]⟩]) := HR6.out.below hb8
  clear ho hb8 HA6 HM6 HH6 HZ6 HR6 HB6 h0 h1 h2 h3 h4 h5 z0 z1 z2 z3 z4 z5 z6 z7 z8 z9 z10 z11 z12 z13 z14 m2 HB4
  have r0 := HR8.out.cell 0 rfl
  have r1 := HR8.out.cell 1 rfl
  have r2 := HR8.out.cell 2 rfl
  have r3 := HR8.out.cell 3 rfl
  have rf := HR8.out.free
  have hD8 := HR8.out.lt
  have hb9 := set4_but w8 (w.heap.size + 2) (.int .i64 200) (.string ⟨#[]⟩) (.slice a 1 c) (.string ⟨#[71, 69, 84, 32, 47, 120, 10, 10]⟩)
  have hl9 : Below w.heap.size w8 (set4 w8 (w.heap.size + 2) (.int .i64 200) (.string ⟨#[]⟩) (.slice a 1 c) (.string ⟨#[71, 69, 84, 32, 47, 120, 10, 10]⟩)) := hb9.below (by omega) (fun x hx => by simp at hx; omega)
  obtain ⟨W9, hW9⟩ : ∃ W9, W9 = set4 w8 (w.heap.size + 2) (.int .i64 200) (.string ⟨#[]⟩) (.slice a 1 c) (.string ⟨#[71, 69, 84, 32, 47, 120, 10, 10]⟩) := ⟨_, rfl⟩
  have HL9 : Hid (Below w.heap.size w W9) := (by rw [hW9]; exact HB8.out.trans hl9 : Below _ _ _)
  have hB9 : Blk 36 W9 (w.heap.size + 2) [.int .i64 200, .string ⟨#[]⟩, .slice a 1 c, .string ⟨#[71, 69, 84, 32, 47, 120, 10, 10]⟩] := by rw [hW9]; exact set4_blk HR8.out (.int .i64 200) (.string ⟨#[]⟩) (.slice a 1 c) (.string ⟨#[71, 69, 84, 32, 47, 120, 10, 10]⟩)
  have HO9 : Hid (OwnF 26 w.heap.size (.slice a 1 c) [(nCT, plT)] W9) := (by rw [hW9]; exact HR8.out.keep HO8.out (by decide) hb9 : OwnF _ _ _ _ _)
  have HW9 : Hid (((((w8.setCell ⟨w.heap.size + 2, 0, none⟩ (.int .i64 200)).setCell ⟨w.heap.size + 2, 1, none⟩ (.string ⟨#[]⟩)).setCell ⟨w.heap.size + 2, 2, none⟩ (.slice a 1 c)).setCell ⟨w.heap.size + 2, 3, none⟩ (.string ⟨#[71, 69, 84, 32, 47, 120, 10, 10]⟩)) = W9) := hW9.symm
  clear hb9 hl9 hW9
  go_wp2
  rw [HW9.out]
  clear r0 r1 r2 r3 rf
  have q0 := hB9.cell 0 rfl
  have q1 := hB9.cell 1 rfl
  have q2 := hB9.cell 2 rfl
  have q3 := hB9.cell 3 rfl
  refine bodyPost_ret (v := .agg #[.int .i64 200, .string ⟨#[]⟩, .slice a 1 c, .string ⟨#[71, 69, 84, 32, 47, 120, 10, 10]⟩]) (by simp [results, Tryz.results7, go_sem, q0, q1, q2, q3]) rfl ?_
  exact ⟨a, c, rfl, HO9.out, HL9.out⟩

end Hn
end Go.Proofs.YticncpjpkgdnlaaGreatDoor
