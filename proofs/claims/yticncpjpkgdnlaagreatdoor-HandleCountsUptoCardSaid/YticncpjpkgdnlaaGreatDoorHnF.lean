/-
  handle: answerText, Answer at Text (written by mkhnf.py)
-/
import Derived.Test.YticncpjpkgdnlaaGreatDoorMgK
import Derived.Test.YticncpjpkgdnlaaGreatDoorHnE
set_option linter.unusedVariables false
set_option linter.unusedSimpArgs false
set_option maxRecDepth 100000
namespace Go.Proofs.YticncpjpkgdnlaaGreatDoor
open Go.RowKit Go.Shelf
namespace Hn
open Oc Tg _root_.Go.Proofs.YticncpjpkgdnlaaGreatDoor.Fd _root_.Go.Proofs.YticncpjpkgdnlaaGreatDoor.Ck _root_.Go.Proofs.YticncpjpkgdnlaaGreatDoor.Ms

theorem inF_nil (w : World) : InF (.slice none 0 0) [] w := ⟨⟨none, 0, rfl, .inl rfl⟩, fun h => .inl rfl⟩

set_option maxHeartbeats 2000000 in
theorem answerText_hi (w : World) : Calls Tryz.prog 16 #[.agg #[.int .i64 1, .string ⟨#[]⟩, .string ⟨#[104, 105]⟩, .string ⟨#[97, 47, 98]⟩, .int .i64 200, .int .i64 0], .agg #[.string ⟨#[]⟩, .string ⟨#[]⟩, .int .i64 0, .int .i64 0, .slice none 0 0, .string ⟨#[]⟩, .slice none 0 0, .int .i64 0, .string ⟨#[]⟩, .int .i64 0, .string ⟨#[]⟩, .string ⟨#[]⟩, .bool false, .slice none 0 0, .int .i64 0], .pointer none] w fun e w' => ∃ a c, e = .returned (.agg #[.int .i64 200, .string ⟨#[]⟩, .slice a 1 c, .string ⟨#[104, 105]⟩]) ∧ OwnF 26 w.heap.size (.slice a 1 c) [(nCT, [97, 47, 98])] w' ∧ Below w.heap.size w w' := by
  obtain ⟨w1, hw1⟩ : ∃ w1, w1 = w.alloc (.cells #[.int .i64 1, .string ⟨#[]⟩, .string ⟨#[104, 105]⟩, .string ⟨#[97, 47, 98]⟩, .int .i64 200, .int .i64 0] 39) := ⟨_, rfl⟩
  have hb1 : Below w.heap.size w w1 := by rw [hw1]; exact (Below.refl _ w).alloc (Nat.le_refl _) _
  have hs1 : w1.heap.size = w.heap.size + 1 := by rw [hw1]; simp
  have hK1 : Blk 39 w1 w.heap.size [.int .i64 1, .string ⟨#[]⟩, .string ⟨#[104, 105]⟩, .string ⟨#[97, 47, 98]⟩, .int .i64 200, .int .i64 0] := by rw [hw1]; exact heap_alloc_new w _
  obtain ⟨w2, hw2⟩ : ∃ w2, w2 = w1.alloc (.cells #[.string ⟨#[]⟩, .string ⟨#[]⟩, .int .i64 0, .int .i64 0, .slice none 0 0, .string ⟨#[]⟩, .slice none 0 0, .int .i64 0, .string ⟨#[]⟩, .int .i64 0, .string ⟨#[]⟩, .string ⟨#[]⟩, .bool false, .slice none 0 0, .int .i64 0] 34) := ⟨_, rfl⟩
  have hb2 : Below w1.heap.size w1 w2 := by rw [hw2]; exact (Below.refl _ w1).alloc (Nat.le_refl _) _
  have hs2 : w2.heap.size = w.heap.size + 2 := by rw [hw2]; simp; omega
  obtain ⟨w3, hw3⟩ : ∃ w3, w3 = w2.alloc (.cells #[.int .i64 0, .string ⟨#[]⟩, .slice none 0 0, .string ⟨#[]⟩] 36) := ⟨_, rfl⟩
  have hb3 : Below w2.heap.size w2 w3 := by rw [hw3]; exact (Below.refl _ w2).alloc (Nat.le_refl _) _
  have hR3 : Blk 36 w3 (w.heap.size + 2) [.int .i64 0, .string ⟨#[]⟩, .slice none 0 0, .string ⟨#[]⟩] := by rw [hw3, ← hs2]; exact heap_alloc_new w2 _
  have hs3 : w3.heap.size = w.heap.size + 3 := by rw [hw3]; simp; omega
  have hK3 : Blk 39 w3 w.heap.size [.int .i64 1, .string ⟨#[]⟩, .string ⟨#[104, 105]⟩, .string ⟨#[97, 47, 98]⟩, .int .i64 200, .int .i64 0] := (hK1.below hb2).below hb3
  have HB3 : Hid (Below w.heap.size w w3) := (bel_tr (bel_tr hb1 hb2 (by omega)) hb3 (by omega) : Below _ _ _)
  have HW3 : Hid (w3 = _) := hw3
  have HW2 : Hid (w2 = _) := hw2
  have HW1 : Hid (w1 = _) := hw1
  have HR3 : Hid (Blk 36 w3 (w.heap.size + 2) [.int .i64 0, .string ⟨#[]⟩, .slice none 0 0, .string ⟨#[]⟩]) := hR3
  have k2 := hK3.cell 2 rfl
  have k3 := hK3.cell 3 rfl
  have k4 := hK3.cell 4 rfl
  have HC : Hid (Calls _ _ _ _ _) := written_any 200 ⟨#[97, 47, 98]⟩ ⟨#[104, 105]⟩ (.slice none 0 0) [] (by simp) w3 (inF_nil w3)
  clear hw1 hw2 hw3 hb1 hb2 hb3 hK1 hK3 hR3 hs1 hs2
  go_enter Tryz.func16, Tryz.ntmps16
  go_wp2_with fail
  rw [← HW1.out, ← HW2.out, ← HW3.out]
  refine HC.out.mono ?_
  rintro e w4 ⟨a, c, rfl, ho, hb4⟩
  have HO4 : Hid (OwnF 26 w.heap.size (.slice a 1 c) [(nCT, [97, 47, 98])] w4) := own_upF ho HB3.out.size
  have HB4 : Hid (Below w.heap.size w w4) := bel_tr HB3.out hb4 HB3.out.size
  have HR4 : Hid (Blk 36 w4 (w.heap.size + 2) [.int .i64 0, .string ⟨#[]⟩, .slice none 0 0, .string ⟨#[]⟩]) := HR3.out.below hb4
  rw [show ([] : List Fl).length + 1 = 1 from rfl]
  clear ho hb4 HC HB3 HR3 HW1 HW2 HW3 k2 k3 k4
  have r0 := HR4.out.cell 0 rfl
  have r1 := HR4.out.cell 1 rfl
  have r2 := HR4.out.cell 2 rfl
  have r3 := HR4.out.cell 3 rfl
  have rf := HR4.out.free
  have hD4 := HR4.out.lt
  have hb9 := set4_but w4 (w.heap.size + 2) (.int .i64 200) (.string ⟨#[]⟩) (.slice a 1 c) (.string ⟨#[104, 105]⟩)
  have hl9 : Below w.heap.size w4 (set4 w4 (w.heap.size + 2) (.int .i64 200) (.string ⟨#[]⟩) (.slice a 1 c) (.string ⟨#[104, 105]⟩)) := hb9.below (by omega) (fun x hx => by simp at hx; omega)
  obtain ⟨W9, hW9⟩ : ∃ W9, W9 = set4 w4 (w.heap.size + 2) (.int .i64 200) (.string ⟨#[]⟩) (.slice a 1 c) (.string ⟨#[104, 105]⟩) := ⟨_, rfl⟩
  have HL9 : Hid (Below w.heap.size w W9) := (by rw [hW9]; exact HB4.out.trans hl9 : Below _ _ _)
  have hB9 : Blk 36 W9 (w.heap.size + 2) [.int .i64 200, .string ⟨#[]⟩, .slice a 1 c, .string ⟨#[104, 105]⟩] := by rw [hW9]; exact set4_blk HR4.out (.int .i64 200) (.string ⟨#[]⟩) (.slice a 1 c) (.string ⟨#[104, 105]⟩)
  have HO9 : Hid (OwnF 26 w.heap.size (.slice a 1 c) [(nCT, [97, 47, 98])] W9) := (by rw [hW9]; exact HR4.out.keep HO4.out (by decide) hb9 : OwnF _ _ _ _ _)
  have HW9 : Hid (((((w4.setCell ⟨w.heap.size + 2, 0, none⟩ (.int .i64 200)).setCell ⟨w.heap.size + 2, 1, none⟩ (.string ⟨#[]⟩)).setCell ⟨w.heap.size + 2, 2, none⟩ (.slice a 1 c)).setCell ⟨w.heap.size + 2, 3, none⟩ (.string ⟨#[104, 105]⟩)) = W9) := hW9.symm
  clear hb9 hl9 hW9
  go_wp2
  rw [HW9.out]
  clear r0 r1 r2 r3 rf
  have q0 := hB9.cell 0 rfl
  have q1 := hB9.cell 1 rfl
  have q2 := hB9.cell 2 rfl
  have q3 := hB9.cell 3 rfl
  refine bodyPost_ret (v := .agg #[.int .i64 200, .string ⟨#[]⟩, .slice a 1 c, .string ⟨#[104, 105]⟩]) (by simp [results, Tryz.results16, go_sem, q0, q1, q2, q3]) rfl ?_
  exact ⟨a, c, rfl, HO9.out, HL9.out⟩

set_option maxHeartbeats 4000000 in
theorem Answer_text (w : World) : Calls Tryz.prog 7 #[.agg #[.int .i64 1, .string ⟨#[]⟩, .string ⟨#[104, 105]⟩, .string ⟨#[97, 47, 98]⟩, .int .i64 200, .int .i64 0], .agg #[.string ⟨#[]⟩, .string ⟨#[]⟩, .int .i64 0, .int .i64 0, .slice none 0 0, .string ⟨#[]⟩, .slice none 0 0, .int .i64 0, .string ⟨#[]⟩, .int .i64 0, .string ⟨#[]⟩, .string ⟨#[]⟩, .bool false, .slice none 0 0, .int .i64 0], .pointer none] w fun e w' => ∃ a c, e = .returned (.agg #[.int .i64 200, .string ⟨#[]⟩, .slice a 1 c, .string ⟨#[104, 105]⟩]) ∧ OwnF 26 w.heap.size (.slice a 1 c) [(nCT, [97, 47, 98])] w' ∧ Below w.heap.size w w' := by
  obtain ⟨w1, hw1⟩ : ∃ w1, w1 = w.alloc (.cells #[.int .i64 1, .string ⟨#[]⟩, .string ⟨#[104, 105]⟩, .string ⟨#[97, 47, 98]⟩, .int .i64 200, .int .i64 0] 39) := ⟨_, rfl⟩
  have hb1 : Below w.heap.size w w1 := by rw [hw1]; exact (Below.refl _ w).alloc (Nat.le_refl _) _
  have hs1 : w1.heap.size = w.heap.size + 1 := by rw [hw1]; simp
  have hK1 : Blk 39 w1 w.heap.size [.int .i64 1, .string ⟨#[]⟩, .string ⟨#[104, 105]⟩, .string ⟨#[97, 47, 98]⟩, .int .i64 200, .int .i64 0] := by rw [hw1]; exact heap_alloc_new w _
  obtain ⟨w2, hw2⟩ : ∃ w2, w2 = w1.alloc (.cells #[.string ⟨#[]⟩, .string ⟨#[]⟩, .int .i64 0, .int .i64 0, .slice none 0 0, .string ⟨#[]⟩, .slice none 0 0, .int .i64 0, .string ⟨#[]⟩, .int .i64 0, .string ⟨#[]⟩, .string ⟨#[]⟩, .bool false, .slice none 0 0, .int .i64 0] 34) := ⟨_, rfl⟩
  have hb2 : Below w1.heap.size w1 w2 := by rw [hw2]; exact (Below.refl _ w1).alloc (Nat.le_refl _) _
  have hs2 : w2.heap.size = w.heap.size + 2 := by rw [hw2]; simp; omega
  have hZ2 : Blk 34 w2 (w.heap.size + 1) [.string ⟨#[]⟩, .string ⟨#[]⟩, .int .i64 0, .int .i64 0, .slice none 0 0, .string ⟨#[]⟩, .slice none 0 0, .int .i64 0, .string ⟨#[]⟩, .int .i64 0, .string ⟨#[]⟩, .string ⟨#[]⟩, .bool false, .slice none 0 0, .int .i64 0] := by rw [hw2, ← hs1]; exact heap_alloc_new w1 _
  obtain ⟨w3, hw3⟩ : ∃ w3, w3 = w2.alloc (.cells #[.int .i64 0, .string ⟨#[]⟩, .slice none 0 0, .string ⟨#[]⟩] 36) := ⟨_, rfl⟩
  have hb3 : Below w2.heap.size w2 w3 := by rw [hw3]; exact (Below.refl _ w2).alloc (Nat.le_refl _) _
  have hR3 : Blk 36 w3 (w.heap.size + 2) [.int .i64 0, .string ⟨#[]⟩, .slice none 0 0, .string ⟨#[]⟩] := by rw [hw3, ← hs2]; exact heap_alloc_new w2 _
  have hs3 : w3.heap.size = w.heap.size + 3 := by rw [hw3]; simp; omega
  have HK3 : Hid (Blk 39 w3 w.heap.size [.int .i64 1, .string ⟨#[]⟩, .string ⟨#[104, 105]⟩, .string ⟨#[97, 47, 98]⟩, .int .i64 200, .int .i64 0]) := ((hK1.below hb2).below hb3 : Blk _ _ _ _)
  have HZ3 : Hid (Blk 34 w3 (w.heap.size + 1) [.string ⟨#[]⟩, .string ⟨#[]⟩, .int .i64 0, .int .i64 0, .slice none 0 0, .string ⟨#[]⟩, .slice none 0 0, .int .i64 0, .string ⟨#[]⟩, .int .i64 0, .string ⟨#[]⟩, .string ⟨#[]⟩, .bool false, .slice none 0 0, .int .i64 0]) := (hZ2.below hb3 : Blk _ _ _ _)
  have HB3 : Hid (Below w.heap.size w w3) := (bel_tr (bel_tr hb1 hb2 (by omega)) hb3 (by omega) : Below _ _ _)
  have HW3 : Hid (w3 = _) := hw3
  have HW2 : Hid (w2 = _) := hw2
  have HW1 : Hid (w1 = _) := hw1
  have HS3 : Hid (w3.heap.size = w.heap.size + 3) := hs3
  have HR3 : Hid (Blk 36 w3 (w.heap.size + 2) [.int .i64 0, .string ⟨#[]⟩, .slice none 0 0, .string ⟨#[]⟩]) := hR3
  have k0 := HK3.out.cell 0 rfl
  have HC : Hid (Calls _ _ _ _ _) := kindOf_1 w3
  clear hw1 hw2 hw3 hb1 hb2 hb3 hK1 hR3 hs1 hs2 hZ2 hs3
  go_enter Tryz.func7, Tryz.ntmps7
  go_wp2_with fail
  rw [← HW1.out, ← HW2.out, ← HW3.out]
  refine HC.out.mono ?_
  rintro e w4 ⟨rfl, hb4⟩
  have hb5 : Below w4.heap.size w4 (w4.alloc (.cells #[.func (.func 14) #[] #[], .func (.func 15) #[] #[], .func (.func 16) #[] #[]] 47)) := (Below.refl _ w4).alloc (Nat.le_refl _) _
  have HM5 : Hid (Blk 47 (w4.alloc (.cells #[.func (.func 14) #[] #[], .func (.func 15) #[] #[], .func (.func 16) #[] #[]] 47)) w4.heap.size [.func (.func 14) #[] #[], .func (.func 15) #[] #[], .func (.func 16) #[] #[]]) := (heap_alloc_new w4 _ : Blk _ _ _ _)
  have HH5 : Hid (Blk 39 (w4.alloc (.cells #[.func (.func 14) #[] #[], .func (.func 15) #[] #[], .func (.func 16) #[] #[]] 47)) w.heap.size [.int .i64 1, .string ⟨#[]⟩, .string ⟨#[104, 105]⟩, .string ⟨#[97, 47, 98]⟩, .int .i64 200, .int .i64 0]) := ((HK3.out.below hb4).below hb5 : Blk _ _ _ _)
  have HZ5 : Hid (Blk 34 (w4.alloc (.cells #[.func (.func 14) #[] #[], .func (.func 15) #[] #[], .func (.func 16) #[] #[]] 47)) (w.heap.size + 1) [.string ⟨#[]⟩, .string ⟨#[]⟩, .int .i64 0, .int .i64 0, .slice none 0 0, .string ⟨#[]⟩, .slice none 0 0, .int .i64 0, .string ⟨#[]⟩, .int .i64 0, .string ⟨#[]⟩, .string ⟨#[]⟩, .bool false, .slice none 0 0, .int .i64 0]) := ((HZ3.out.below hb4).below hb5 : Blk _ _ _ _)
  have HR5 : Hid (Blk 36 (w4.alloc (.cells #[.func (.func 14) #[] #[], .func (.func 15) #[] #[], .func (.func 16) #[] #[]] 47)) (w.heap.size + 2) [.int .i64 0, .string ⟨#[]⟩, .slice none 0 0, .string ⟨#[]⟩]) := ((HR3.out.below hb4).below hb5 : Blk _ _ _ _)
  have HB4 : Hid (Below w.heap.size w w4) := bel_tr HB3.out hb4 HB3.out.size
  have HB5 : Hid (Below w.heap.size w (w4.alloc (.cells #[.func (.func 14) #[] #[], .func (.func 15) #[] #[], .func (.func 16) #[] #[]] 47))) := bel_tr HB4.out hb5 HB4.out.size
  have h0 : (w4.alloc (.cells #[.func (.func 14) #[] #[], .func (.func 15) #[] #[], .func (.func 16) #[] #[]] 47)).cell? ⟨w.heap.size, 0, none⟩ = some (.int .i64 1) := HH5.out.cell 0 rfl
  have h1 : (w4.alloc (.cells #[.func (.func 14) #[] #[], .func (.func 15) #[] #[], .func (.func 16) #[] #[]] 47)).cell? ⟨w.heap.size, 1, none⟩ = some (.string ⟨#[]⟩) := HH5.out.cell 1 rfl
  have h2 : (w4.alloc (.cells #[.func (.func 14) #[] #[], .func (.func 15) #[] #[], .func (.func 16) #[] #[]] 47)).cell? ⟨w.heap.size, 2, none⟩ = some (.string ⟨#[104, 105]⟩) := HH5.out.cell 2 rfl
  have h3 : (w4.alloc (.cells #[.func (.func 14) #[] #[], .func (.func 15) #[] #[], .func (.func 16) #[] #[]] 47)).cell? ⟨w.heap.size, 3, none⟩ = some (.string ⟨#[97, 47, 98]⟩) := HH5.out.cell 3 rfl
  have h4 : (w4.alloc (.cells #[.func (.func 14) #[] #[], .func (.func 15) #[] #[], .func (.func 16) #[] #[]] 47)).cell? ⟨w.heap.size, 4, none⟩ = some (.int .i64 200) := HH5.out.cell 4 rfl
  have h5 : (w4.alloc (.cells #[.func (.func 14) #[] #[], .func (.func 15) #[] #[], .func (.func 16) #[] #[]] 47)).cell? ⟨w.heap.size, 5, none⟩ = some (.int .i64 0) := HH5.out.cell 5 rfl
  have m0 : (w4.alloc (.cells #[.func (.func 14) #[] #[], .func (.func 15) #[] #[], .func (.func 16) #[] #[]] 47)).cell? ⟨w4.heap.size, 0, none⟩ = some (.func (.func 14) #[] #[]) := HM5.out.cell 0 rfl
  have m1 : (w4.alloc (.cells #[.func (.func 14) #[] #[], .func (.func 15) #[] #[], .func (.func 16) #[] #[]] 47)).cell? ⟨w4.heap.size, 1, none⟩ = some (.func (.func 15) #[] #[]) := HM5.out.cell 1 rfl
  have m2 : (w4.alloc (.cells #[.func (.func 14) #[] #[], .func (.func 15) #[] #[], .func (.func 16) #[] #[]] 47)).cell? ⟨w4.heap.size, 2, none⟩ = some (.func (.func 16) #[] #[]) := HM5.out.cell 2 rfl
  have HT5 : Hid (Calls _ _ _ _ _) := takes_text (w4.alloc (.cells #[.func (.func 14) #[] #[], .func (.func 15) #[] #[], .func (.func 16) #[] #[]] 47))
  clear hb4 hb5 HC HB3 HR3 HK3 HZ3 HW1 HW2 HW3 k0
  go_wp2_with fail
  refine HT5.out.mono ?_
  rintro e w6 ⟨rfl, hb6⟩
  have HM6 : Hid (Blk 47 w6 w4.heap.size [.func (.func 14) #[] #[], .func (.func 15) #[] #[], .func (.func 16) #[] #[]]) := HM5.out.below hb6
  have HH6 : Hid (Blk 39 w6 w.heap.size [.int .i64 1, .string ⟨#[]⟩, .string ⟨#[104, 105]⟩, .string ⟨#[97, 47, 98]⟩, .int .i64 200, .int .i64 0]) := HH5.out.below hb6
  have HZ6 : Hid (Blk 34 w6 (w.heap.size + 1) [.string ⟨#[]⟩, .string ⟨#[]⟩, .int .i64 0, .int .i64 0, .slice none 0 0, .string ⟨#[]⟩, .slice none 0 0, .int .i64 0, .string ⟨#[]⟩, .int .i64 0, .string ⟨#[]⟩, .string ⟨#[]⟩, .bool false, .slice none 0 0, .int .i64 0]) := HZ5.out.below hb6
  have HR6 : Hid (Blk 36 w6 (w.heap.size + 2) [.int .i64 0, .string ⟨#[]⟩, .slice none 0 0, .string ⟨#[]⟩]) := HR5.out.below hb6
  have HB6 : Hid (Below w.heap.size w w6) := bel_tr HB5.out hb6 HB5.out.size
  clear h0 h1 h2 h3 h4 h5 m0 m1 m2 hb6 HT5 HM5 HH5 HZ5 HR5 HB5
  have h0 := HH6.out.cell 0 rfl
  have h1 := HH6.out.cell 1 rfl
  have h2 := HH6.out.cell 2 rfl
  have h3 := HH6.out.cell 3 rfl
  have h4 := HH6.out.cell 4 rfl
  have h5 := HH6.out.cell 5 rfl
  have z0 := HZ6.out.cell 0 rfl
  have z1 := HZ6.out.cell 1 rfl
  have z2 := HZ6.out.cell 2 rfl
  have z3 := HZ6.out.cell 3 rfl
  have z4 := HZ6.out.cell 4 rfl
  have z5 := HZ6.out.cell 5 rfl
  have z6 := HZ6.out.cell 6 rfl
  have z7 := HZ6.out.cell 7 rfl
  have z8 := HZ6.out.cell 8 rfl
  have z9 := HZ6.out.cell 9 rfl
  have z10 := HZ6.out.cell 10 rfl
  have z11 := HZ6.out.cell 11 rfl
  have z12 := HZ6.out.cell 12 rfl
  have z13 := HZ6.out.cell 13 rfl
  have z14 := HZ6.out.cell 14 rfl
  have m2 := HM6.out.cell 2 rfl
  have HA6 : Hid (Calls _ _ _ _ _) := answerText_hi w6
  go_wp2_with fail
  refine HA6.out.mono ?_
  rintro e w8 ⟨a, c, rfl, ho, hb8⟩
  have HO8 : Hid (OwnF 26 w.heap.size (.slice a 1 c) [(nCT, [97, 47, 98])] w8) := own_upF ho HB6.out.size
  have HB8 : Hid (Below w.heap.size w w8) := bel_tr HB6.out hb8 HB6.out.size
  have HR8 : Hid (Blk 36 w8 (w.heap.size + 2) [.int .i64 0, .string ⟨#[]⟩, .slice none 0 0, .string ⟨#[]⟩]) := HR6.out.below hb8
  clear ho hb8 HA6 HM6 HH6 HZ6 HR6 HB6 h0 h1 h2 h3 h4 h5 z0 z1 z2 z3 z4 z5 z6 z7 z8 z9 z10 z11 z12 z13 z14 m2 HB4
  have r0 := HR8.out.cell 0 rfl
  have r1 := HR8.out.cell 1 rfl
  have r2 := HR8.out.cell 2 rfl
  have r3 := HR8.out.cell 3 rfl
  have rf := HR8.out.free
  have hD8 := HR8.out.lt
  have hb9 := set4_but w8 (w.heap.size + 2) (.int .i64 200) (.string ⟨#[]⟩) (.slice a 1 c) (.string ⟨#[104, 105]⟩)
  have hl9 : Below w.heap.size w8 (set4 w8 (w.heap.size + 2) (.int .i64 200) (.string ⟨#[]⟩) (.slice a 1 c) (.string ⟨#[104, 105]⟩)) := hb9.below (by omega) (fun x hx => by simp at hx; omega)
  obtain ⟨W9, hW9⟩ : ∃ W9, W9 = set4 w8 (w.heap.size + 2) (.int .i64 200) (.string ⟨#[]⟩) (.slice a 1 c) (.string ⟨#[104, 105]⟩) := ⟨_, rfl⟩
  have HL9 : Hid (Below w.heap.size w W9) := (by rw [hW9]; exact HB8.out.trans hl9 : Below _ _ _)
  have hB9 : Blk 36 W9 (w.heap.size + 2) [.int .i64 200, .string ⟨#[]⟩, .slice a 1 c, .string ⟨#[104, 105]⟩] := by rw [hW9]; exact set4_blk HR8.out (.int .i64 200) (.string ⟨#[]⟩) (.slice a 1 c) (.string ⟨#[104, 105]⟩)
  have HO9 : Hid (OwnF 26 w.heap.size (.slice a 1 c) [(nCT, [97, 47, 98])] W9) := (by rw [hW9]; exact HR8.out.keep HO8.out (by decide) hb9 : OwnF _ _ _ _ _)
  have HW9 : Hid (((((w8.setCell ⟨w.heap.size + 2, 0, none⟩ (.int .i64 200)).setCell ⟨w.heap.size + 2, 1, none⟩ (.string ⟨#[]⟩)).setCell ⟨w.heap.size + 2, 2, none⟩ (.slice a 1 c)).setCell ⟨w.heap.size + 2, 3, none⟩ (.string ⟨#[104, 105]⟩)) = W9) := hW9.symm
  clear hb9 hl9 hW9
  go_wp2
  rw [HW9.out]
  clear r0 r1 r2 r3 rf
  have q0 := hB9.cell 0 rfl
  have q1 := hB9.cell 1 rfl
  have q2 := hB9.cell 2 rfl
  have q3 := hB9.cell 3 rfl
  refine bodyPost_ret (v := .agg #[.int .i64 200, .string ⟨#[]⟩, .slice a 1 c, .string ⟨#[104, 105]⟩]) (by simp [results, Tryz.results7, go_sem, q0, q1, q2, q3]) rfl ?_
  exact ⟨a, c, rfl, HO9.out, HL9.out⟩

end Hn
end Go.Proofs.YticncpjpkgdnlaaGreatDoor
