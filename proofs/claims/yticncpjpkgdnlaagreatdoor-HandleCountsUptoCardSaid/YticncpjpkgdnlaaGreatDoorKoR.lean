/-
  handle: Answer of a counter (written by mkkor.py).
-/
import Derived.Test.YticncpjpkgdnlaaGreatDoorHnI
import Derived.Test.YticncpjpkgdnlaaGreatDoorMgM
set_option linter.unusedVariables false
set_option linter.unusedSimpArgs false
set_option maxRecDepth 100000
namespace Go.Proofs.YticncpjpkgdnlaaGreatDoor
open Go.RowKit Go.Shelf
namespace Ko
open Oc Tg _root_.Go.Proofs.YticncpjpkgdnlaaGreatDoor.Fd _root_.Go.Proofs.YticncpjpkgdnlaaGreatDoor.Ck _root_.Go.Proofs.YticncpjpkgdnlaaGreatDoor.Ms _root_.Go.Proofs.YticncpjpkgdnlaaGreatDoor.Hn

set_option maxHeartbeats 8000000 in
theorem Answer_count (nm BD : ByteArray) (LF : List Fl) (hn : nm.size ≤ maxLen) (ht : isTok nm.data.toList = true) (av : Option Addr) (cv : Nat) (w : World) (tb : Tab w)
    (hSo : ∀ W, Below w.heap.size w W → Calls Tryz.prog 35 #[.agg #[.int .i64 8, .string nm, .string ⟨#[]⟩, .string ⟨#[]⟩, .int .i64 0, .int .i64 0], .agg #[.string ⟨#[71, 69, 84]⟩, .string ⟨#[47]⟩, .int .i64 0, .int .i64 0, .slice av 1 cv, .string ⟨#[]⟩, .slice none 0 0, .int .i64 0, .string ⟨#[]⟩, .int .i64 0, .string ⟨#[]⟩, .string ⟨#[]⟩, .bool false, .slice none 0 0, .int .i64 0], .pointer none] W fun e w' => ∃ a cc, e = .returned (.agg #[.int .i64 200, .string ⟨#[]⟩, .slice a 2 cc, .string BD]) ∧ OwnF 26 W.heap.size (.slice a 2 cc) LF w' ∧ Below W.heap.size W w') :
    Calls Tryz.prog 7 #[.agg #[.int .i64 8, .string nm, .string ⟨#[]⟩, .string ⟨#[]⟩, .int .i64 0, .int .i64 0], .agg #[.string ⟨#[71, 69, 84]⟩, .string ⟨#[47]⟩, .int .i64 0, .int .i64 0, .slice av 1 cv, .string ⟨#[]⟩, .slice none 0 0, .int .i64 0, .string ⟨#[]⟩, .int .i64 0, .string ⟨#[]⟩, .string ⟨#[]⟩, .bool false, .slice none 0 0, .int .i64 0], .pointer none] w fun e w' => ∃ a cc, e = .returned (.agg #[.int .i64 200, .string ⟨#[]⟩, .slice a 2 cc, .string BD]) ∧ OwnF 26 w.heap.size (.slice a 2 cc) LF w' ∧ Below w.heap.size w w' := by
  have HSo : Hid (∀ W, Below w.heap.size w W → Calls Tryz.prog 35 #[.agg #[.int .i64 8, .string nm, .string ⟨#[]⟩, .string ⟨#[]⟩, .int .i64 0, .int .i64 0], .agg #[.string ⟨#[71, 69, 84]⟩, .string ⟨#[47]⟩, .int .i64 0, .int .i64 0, .slice av 1 cv, .string ⟨#[]⟩, .slice none 0 0, .int .i64 0, .string ⟨#[]⟩, .int .i64 0, .string ⟨#[]⟩, .string ⟨#[]⟩, .bool false, .slice none 0 0, .int .i64 0], .pointer none] W fun e w' => ∃ a cc, e = .returned (.agg #[.int .i64 200, .string ⟨#[]⟩, .slice a 2 cc, .string BD]) ∧ OwnF 26 W.heap.size (.slice a 2 cc) LF w' ∧ Below W.heap.size W w') := hSo
  have HTb : Hid (∀ W, Below w.heap.size w W → Tab W) := fun W h => tb.below h (Nat.le_refl _)
  obtain ⟨w1, hw1⟩ : ∃ w1, w1 = w.alloc (.cells #[.int .i64 8, .string nm, .string ⟨#[]⟩, .string ⟨#[]⟩, .int .i64 0, .int .i64 0] 39) := ⟨_, rfl⟩
  have hb1 : Below w.heap.size w w1 := by rw [hw1]; exact (Below.refl _ w).alloc (Nat.le_refl _) _
  have hs1 : w1.heap.size = w.heap.size + 1 := by rw [hw1]; simp
  have hK1 : Blk 39 w1 w.heap.size [.int .i64 8, .string nm, .string ⟨#[]⟩, .string ⟨#[]⟩, .int .i64 0, .int .i64 0] := by rw [hw1]; exact heap_alloc_new w _
  obtain ⟨w2, hw2⟩ : ∃ w2, w2 = w1.alloc (.cells #[.string ⟨#[71, 69, 84]⟩, .string ⟨#[47]⟩, .int .i64 0, .int .i64 0, .slice av 1 cv, .string ⟨#[]⟩, .slice none 0 0, .int .i64 0, .string ⟨#[]⟩, .int .i64 0, .string ⟨#[]⟩, .string ⟨#[]⟩, .bool false, .slice none 0 0, .int .i64 0] 34) := ⟨_, rfl⟩
  have hb2 : Below w1.heap.size w1 w2 := by rw [hw2]; exact (Below.refl _ w1).alloc (Nat.le_refl _) _
  have hs2 : w2.heap.size = w.heap.size + 2 := by rw [hw2]; simp; omega
  have hZ2 : Blk 34 w2 (w.heap.size + 1) [.string ⟨#[71, 69, 84]⟩, .string ⟨#[47]⟩, .int .i64 0, .int .i64 0, .slice av 1 cv, .string ⟨#[]⟩, .slice none 0 0, .int .i64 0, .string ⟨#[]⟩, .int .i64 0, .string ⟨#[]⟩, .string ⟨#[]⟩, .bool false, .slice none 0 0, .int .i64 0] := by rw [hw2, ← hs1]; exact heap_alloc_new w1 _
  obtain ⟨w3, hw3⟩ : ∃ w3, w3 = w2.alloc (.cells #[.int .i64 0, .string ⟨#[]⟩, .slice none 0 0, .string ⟨#[]⟩] 36) := ⟨_, rfl⟩
  have hb3 : Below w2.heap.size w2 w3 := by rw [hw3]; exact (Below.refl _ w2).alloc (Nat.le_refl _) _
  have hR3 : Blk 36 w3 (w.heap.size + 2) [.int .i64 0, .string ⟨#[]⟩, .slice none 0 0, .string ⟨#[]⟩] := by rw [hw3, ← hs2]; exact heap_alloc_new w2 _
  have HK3 : Hid (Blk 39 w3 w.heap.size [.int .i64 8, .string nm, .string ⟨#[]⟩, .string ⟨#[]⟩, .int .i64 0, .int .i64 0]) := ((hK1.below hb2).below hb3 : Blk _ _ _ _)
  have HZ3 : Hid (Blk 34 w3 (w.heap.size + 1) [.string ⟨#[71, 69, 84]⟩, .string ⟨#[47]⟩, .int .i64 0, .int .i64 0, .slice av 1 cv, .string ⟨#[]⟩, .slice none 0 0, .int .i64 0, .string ⟨#[]⟩, .int .i64 0, .string ⟨#[]⟩, .string ⟨#[]⟩, .bool false, .slice none 0 0, .int .i64 0]) := (hZ2.below hb3 : Blk _ _ _ _)
  have HR3 : Hid (Blk 36 w3 (w.heap.size + 2) [.int .i64 0, .string ⟨#[]⟩, .slice none 0 0, .string ⟨#[]⟩]) := hR3
  have HB3 : Hid (Below w.heap.size w w3) := (bel_tr (bel_tr hb1 hb2 (by omega)) hb3 (by omega) : Below _ _ _)
  have HW3 : Hid (w3 = _) := hw3
  have HW2 : Hid (w2 = _) := hw2
  have HW1 : Hid (w1 = _) := hw1
  have k0 := HK3.out.cell 0 rfl
  have HC : Hid (Calls _ _ _ _ _) := kindOf_8 w3
  have HTk : Hid (∀ W, Below w.heap.size w W → Calls Tryz.prog 10 #[.agg #[.func (.func 33) #[] #[], .func (.func 34) #[] #[], .func (.func 35) #[] #[]], .agg #[.int .i64 8, .string nm, .string ⟨#[]⟩, .string ⟨#[]⟩, .int .i64 0, .int .i64 0]] W fun e w' => e = .returned (.bool true) ∧ Below W.heap.size W w') := fun W hW => by
    have h := takes_8 8 0 0 nm ⟨#[]⟩ ⟨#[]⟩ hn W (HTb.out W hW)
    rw [show E0 (⟨#[]⟩ : ByteArray) = true by unfold E0; rw [ByteArray.toList_eq]; rfl, ht] at h
    exact h
  clear hw1 hw2 hw3 hb1 hb2 hb3 hK1 hR3 hs1 hs2 hZ2 tb hSo hn ht
  go_enter Tryz.func7, Tryz.ntmps7
  go_wp2_with fail
  try rw [← HW1.out, ← HW2.out, ← HW3.out]
  refine HC.out.mono ?_
  rintro e w4 ⟨rfl, hb4⟩
  obtain ⟨w5, hw5⟩ : ∃ w5, w5 = w4.alloc (.cells #[.func (.func 33) #[] #[], .func (.func 34) #[] #[], .func (.func 35) #[] #[]] 47) := ⟨_, rfl⟩
  have hb5 : Below w4.heap.size w4 w5 := by rw [hw5]; exact (Below.refl _ w4).alloc (Nat.le_refl _) _
  have HM5 : Hid (Blk 47 w5 w4.heap.size [.func (.func 33) #[] #[], .func (.func 34) #[] #[], .func (.func 35) #[] #[]]) := (by rw [hw5]; exact heap_alloc_new w4 _ : Blk _ _ _ _)
  have HH5 : Hid (Blk 39 w5 w.heap.size [.int .i64 8, .string nm, .string ⟨#[]⟩, .string ⟨#[]⟩, .int .i64 0, .int .i64 0]) := ((HK3.out.below hb4).below hb5 : Blk _ _ _ _)
  have HZ5 : Hid (Blk 34 w5 (w.heap.size + 1) [.string ⟨#[71, 69, 84]⟩, .string ⟨#[47]⟩, .int .i64 0, .int .i64 0, .slice av 1 cv, .string ⟨#[]⟩, .slice none 0 0, .int .i64 0, .string ⟨#[]⟩, .int .i64 0, .string ⟨#[]⟩, .string ⟨#[]⟩, .bool false, .slice none 0 0, .int .i64 0]) := ((HZ3.out.below hb4).below hb5 : Blk _ _ _ _)
  have HR5 : Hid (Blk 36 w5 (w.heap.size + 2) [.int .i64 0, .string ⟨#[]⟩, .slice none 0 0, .string ⟨#[]⟩]) := ((HR3.out.below hb4).below hb5 : Blk _ _ _ _)
  have HB4 : Hid (Below w.heap.size w w4) := bel_tr HB3.out hb4 HB3.out.size
  have HB5 : Hid (Below w.heap.size w w5) := bel_tr HB4.out hb5 HB4.out.size
  have HW5 : Hid (w4.alloc (.cells #[.func (.func 33) #[] #[], .func (.func 34) #[] #[], .func (.func 35) #[] #[]] 47) = w5) := hw5.symm
  have h0 := HH5.out.cell 0 rfl
  have h1 := HH5.out.cell 1 rfl
  have h2 := HH5.out.cell 2 rfl
  have h3 := HH5.out.cell 3 rfl
  have h4 := HH5.out.cell 4 rfl
  have h5 := HH5.out.cell 5 rfl
  have m0 := HM5.out.cell 0 rfl
  have m1 := HM5.out.cell 1 rfl
  have m2 := HM5.out.cell 2 rfl
  clear hb4 hb5 HC HB3 HR3 HK3 HZ3 HW1 HW2 HW3 k0 hw5
  go_wp2_with (first | rw [HW5.out] | fail)
  try rw [HW5.out]
  refine (HTk.out _ HB5.out).mono ?_
  rintro e w6 ⟨rfl, hb6⟩
  have HM6 : Hid (Blk 47 w6 w4.heap.size [.func (.func 33) #[] #[], .func (.func 34) #[] #[], .func (.func 35) #[] #[]]) := HM5.out.below hb6
  have HH6 : Hid (Blk 39 w6 w.heap.size [.int .i64 8, .string nm, .string ⟨#[]⟩, .string ⟨#[]⟩, .int .i64 0, .int .i64 0]) := HH5.out.below hb6
  have HZ6 : Hid (Blk 34 w6 (w.heap.size + 1) [.string ⟨#[71, 69, 84]⟩, .string ⟨#[47]⟩, .int .i64 0, .int .i64 0, .slice av 1 cv, .string ⟨#[]⟩, .slice none 0 0, .int .i64 0, .string ⟨#[]⟩, .int .i64 0, .string ⟨#[]⟩, .string ⟨#[]⟩, .bool false, .slice none 0 0, .int .i64 0]) := HZ5.out.below hb6
  have HR6 : Hid (Blk 36 w6 (w.heap.size + 2) [.int .i64 0, .string ⟨#[]⟩, .slice none 0 0, .string ⟨#[]⟩]) := HR5.out.below hb6
  have HB6 : Hid (Below w.heap.size w w6) := bel_tr HB5.out hb6 HB5.out.size
  clear h0 h1 h2 h3 h4 h5 m0 m1 m2 hb6 HTk HM5 HH5 HZ5 HR5 HB5
  have h0 := HH6.out.cell 0 rfl
  have h1 := HH6.out.cell 1 rfl
  have h2 := HH6.out.cell 2 rfl
  have h3 := HH6.out.cell 3 rfl
  have h4 := HH6.out.cell 4 rfl
  have h5 := HH6.out.cell 5 rfl
  have z0 := HZ6.out.cell 0 rfl
  have z1 := HZ6.out.cell 1 rfl
  have z2 := HZ6.out.cell 2 rfl
  have z3 := HZ6.out.cell 3 rfl
  have z4 := HZ6.out.cell 4 rfl
  have z5 := HZ6.out.cell 5 rfl
  have z6 := HZ6.out.cell 6 rfl
  have z7 := HZ6.out.cell 7 rfl
  have z8 := HZ6.out.cell 8 rfl
  have z9 := HZ6.out.cell 9 rfl
  have z10 := HZ6.out.cell 10 rfl
  have z11 := HZ6.out.cell 11 rfl
  have z12 := HZ6.out.cell 12 rfl
  have z13 := HZ6.out.cell 13 rfl
  have z14 := HZ6.out.cell 14 rfl
  have m2 := HM6.out.cell 2 rfl
  go_wp2_with fail
  refine (HSo.out w6 HB6.out).mono ?_
  rintro e w7 ⟨a, cc, rfl, hfin, hb7⟩
  have HF7 : Hid (OwnF 26 w6.heap.size (.slice a 2 cc) LF w7) := hfin
  have HR7 : Hid (Blk 36 w7 (w.heap.size + 2) [.int .i64 0, .string ⟨#[]⟩, .slice none 0 0, .string ⟨#[]⟩]) := HR6.out.below hb7
  have HB7 : Hid (Below w.heap.size w w7) := bel_tr HB6.out hb7 HB6.out.size
  have HS6 : Hid (w.heap.size ≤ w6.heap.size) := HB6.out.size
  clear h0 h1 h2 h3 h4 h5 z0 z1 z2 z3 z4 z5 z6 z7 z8 z9 z10 z11 z12 z13 z14 m2 hb7 hfin
  have r0 := HR7.out.cell 0 rfl
  have r1 := HR7.out.cell 1 rfl
  have r2 := HR7.out.cell 2 rfl
  have r3 := HR7.out.cell 3 rfl
  have rf := HR7.out.free
  have hD4 := HR7.out.lt
  have hb9 := set4_but w7 (w.heap.size + 2) (.int .i64 200) (.string ⟨#[]⟩) (.slice a 2 cc) (.string BD)
  have hl9 : Below w.heap.size w7 (set4 w7 (w.heap.size + 2) (.int .i64 200) (.string ⟨#[]⟩) (.slice a 2 cc) (.string BD)) := hb9.below (by omega) (fun x hx => by simp at hx; omega)
  obtain ⟨W9, hW9⟩ : ∃ W9, W9 = set4 w7 (w.heap.size + 2) (.int .i64 200) (.string ⟨#[]⟩) (.slice a 2 cc) (.string BD) := ⟨_, rfl⟩
  have HL9 : Hid (Below w.heap.size w W9) := (by rw [hW9]; exact HB7.out.trans hl9 : Below _ _ _)
  have hB9 : Blk 36 W9 (w.heap.size + 2) [.int .i64 200, .string ⟨#[]⟩, .slice a 2 cc, .string BD] := by rw [hW9]; exact set4_blk HR7.out (.int .i64 200) (.string ⟨#[]⟩) (.slice a 2 cc) (.string BD)
  have HW9 : Hid (((((w7.setCell ⟨w.heap.size + 2, 0, none⟩ (.int .i64 200)).setCell ⟨w.heap.size + 2, 1, none⟩ (.string ⟨#[]⟩)).setCell ⟨w.heap.size + 2, 2, none⟩ (.slice a 2 cc)).setCell ⟨w.heap.size + 2, 3, none⟩ (.string BD)) = W9) := hW9.symm
  have HF9 : Hid (OwnF 26 w.heap.size (.slice a 2 cc) LF W9) := (by rw [hW9]; exact HR7.out.keep (own_upF HF7.out HS6.out) (by decide) hb9 : OwnF _ _ _ _ _)
  clear hb9 hl9 hW9 HF7
  go_wp2
  rw [HW9.out]
  clear r0 r1 r2 r3 rf
  have q0 := hB9.cell 0 rfl
  have q1 := hB9.cell 1 rfl
  have q2 := hB9.cell 2 rfl
  have q3 := hB9.cell 3 rfl
  refine bodyPost_ret (v := .agg #[.int .i64 200, .string ⟨#[]⟩, .slice a 2 cc, .string BD]) (by simp [results, Tryz.results7, go_sem, q0, q1, q2, q3]) rfl ?_
  exact ⟨a, cc, rfl, HF9.out, HL9.out⟩

end Ko
end Go.Proofs.YticncpjpkgdnlaaGreatDoor
