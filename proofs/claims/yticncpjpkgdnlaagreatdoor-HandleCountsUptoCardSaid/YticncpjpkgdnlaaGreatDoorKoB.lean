/-
  cookie: cut, readCookie (written by mkko.py).
-/
import Derived.Test.YticncpjpkgdnlaaGreatDoorKoA
import Derived.Test.YticncpjpkgdnlaaGreatDoorMgH
set_option linter.unusedVariables false
set_option linter.unusedSimpArgs false
set_option maxRecDepth 100000
namespace Go.Proofs.YticncpjpkgdnlaaGreatDoor
open Go.RowKit Go.Shelf
namespace Ko
open Oc Tg _root_.Go.Proofs.YticncpjpkgdnlaaGreatDoor.Fd _root_.Go.Proofs.YticncpjpkgdnlaaGreatDoor.Ck _root_.Go.Proofs.YticncpjpkgdnlaaGreatDoor.Ms _root_.Go.Proofs.YticncpjpkgdnlaaGreatDoor.Hn

def cutN (s : List UInt8) : List UInt8 := trim (cutA 61 s)
def cutV (s : List UInt8) : List UInt8 := trim (cutB 61 s)
theorem trim_len (l : List UInt8) : (trim l).length ≤ l.length := by
  unfold trim trimR trimL
  rw [List.length_reverse]
  refine Nat.le_trans (List.dropWhile_sublist _).length_le ?_
  rw [List.length_reverse]
  exact (List.dropWhile_sublist _).length_le
theorem cutN_len (l : List UInt8) : (cutN l).length ≤ l.length := Nat.le_trans (trim_len _) (by unfold cutA; exact (List.takeWhile_sublist _).length_le)
theorem cutV_len (l : List UInt8) : (cutV l).length ≤ l.length := Nat.le_trans (trim_len _) (by
  unfold cutB
  rw [List.length_drop]
  exact Nat.le_trans (Nat.sub_le _ _) (List.dropWhile_sublist _).length_le)

set_option maxHeartbeats 1000000 in
theorem cut_any (l : List UInt8) (hl : l.length ≤ 4000000) (w : World) (ml : Tg.ML w) :
    Calls Tryz.prog 227 #[.string (str l)] w fun e w' => e = .returned (.tuple #[.string (str (cutN l)), .string (str (cutV l)), .bool (has 61 l)]) ∧ Below w.heap.size w w' := by
  have HC : Hid (Calls Tryz.prog 131 #[.string (str l), .string ⟨#[61]⟩] w fun e w' => e = .returned (.tuple #[.string (str (cutA 61 l)), .string (str (cutB 61 l)), .bool (has 61 l)]) ∧ Below w.heap.size w w') := (by
    have h := Tg.Cut_one (str l) 61 (by rw [str_size]; omega) w ml
    rw [str_list] at h
    exact h : Calls _ _ _ _ _)
  have HT : Hid (∀ (x : List UInt8) W, x.length ≤ 4000000 → Calls Tryz.prog 77 #[.string (str x)] W fun e w' => e = .returned (.string (str (trim x))) ∧ Below W.heap.size W w') := fun x W hx => by
    have h := Trim_any (str x) (by rw [str_size]; unfold maxLen; omega) W
    rw [str_list] at h
    exact h
  have HTa : Hid (∀ W, Calls Tryz.prog 77 #[.string (str (cutA 61 l))] W fun e w' => e = .returned (.string (str (cutN l))) ∧ Below W.heap.size W w') := fun W => HT.out (cutA 61 l) W (Nat.le_trans (by unfold cutA; exact (List.takeWhile_sublist _).length_le) hl)
  have HTb : Hid (∀ W, Calls Tryz.prog 77 #[.string (str (cutB 61 l))] W fun e w' => e = .returned (.string (str (cutV l))) ∧ Below W.heap.size W w') := fun W => HT.out (cutB 61 l) W (Nat.le_trans (by
    unfold cutB
    rw [List.length_drop]
    exact Nat.le_trans (Nat.sub_le _ _) (List.dropWhile_sublist _).length_le) hl)
  clear HT ml
  generalize str (cutA 61 l) = a at *
  generalize str (cutB 61 l) = b at *
  generalize str (cutN l) = c at *
  generalize str (cutV l) = d at *
  generalize has 61 l = h at *
  generalize str l = s at *
  go_enter Tryz.func227, Tryz.ntmps227
  go_wp2_with fail
  refine HC.out.mono ?_
  rintro e w1 ⟨rfl, hb1⟩
  have HB1 : Hid (Below w.heap.size w w1) := hb1
  clear hb1 HC
  go_wp2_with fail
  refine (HTa.out _).mono ?_
  rintro e w2 ⟨rfl, hb2⟩
  have HB2 : Hid (Below w.heap.size w w2) := bel_tr HB1.out hb2 HB1.out.size
  clear hb2
  go_wp2_with fail
  refine (HTb.out _).mono ?_
  rintro e w3 ⟨rfl, hb3⟩
  have HB3 : Hid (Below w.heap.size w w3) := bel_tr HB2.out hb3 HB2.out.size
  clear hb3
  go_wp2
  refine bodyPost_ret (v := .tuple #[.string c, .string d, .bool h]) (by simp [results, Tryz.results227, go_sem]) rfl ⟨rfl, HB3.out⟩

/-- What a piece tells: a cookie's two cells, and whether it is one. -/
def ckR (l : List UInt8) : Bool := has 61 l && cokB (str (cutN l)) (str (cutV l))

set_option maxHeartbeats 1000000 in
theorem readCookie_any (l : List UInt8) (hl : l.length ≤ 4000000) (w : World) (ml : Tg.ML w) (tb : Tab w) :
    Calls Tryz.prog 164 #[.string (str l)] w fun e w' => ∃ n v, e = .returned (.tuple #[.agg #[.string n, .string v], .bool (ckR l)]) ∧ (ckR l = true → n = str (cutN l) ∧ v = str (cutV l)) ∧ Below w.heap.size w w' := by
  obtain ⟨w1, hw1⟩ : ∃ w1, w1 = w.alloc (.cells #[.string ⟨#[]⟩, .string ⟨#[]⟩] 148) := ⟨_, rfl⟩
  have hb1 : Below w.heap.size w w1 := by rw [hw1]; exact (Below.refl _ w).alloc (Nat.le_refl _) _
  have HR1 : Hid (Blk 148 w1 w.heap.size [.string ⟨#[]⟩, .string ⟨#[]⟩]) := (by rw [hw1]; exact heap_alloc_new w _ : Blk _ _ _ _)
  have HB1 : Hid (Below w.heap.size w w1) := hb1
  have HW1 : Hid (w1 = _) := hw1
  have HC : Hid (Calls Tryz.prog 227 #[.string (str l)] w1 fun e w' => e = .returned (.tuple #[.string (str (cutN l)), .string (str (cutV l)), .bool (has 61 l)]) ∧ Below w1.heap.size w1 w') := cut_any l hl w1 (ml.below hb1)
  have HK : Hid (∀ W, Below w.heap.size w W → Calls Tryz.prog 166 #[.agg #[.string (str (cutN l)), .string (str (cutV l))]] W fun e w' => e = .returned (.bool (cokB (str (cutN l)) (str (cutV l)))) ∧ Below W.heap.size W w') := fun W h => isCookie_any _ _ (by rw [str_size]; exact Nat.le_trans (cutN_len l) hl) (by rw [str_size]; exact Nat.le_trans (cutV_len l) hl) W (tb.below h (Nat.le_refl _))
  have HQ : Hid (ckR l = (has 61 l && cokB (str (cutN l)) (str (cutV l)))) := rfl
  clear hw1 hb1 ml tb hl
  generalize ckR l = r at *
  generalize cokB (str (cutN l)) (str (cutV l)) = k at *
  generalize str (cutN l) = c at *
  generalize str (cutV l) = d at *
  generalize has 61 l = h at *
  generalize str l = s at *
  go_enter Tryz.func164, Tryz.ntmps164
  go_wp2_with fail
  try rw [← HW1.out]
  refine HC.out.mono ?_
  rintro e w2 ⟨rfl, hb2⟩
  have HR2 : Hid (Blk 148 w2 w.heap.size [.string ⟨#[]⟩, .string ⟨#[]⟩]) := HR1.out.below hb2
  have HB2 : Hid (Below w.heap.size w w2) := bel_tr HB1.out hb2 HB1.out.size
  obtain ⟨w3, hw3⟩ : ∃ w3, w3 = w2.alloc (.cells #[.string c, .string d] 148) := ⟨_, rfl⟩
  have hb3 : Below w2.heap.size w2 w3 := by rw [hw3]; exact (Below.refl _ w2).alloc (Nat.le_refl _) _
  have HR3 : Hid (Blk 148 w3 w.heap.size [.string ⟨#[]⟩, .string ⟨#[]⟩]) := HR2.out.below hb3
  have HN3 : Hid (Blk 148 w3 w2.heap.size [.string c, .string d]) := (by rw [hw3]; exact heap_alloc_new w2 _ : Blk _ _ _ _)
  have HB3 : Hid (Below w.heap.size w w3) := bel_tr HB2.out hb3 HB2.out.size
  have HW3 : Hid (w2.alloc (.cells #[.string c, .string d] 148) = w3) := hw3.symm
  clear hw3 hb3 hb2 HR1 HR2 HC HW1
  cases h with
  | false =>
    have HRf : Hid (r = false) := (by rw [HQ.out]; rfl : _ = _)
    have r0 := HR3.out.cell 0 rfl
    have r1 := HR3.out.cell 1 rfl
    have rf := HR3.out.free
    clear HQ
    have hb9 : Below w.heap.size w3 ((w3.setCell ⟨w.heap.size, 0, none⟩ (.string ⟨#[]⟩)).setCell ⟨w.heap.size, 1, none⟩ (.string ⟨#[]⟩)) := ((Below.refl _ w3).setCell (by simp) _).setCell (by simp) _
    obtain ⟨W9, hW9⟩ : ∃ W9, W9 = (w3.setCell ⟨w.heap.size, 0, none⟩ (.string ⟨#[]⟩)).setCell ⟨w.heap.size, 1, none⟩ (.string ⟨#[]⟩) := ⟨_, rfl⟩
    have HL9 : Hid (Below w.heap.size w W9) := (by rw [hW9]; exact HB3.out.trans hb9 : Below _ _ _)
    have hB9 : Blk 148 W9 w.heap.size [.string ⟨#[]⟩, .string ⟨#[]⟩] := by rw [hW9]; exact (HR3.out.set 0 _).set 1 _
    have q0 := hB9.cell 0 rfl
    have q1 := hB9.cell 1 rfl
    have HW9 : Hid ((w3.setCell ⟨w.heap.size, 0, none⟩ (.string ⟨#[]⟩)).setCell ⟨w.heap.size, 1, none⟩ (.string ⟨#[]⟩) = W9) := hW9.symm
    clear hb9 hW9 hB9
    go_wp2_with (first | rw [HW3.out] | rw [HW9.out] | fail)
    try rw [HW9.out]
    refine bodyPost_ret (v := .tuple #[.agg #[.string ⟨#[]⟩, .string ⟨#[]⟩], .bool false]) (by simp [results, Tryz.results164, go_sem, q0, q1]) rfl ⟨_, _, by rw [HRf.out], (fun e => by rw [HRf.out] at e; cases e), HL9.out⟩
  | true =>
    have HRk : Hid (r = k) := (by rw [HQ.out]; rfl : _ = _)
    have n0 := HN3.out.cell 0 rfl
    have n1 := HN3.out.cell 1 rfl
    clear HQ
    go_wp2_with (first | rw [HW3.out] | fail)
    try rw [HW3.out]
    refine (HK.out _ HB3.out).mono ?_
    rintro e w4 ⟨rfl, hb4⟩
    have HR4 : Hid (Blk 148 w4 w.heap.size [.string ⟨#[]⟩, .string ⟨#[]⟩]) := HR3.out.below hb4
    have HN4 : Hid (Blk 148 w4 w2.heap.size [.string c, .string d]) := HN3.out.below hb4
    have HB4 : Hid (Below w.heap.size w w4) := bel_tr HB3.out hb4 HB3.out.size
    clear hb4 n0 n1 HR3 HN3 HB3
    have n0 := HN4.out.cell 0 rfl
    have n1 := HN4.out.cell 1 rfl
    have r0 := HR4.out.cell 0 rfl
    have r1 := HR4.out.cell 1 rfl
    have rf := HR4.out.free
    cases k with
    | false =>
      have hb9 : Below w.heap.size w4 ((w4.setCell ⟨w.heap.size, 0, none⟩ (.string ⟨#[]⟩)).setCell ⟨w.heap.size, 1, none⟩ (.string ⟨#[]⟩)) := ((Below.refl _ w4).setCell (by simp) _).setCell (by simp) _
      obtain ⟨W9, hW9⟩ : ∃ W9, W9 = (w4.setCell ⟨w.heap.size, 0, none⟩ (.string ⟨#[]⟩)).setCell ⟨w.heap.size, 1, none⟩ (.string ⟨#[]⟩) := ⟨_, rfl⟩
      have HL9 : Hid (Below w.heap.size w W9) := (by rw [hW9]; exact HB4.out.trans hb9 : Below _ _ _)
      have hB9 : Blk 148 W9 w.heap.size [.string ⟨#[]⟩, .string ⟨#[]⟩] := by rw [hW9]; exact (HR4.out.set 0 _).set 1 _
      have q0 := hB9.cell 0 rfl
      have q1 := hB9.cell 1 rfl
      have HW9 : Hid ((w4.setCell ⟨w.heap.size, 0, none⟩ (.string ⟨#[]⟩)).setCell ⟨w.heap.size, 1, none⟩ (.string ⟨#[]⟩) = W9) := hW9.symm
      clear hb9 hW9 hB9
      go_wp2_with (first | rw [HW9.out] | fail)
      try rw [HW9.out]
      refine bodyPost_ret (v := .tuple #[.agg #[.string ⟨#[]⟩, .string ⟨#[]⟩], .bool false]) (by simp [results, Tryz.results164, go_sem, q0, q1]) rfl ⟨_, _, by rw [HRk.out], (fun e => by rw [HRk.out] at e; cases e), HL9.out⟩
    | true =>
      have hb9 : Below w.heap.size w4 ((w4.setCell ⟨w.heap.size, 0, none⟩ (.string c)).setCell ⟨w.heap.size, 1, none⟩ (.string d)) := ((Below.refl _ w4).setCell (by simp) _).setCell (by simp) _
      obtain ⟨W9, hW9⟩ : ∃ W9, W9 = (w4.setCell ⟨w.heap.size, 0, none⟩ (.string c)).setCell ⟨w.heap.size, 1, none⟩ (.string d) := ⟨_, rfl⟩
      have HL9 : Hid (Below w.heap.size w W9) := (by rw [hW9]; exact HB4.out.trans hb9 : Below _ _ _)
      have hB9 : Blk 148 W9 w.heap.size [.string c, .string d] := by rw [hW9]; exact (HR4.out.set 0 _).set 1 _
      have q0 := hB9.cell 0 rfl
      have q1 := hB9.cell 1 rfl
      have HW9 : Hid ((w4.setCell ⟨w.heap.size, 0, none⟩ (.string c)).setCell ⟨w.heap.size, 1, none⟩ (.string d) = W9) := hW9.symm
      clear hb9 hW9 hB9
      go_wp2_with (first | rw [HW9.out] | fail)
      try rw [HW9.out]
      refine bodyPost_ret (v := .tuple #[.agg #[.string c, .string d], .bool true]) (by simp [results, Tryz.results164, go_sem, q0, q1]) rfl ⟨_, _, by rw [HRk.out], fun _ => ⟨rfl, rfl⟩, HL9.out⟩

end Ko
end Go.Proofs.YticncpjpkgdnlaaGreatDoor
