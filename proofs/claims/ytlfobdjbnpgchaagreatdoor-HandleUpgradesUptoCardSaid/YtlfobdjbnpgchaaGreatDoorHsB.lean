/-
  handle: answerSocket (written by mkhs.py).
-/
import Derived.Test.YtlfobdjbnpgchaaGreatDoorMgV
set_option linter.unusedVariables false
set_option linter.unusedSimpArgs false
set_option maxRecDepth 100000
namespace Go.Proofs.YtlfobdjbnpgchaaGreatDoor
open Go.RowKit Go.Shelf
namespace Hn
open Oc Tg _root_.Go.Proofs.YtlfobdjbnpgchaaGreatDoor.Fd _root_.Go.Proofs.YtlfobdjbnpgchaaGreatDoor.Ck _root_.Go.Proofs.YtlfobdjbnpgchaaGreatDoor.Ms

set_option maxHeartbeats 8000000 in
theorem answerSocket_any (av : Option Addr) (cv : Nat) (t : List Fl) (hS : sumF t ≤ 4000000) (w : World) (hI : InF (.slice av t.length cv) t w) (tb : Tab w) (hp : Pow w) :
    Calls Tryz.prog 78 #[.agg #[.int .i64 9, .string ⟨#[]⟩, .string ⟨#[]⟩, .string ⟨#[]⟩, .int .i64 0, .int .i64 0], .agg #[.string ⟨#[71, 69, 84]⟩, .string ⟨#[47]⟩, .int .i64 1, .int .i64 1, .slice av t.length cv, .string ⟨#[]⟩, .slice none 0 0, .int .i64 0, .string ⟨#[]⟩, .int .i64 0, .string ⟨#[]⟩, .string ⟨#[]⟩, .bool false, .slice none 0 0, .int .i64 0], .pointer none] w fun e w' => ∃ a n c bd, e = .returned (.agg #[.int .i64 (sockR t), .string ⟨#[]⟩, .slice a n c, .string bd]) ∧ (sockR t = 101 → n = 3 ∧ bd = ⟨#[]⟩ ∧ OwnF 36 w.heap.size (.slice a 3 c) [(upN, wsK), (coN, ugV), (accN, (Bs.accR (onlyF keyN t)).1)] w') ∧ Below w.heap.size w w' := by
  have hlen := len_sumF t
  have hM : Each 4000000 t := each_of hS
  have HRt : Hid (∀ W, Below w.heap.size w W → RdF (.slice av t.length cv) t W) := fun W h => (hI.below h).1
  have HTb : Hid (∀ W, Below w.heap.size w W → Tab W) := fun W h => tb.below h (Nat.le_refl _)
  have HPw : Hid (∀ W, Below w.heap.size w W → Pow W) := fun W h => hp.below h (Nat.le_refl _)
  obtain ⟨b1, hb1⟩ : ∃ b, b = hasF upN t wsK := ⟨_, rfl⟩
  obtain ⟨b2, hb2⟩ : ∃ b, b = hasF coN t ugK := ⟨_, rfl⟩
  obtain ⟨V, hV⟩ : ∃ V, V = onlyF verN t := ⟨_, rfl⟩
  obtain ⟨AX, hAX⟩ : ∃ AX, AX = (Bs.accR (onlyF keyN t)).1 := ⟨_, rfl⟩
  obtain ⟨AE, hAE⟩ : ∃ AE, AE = (Bs.accR (onlyF keyN t)).2 := ⟨_, rfl⟩
  have HY : Hid (sockR t = if b1 = false then 426 else if b2 = false then 426 else if V ≠ [49, 51] then 426 else if AE ≠ 0 then 400 else 101) := (by rw [hb1, hb2, hV, hAE]; rfl : _ = _)
  have HH1 : Hid (∀ W, Below w.heap.size w W → Calls Tryz.prog 116 #[.slice av t.length cv, .string ⟨#[85, 112, 103, 114, 97, 100, 101]⟩, .string ⟨#[119, 101, 98, 115, 111, 99, 107, 101, 116]⟩] W fun e w' => e = .returned (.bool b1) ∧ Below W.heap.size W w') := fun W h => by
    rw [hb1]
    exact Fz.Has_any _ t upN wsK (by decide) (by decide) hS W (HRt.out W h) (HTb.out W h)
  have HH2 : Hid (∀ W, Below w.heap.size w W → Calls Tryz.prog 116 #[.slice av t.length cv, .string ⟨#[67, 111, 110, 110, 101, 99, 116, 105, 111, 110]⟩, .string ⟨#[117, 112, 103, 114, 97, 100, 101]⟩] W fun e w' => e = .returned (.bool b2) ∧ Below W.heap.size W w') := fun W h => by
    rw [hb2]
    exact Fz.Has_any _ t coN ugK (by decide) (by decide) hS W (HRt.out W h) (HTb.out W h)
  have HOv : Hid (∀ W, Below w.heap.size w W → Calls Tryz.prog 109 #[.slice av t.length cv, .string ⟨#[83, 101, 99, 45, 87, 101, 98, 83, 111, 99, 107, 101, 116, 45, 86, 101, 114, 115, 105, 111, 110]⟩] W fun e w' => e = .returned (.string (str V)) ∧ Below W.heap.size W w') := fun W h => by
    rw [hV]
    exact only_any _ t verN (by decide) hM (by omega) W (HRt.out W h)
  have HOk : Hid (∀ W, Below w.heap.size w W → Calls Tryz.prog 109 #[.slice av t.length cv, .string ⟨#[83, 101, 99, 45, 87, 101, 98, 83, 111, 99, 107, 101, 116, 45, 75, 101, 121]⟩] W fun e w' => e = .returned (.string (str (onlyF keyN t))) ∧ Below W.heap.size W w') := fun W h =>
    only_any _ t keyN (by decide) hM (by omega) W (HRt.out W h)
  have HAc : Hid (∀ W, Calls Tryz.prog 118 #[.string (str (onlyF keyN t))] W fun e w' => e = .returned (.tuple #[.string (str AX), .int .i64 AE]) ∧ Below W.heap.size W w') := fun W => by
    rw [hAX, hAE]
    exact Bs.Accept_any (onlyF keyN t) (by have := only_len hS keyN; omega) W
  have HAX : Hid (AX = (Bs.accR (onlyF keyN t)).1) := hAX
  have HUg : Hid (∀ W, Calls Tryz.prog 117 #[] W _) := fun W => upgraded_any W
  obtain ⟨B426, hB4⟩ : ∃ B, B = str (stW 426 ++ [10]) := ⟨_, rfl⟩
  obtain ⟨B400, hB0⟩ : ∃ B, B = str (stW 400 ++ [10]) := ⟨_, rfl⟩
  have HP4 : Hid (∀ (u : Value) (l : List Fl) W, InF u l W → Below w.heap.size w W → l.length ≤ 100 → Calls Tryz.prog 11 #[.int .i64 426, u] W fun e w' => ∃ a c, e = .returned (.agg #[.int .i64 426, .string ⟨#[]⟩, .slice a (l.length + 1) c, .string B426]) ∧ Below W.heap.size W w') := fun u l W h1 h2 h3 => by
    have := Plain_any 426 ⟨by decide, by decide⟩ u l (by omega) W h1 (HPw.out W h2)
    rw [← hB4] at this
    exact this.mono (fun e w' ⟨a, c, h, _, hb⟩ => ⟨a, c, h, hb⟩)
  have HP0 : Hid (∀ W, Below w.heap.size w W → Calls Tryz.prog 11 #[.int .i64 400, .slice none 0 0] W fun e w' => ∃ a c, e = .returned (.agg #[.int .i64 400, .string ⟨#[]⟩, .slice a 1 c, .string B400]) ∧ Below W.heap.size W w') := fun W h2 => by
    have := Plain_any 400 ⟨by decide, by decide⟩ (.slice none 0 0) [] (by simp) W (inF_nil W) (HPw.out W h2)
    rw [← hB0] at this
    exact this.mono (fun e w' ⟨a, c, h, _, hb⟩ => ⟨a, c, h, hb⟩)
  clear hb1 hb2 hV hAX hAE hB4 hB0 hM hlen
  -- the boxes
  obtain ⟨w1, hw1⟩ : ∃ w1, w1 = w.alloc (.cells #[.int .i64 9, .string ⟨#[]⟩, .string ⟨#[]⟩, .string ⟨#[]⟩, .int .i64 0, .int .i64 0] 61) := ⟨_, rfl⟩
  have hb1 : Below w.heap.size w w1 := by rw [hw1]; exact (Below.refl _ w).alloc (Nat.le_refl _) _
  have hs1 : w1.heap.size = w.heap.size + 1 := by rw [hw1]; simp
  obtain ⟨w2, hw2⟩ : ∃ w2, w2 = w1.alloc (.cells #[.string ⟨#[71, 69, 84]⟩, .string ⟨#[47]⟩, .int .i64 1, .int .i64 1, .slice av t.length cv, .string ⟨#[]⟩, .slice none 0 0, .int .i64 0, .string ⟨#[]⟩, .int .i64 0, .string ⟨#[]⟩, .string ⟨#[]⟩, .bool false, .slice none 0 0, .int .i64 0] 59) := ⟨_, rfl⟩
  have hb2 : Below w1.heap.size w1 w2 := by rw [hw2]; exact (Below.refl _ w1).alloc (Nat.le_refl _) _
  have hs2 : w2.heap.size = w.heap.size + 2 := by rw [hw2]; simp; omega
  obtain ⟨w3, hw3⟩ : ∃ w3, w3 = w2.alloc (.cells #[.int .i64 0, .string ⟨#[]⟩, .slice none 0 0, .string ⟨#[]⟩] 39) := ⟨_, rfl⟩
  have hb3 : Below w2.heap.size w2 w3 := by rw [hw3]; exact (Below.refl _ w2).alloc (Nat.le_refl _) _
  have hR3 : Blk 39 w3 (w.heap.size + 2) [.int .i64 0, .string ⟨#[]⟩, .slice none 0 0, .string ⟨#[]⟩] := by rw [hw3, ← hs2]; exact heap_alloc_new w2 _
  have hs3 : w3.heap.size = w.heap.size + 3 := by rw [hw3]; simp; omega
  obtain ⟨w4, hw4⟩ : ∃ w4, w4 = w3.alloc (.cells #[.string ⟨#[71, 69, 84]⟩, .string ⟨#[47]⟩, .int .i64 1, .int .i64 1, .slice av t.length cv, .string ⟨#[]⟩, .slice none 0 0] 55) := ⟨_, rfl⟩
  have hb4 : Below w3.heap.size w3 w4 := by rw [hw4]; exact (Below.refl _ w3).alloc (Nat.le_refl _) _
  have HQw4 : Hid (Blk 55 w4 (w.heap.size + 3) [.string ⟨#[71, 69, 84]⟩, .string ⟨#[47]⟩, .int .i64 1, .int .i64 1, .slice av t.length cv, .string ⟨#[]⟩, .slice none 0 0]) := (by rw [hw4, ← hs3]; exact heap_alloc_new w3 _ : Blk _ _ _ _)
  have HRw4 : Hid (Blk 39 w4 (w.heap.size + 2) [.int .i64 0, .string ⟨#[]⟩, .slice none 0 0, .string ⟨#[]⟩]) := (hR3.below hb4 : Blk _ _ _ _)
  have HBw4 : Hid (Below w.heap.size w w4) := (bel_tr (bel_tr (bel_tr hb1 hb2 (by omega)) hb3 (by omega)) hb4 (by omega) : Below _ _ _)
  have HW4 : Hid (w4 = _) := hw4
  have HW3 : Hid (w3 = _) := hw3
  have HW2 : Hid (w2 = _) := hw2
  have HW1 : Hid (w1 = _) := hw1
  have z0 := HQw4.out.cell 0 rfl
  have z2 := HQw4.out.cell 2 rfl
  have z3 := HQw4.out.cell 3 rfl
  have z4 := HQw4.out.cell 4 rfl
  clear hw1 hw2 hw3 hw4 hb1 hb2 hb3 hb4 hR3 hs1 hs2 hs3 hI tb hp
  go_enter Tryz.func78, Tryz.ntmps78
  go_wp2_with fail
  try rw [← HW1.out, ← HW2.out, ← HW3.out, ← HW4.out]
  refine (HH1.out _ HBw4.out).mono ?_
  rintro e w5 ⟨rfl, hx⟩
  clear z0 z2 z3 z4
  have HBw5 : Hid (Below w.heap.size w w5) := bel_tr HBw4.out hx HBw4.out.size
  have HRw5 : Hid (Blk 39 w5 (w.heap.size + 2) [.int .i64 0, .string ⟨#[]⟩, .slice none 0 0, .string ⟨#[]⟩]) := HRw4.out.below hx
  have HQw5 : Hid (Blk 55 w5 (w.heap.size + 3) [.string ⟨#[71, 69, 84]⟩, .string ⟨#[47]⟩, .int .i64 1, .int .i64 1, .slice av t.length cv, .string ⟨#[]⟩, .slice none 0 0]) := HQw4.out.below hx
  have z4 := HQw5.out.cell 4 rfl
  clear hx HW1 HW2 HW3 HW4
  cases b1 with
  | false =>
    have HYf : Hid (sockR t = 426) := (by rw [HY.out]; rfl : _ = _)
    clear z4 HY
    go_wp2_with fail
    refine (HUg.out _).mono ?_
    rintro e x1 ⟨rfl, ho1, hx1⟩
    have HBx1 : Hid (Below w.heap.size w x1) := bel_tr HBw5.out hx1 HBw5.out.size
    have HRx1 : Hid (Blk 39 x1 (w.heap.size + 2) [.int .i64 0, .string ⟨#[]⟩, .slice none 0 0, .string ⟨#[]⟩]) := HRw5.out.below hx1
    have HI1 : Hid (InF _ upL x1) := (ho1.inF : InF _ _ _)
    clear ho1 hx1
    go_wp2_with fail
    refine (HP4.out _ _ x1 HI1.out HBx1.out (by decide)).mono ?_
    rintro e x2 ⟨a2, c2, rfl, hx2⟩
    have HBx2 : Hid (Below w.heap.size w x2) := bel_tr HBx1.out hx2 HBx1.out.size
    have HRx2 : Hid (Blk 39 x2 (w.heap.size + 2) [.int .i64 0, .string ⟨#[]⟩, .slice none 0 0, .string ⟨#[]⟩]) := HRx1.out.below hx2
    clear hx2
    have r0 := HRx2.out.cell 0 rfl; have r1 := HRx2.out.cell 1 rfl; have r2 := HRx2.out.cell 2 rfl; have r3 := HRx2.out.cell 3 rfl; have rf := HRx2.out.free
    have hD4 := HRx2.out.lt
    have hb9 := set4_but x2 (w.heap.size + 2) (.int .i64 426) (.string ⟨#[]⟩) (.slice a2 (upL.length + 1) c2) (.string B426)
    have hl9 : Below w.heap.size x2 (set4 x2 (w.heap.size + 2) (.int .i64 426) (.string ⟨#[]⟩) (.slice a2 (upL.length + 1) c2) (.string B426)) := hb9.below (by omega) (fun x hx => by simp at hx; omega)
    obtain ⟨W9, hW9⟩ : ∃ W9, W9 = set4 x2 (w.heap.size + 2) (.int .i64 426) (.string ⟨#[]⟩) (.slice a2 (upL.length + 1) c2) (.string B426) := ⟨_, rfl⟩
    have HL9 : Hid (Below w.heap.size w W9) := (by rw [hW9]; exact HBx2.out.trans hl9 : Below _ _ _)
    have hB9 : Blk 39 W9 (w.heap.size + 2) [.int .i64 426, .string ⟨#[]⟩, .slice a2 (upL.length + 1) c2, .string B426] := by rw [hW9]; exact set4_blk HRx2.out (.int .i64 426) (.string ⟨#[]⟩) (.slice a2 (upL.length + 1) c2) (.string B426)
    have HW9 : Hid (((((x2.setCell ⟨w.heap.size + 2, 0, none⟩ (.int .i64 426)).setCell ⟨w.heap.size + 2, 1, none⟩ (.string ⟨#[]⟩)).setCell ⟨w.heap.size + 2, 2, none⟩ (.slice a2 (upL.length + 1) c2)).setCell ⟨w.heap.size + 2, 3, none⟩ (.string B426)) = W9) := hW9.symm
    clear hb9 hl9 hW9
    go_wp2
    rw [HW9.out]
    clear r0 r1 r2 r3 rf
    have q0 := hB9.cell 0 rfl
    have q1 := hB9.cell 1 rfl
    have q2 := hB9.cell 2 rfl
    have q3 := hB9.cell 3 rfl
    refine bodyPost_ret (v := .agg #[.int .i64 426, .string ⟨#[]⟩, .slice a2 (upL.length + 1) c2, .string B426]) (by simp [results, Tryz.results78, go_sem, q0, q1, q2, q3]) rfl ?_
    exact ⟨_, _, _, _, by rw [HYf.out], fun h => by rw [HYf.out] at h; exact absurd h (by decide), HL9.out⟩
  | true =>
    go_wp2_with fail
    refine (HH2.out _ HBw5.out).mono ?_
    rintro e w6 ⟨rfl, hx⟩
    clear z4
    have HBw6 : Hid (Below w.heap.size w w6) := bel_tr HBw5.out hx HBw5.out.size
    have HRw6 : Hid (Blk 39 w6 (w.heap.size + 2) [.int .i64 0, .string ⟨#[]⟩, .slice none 0 0, .string ⟨#[]⟩]) := HRw5.out.below hx
    have HQw6 : Hid (Blk 55 w6 (w.heap.size + 3) [.string ⟨#[71, 69, 84]⟩, .string ⟨#[47]⟩, .int .i64 1, .int .i64 1, .slice av t.length cv, .string ⟨#[]⟩, .slice none 0 0]) := HQw5.out.below hx
    have z4 := HQw6.out.cell 4 rfl
    clear hx
    cases b2 with
    | false =>
      have HYf : Hid (sockR t = 426) := (by rw [HY.out]; rfl : _ = _)
      clear z4 HY
      go_wp2_with fail
      refine (HUg.out _).mono ?_
      rintro e x1 ⟨rfl, ho1, hx1⟩
      have HBx1 : Hid (Below w.heap.size w x1) := bel_tr HBw6.out hx1 HBw6.out.size
      have HRx1 : Hid (Blk 39 x1 (w.heap.size + 2) [.int .i64 0, .string ⟨#[]⟩, .slice none 0 0, .string ⟨#[]⟩]) := HRw6.out.below hx1
      have HI1 : Hid (InF _ upL x1) := (ho1.inF : InF _ _ _)
      clear ho1 hx1
      go_wp2_with fail
      refine (HP4.out _ _ x1 HI1.out HBx1.out (by decide)).mono ?_
      rintro e x2 ⟨a2, c2, rfl, hx2⟩
      have HBx2 : Hid (Below w.heap.size w x2) := bel_tr HBx1.out hx2 HBx1.out.size
      have HRx2 : Hid (Blk 39 x2 (w.heap.size + 2) [.int .i64 0, .string ⟨#[]⟩, .slice none 0 0, .string ⟨#[]⟩]) := HRx1.out.below hx2
      clear hx2
      have r0 := HRx2.out.cell 0 rfl; have r1 := HRx2.out.cell 1 rfl; have r2 := HRx2.out.cell 2 rfl; have r3 := HRx2.out.cell 3 rfl; have rf := HRx2.out.free
      have hD4 := HRx2.out.lt
      have hb9 := set4_but x2 (w.heap.size + 2) (.int .i64 426) (.string ⟨#[]⟩) (.slice a2 (upL.length + 1) c2) (.string B426)
      have hl9 : Below w.heap.size x2 (set4 x2 (w.heap.size + 2) (.int .i64 426) (.string ⟨#[]⟩) (.slice a2 (upL.length + 1) c2) (.string B426)) := hb9.below (by omega) (fun x hx => by simp at hx; omega)
      obtain ⟨W9, hW9⟩ : ∃ W9, W9 = set4 x2 (w.heap.size + 2) (.int .i64 426) (.string ⟨#[]⟩) (.slice a2 (upL.length + 1) c2) (.string B426) := ⟨_, rfl⟩
      have HL9 : Hid (Below w.heap.size w W9) := (by rw [hW9]; exact HBx2.out.trans hl9 : Below _ _ _)
      have hB9 : Blk 39 W9 (w.heap.size + 2) [.int .i64 426, .string ⟨#[]⟩, .slice a2 (upL.length + 1) c2, .string B426] := by rw [hW9]; exact set4_blk HRx2.out (.int .i64 426) (.string ⟨#[]⟩) (.slice a2 (upL.length + 1) c2) (.string B426)
      have HW9 : Hid (((((x2.setCell ⟨w.heap.size + 2, 0, none⟩ (.int .i64 426)).setCell ⟨w.heap.size + 2, 1, none⟩ (.string ⟨#[]⟩)).setCell ⟨w.heap.size + 2, 2, none⟩ (.slice a2 (upL.length + 1) c2)).setCell ⟨w.heap.size + 2, 3, none⟩ (.string B426)) = W9) := hW9.symm
      clear hb9 hl9 hW9
      go_wp2
      rw [HW9.out]
      clear r0 r1 r2 r3 rf
      have q0 := hB9.cell 0 rfl
      have q1 := hB9.cell 1 rfl
      have q2 := hB9.cell 2 rfl
      have q3 := hB9.cell 3 rfl
      refine bodyPost_ret (v := .agg #[.int .i64 426, .string ⟨#[]⟩, .slice a2 (upL.length + 1) c2, .string B426]) (by simp [results, Tryz.results78, go_sem, q0, q1, q2, q3]) rfl ?_
      exact ⟨_, _, _, _, by rw [HYf.out], fun h => by rw [HYf.out] at h; exact absurd h (by decide), HL9.out⟩
    | true =>
      go_wp2_with fail
      refine (HOv.out _ HBw6.out).mono ?_
      rintro e w7 ⟨rfl, hx⟩
      clear z4
      have HBw7 : Hid (Below w.heap.size w w7) := bel_tr HBw6.out hx HBw6.out.size
      have HRw7 : Hid (Blk 39 w7 (w.heap.size + 2) [.int .i64 0, .string ⟨#[]⟩, .slice none 0 0, .string ⟨#[]⟩]) := HRw6.out.below hx
      have HQw7 : Hid (Blk 55 w7 (w.heap.size + 3) [.string ⟨#[71, 69, 84]⟩, .string ⟨#[47]⟩, .int .i64 1, .int .i64 1, .slice av t.length cv, .string ⟨#[]⟩, .slice none 0 0]) := HQw6.out.below hx
      have z4 := HQw7.out.cell 4 rfl
      clear hx
      have HVe : Hid (((str V).toList == [49, 51]) = decide (V = [49, 51])) := by
        have h := veqA V [49, 51]
        rw [show (str [49, 51]).toList = [49, 51] by rw [Lib.toList_data]; rfl] at h
        exact h
      by_cases hv : V = [49, 51]
      case neg =>
        have HYf : Hid (sockR t = 426) := (by rw [HY.out]; simp [hv] : _ = _)
        have q1 : ((str V).toList == [49, 51]) = false := by rw [HVe.out]; exact decide_eq_false hv
        have q2 : ((str V).toList != [49, 51]) = true := by show (!((str V).toList == [49, 51])) = true; rw [q1]; rfl
        clear hv z4 HVe HY
        generalize str V = VS at *
        have HSp1 : Hid (InF (.slice (some ⟨w7.heap.size, 0, none⟩) 1 1) [(verN, [49, 51])] (w7.alloc (.cells #[.string ⟨#[83, 101, 99, 45, 87, 101, 98, 83, 111, 99, 107, 101, 116, 45, 86, 101, 114, 115, 105, 111, 110]⟩, .string ⟨#[49, 51]⟩] 36))) := (⟨rd_oneF w7 36 (verN, [49, 51]), fun e => by cases e⟩ : InF _ _ _)
        have hx0 : Below w7.heap.size w7 (w7.alloc (.cells #[.string ⟨#[83, 101, 99, 45, 87, 101, 98, 83, 111, 99, 107, 101, 116, 45, 86, 101, 114, 115, 105, 111, 110]⟩, .string ⟨#[49, 51]⟩] 36)) := (Below.refl _ _).alloc (Nat.le_refl _) _
        obtain ⟨x1, hx1⟩ : ∃ x1, x1 = w7.alloc (.cells #[.string ⟨#[83, 101, 99, 45, 87, 101, 98, 83, 111, 99, 107, 101, 116, 45, 86, 101, 114, 115, 105, 111, 110]⟩, .string ⟨#[49, 51]⟩] 36) := ⟨_, rfl⟩
        rw [← hx1] at HSp1 hx0
        have HX1 : Hid (x1 = _) := hx1
        have HBx1 : Hid (Below w.heap.size w x1) := bel_tr HBw7.out hx0 HBw7.out.size
        have HRx1 : Hid (Blk 39 x1 (w.heap.size + 2) [.int .i64 0, .string ⟨#[]⟩, .slice none 0 0, .string ⟨#[]⟩]) := HRw7.out.below hx0
        clear hx0 hx1
        go_wp2_with fail
        try rw [← HX1.out]
        refine (HP4.out _ _ x1 HSp1.out HBx1.out (by decide)).mono ?_
        rintro e x2 ⟨a2, c2, rfl, hx2⟩
        have HBx2 : Hid (Below w.heap.size w x2) := bel_tr HBx1.out hx2 HBx1.out.size
        have HRx2 : Hid (Blk 39 x2 (w.heap.size + 2) [.int .i64 0, .string ⟨#[]⟩, .slice none 0 0, .string ⟨#[]⟩]) := HRx1.out.below hx2
        clear hx2 HX1
        rw [show ([(verN, [49, 51])] : List Fl).length + 1 = 2 from rfl]
        have r0 := HRx2.out.cell 0 rfl; have r1 := HRx2.out.cell 1 rfl; have r2 := HRx2.out.cell 2 rfl; have r3 := HRx2.out.cell 3 rfl; have rf := HRx2.out.free
        have hD4 := HRx2.out.lt
        have hb9 := set4_but x2 (w.heap.size + 2) (.int .i64 426) (.string ⟨#[]⟩) (.slice a2 2 c2) (.string B426)
        have hl9 : Below w.heap.size x2 (set4 x2 (w.heap.size + 2) (.int .i64 426) (.string ⟨#[]⟩) (.slice a2 2 c2) (.string B426)) := hb9.below (by omega) (fun x hx => by simp at hx; omega)
        obtain ⟨W9, hW9⟩ : ∃ W9, W9 = set4 x2 (w.heap.size + 2) (.int .i64 426) (.string ⟨#[]⟩) (.slice a2 2 c2) (.string B426) := ⟨_, rfl⟩
        have HL9 : Hid (Below w.heap.size w W9) := (by rw [hW9]; exact HBx2.out.trans hl9 : Below _ _ _)
        have hB9 : Blk 39 W9 (w.heap.size + 2) [.int .i64 426, .string ⟨#[]⟩, .slice a2 2 c2, .string B426] := by rw [hW9]; exact set4_blk HRx2.out (.int .i64 426) (.string ⟨#[]⟩) (.slice a2 2 c2) (.string B426)
        have HW9 : Hid (((((x2.setCell ⟨w.heap.size + 2, 0, none⟩ (.int .i64 426)).setCell ⟨w.heap.size + 2, 1, none⟩ (.string ⟨#[]⟩)).setCell ⟨w.heap.size + 2, 2, none⟩ (.slice a2 2 c2)).setCell ⟨w.heap.size + 2, 3, none⟩ (.string B426)) = W9) := hW9.symm
        clear hb9 hl9 hW9
        go_wp2
        rw [HW9.out]
        clear r0 r1 r2 r3 rf
        have q0 := hB9.cell 0 rfl
        have q1 := hB9.cell 1 rfl
        have q2 := hB9.cell 2 rfl
        have q3 := hB9.cell 3 rfl
        refine bodyPost_ret (v := .agg #[.int .i64 426, .string ⟨#[]⟩, .slice a2 2 c2, .string B426]) (by simp [results, Tryz.results78, go_sem, q0, q1, q2, q3]) rfl ?_
        exact ⟨_, _, _, _, by rw [HYf.out], fun h => by rw [HYf.out] at h; exact absurd h (by decide), HL9.out⟩
      have q1 : ((str V).toList == [49, 51]) = true := by rw [HVe.out]; exact decide_eq_true hv
      have q2 : ((str V).toList != [49, 51]) = false := by show (!((str V).toList == [49, 51])) = false; rw [q1]; rfl
      have HYb : Hid (sockR t = if AE ≠ 0 then 400 else 101) := (by rw [HY.out]; simp [hv] : _ = _)
      clear hv HVe HY
      generalize str V = VS at *
      go_wp2_with fail
      refine (HOk.out _ HBw7.out).mono ?_
      rintro e w8 ⟨rfl, hx⟩
      clear z4 q1 q2
      have HBw8 : Hid (Below w.heap.size w w8) := bel_tr HBw7.out hx HBw7.out.size
      have HRw8 : Hid (Blk 39 w8 (w.heap.size + 2) [.int .i64 0, .string ⟨#[]⟩, .slice none 0 0, .string ⟨#[]⟩]) := HRw7.out.below hx
      clear hx
      generalize str (onlyF keyN t) = KS at *
      go_wp2_with fail
      refine (HAc.out _).mono ?_
      rintro e w9 ⟨rfl, hx⟩
      have HBw9 : Hid (Below w.heap.size w w9) := bel_tr HBw8.out hx HBw8.out.size
      have HRw9 : Hid (Blk 39 w9 (w.heap.size + 2) [.int .i64 0, .string ⟨#[]⟩, .slice none 0 0, .string ⟨#[]⟩]) := HRw8.out.below hx
      clear hx
      by_cases hae : AE = 0
      case neg =>
        have HYf : Hid (sockR t = 400) := (by rw [HYb.out, if_pos hae] : _ = _)
        have q1 : (AE == 0) = false := by simp [hae]
        have q2 : (AE != 0) = true := by simp [hae]
        clear hae
        go_wp2_with fail
        refine (HP0.out _ HBw9.out).mono ?_
        rintro e x2 ⟨a2, c2, rfl, hx2⟩
        have HBx2 : Hid (Below w.heap.size w x2) := bel_tr HBw9.out hx2 HBw9.out.size
        have HRx2 : Hid (Blk 39 x2 (w.heap.size + 2) [.int .i64 0, .string ⟨#[]⟩, .slice none 0 0, .string ⟨#[]⟩]) := HRw9.out.below hx2
        clear hx2
        have r0 := HRx2.out.cell 0 rfl; have r1 := HRx2.out.cell 1 rfl; have r2 := HRx2.out.cell 2 rfl; have r3 := HRx2.out.cell 3 rfl; have rf := HRx2.out.free
        have hD4 := HRx2.out.lt
        have hb9 := set4_but x2 (w.heap.size + 2) (.int .i64 400) (.string ⟨#[]⟩) (.slice a2 1 c2) (.string B400)
        have hl9 : Below w.heap.size x2 (set4 x2 (w.heap.size + 2) (.int .i64 400) (.string ⟨#[]⟩) (.slice a2 1 c2) (.string B400)) := hb9.below (by omega) (fun x hx => by simp at hx; omega)
        obtain ⟨W9, hW9⟩ : ∃ W9, W9 = set4 x2 (w.heap.size + 2) (.int .i64 400) (.string ⟨#[]⟩) (.slice a2 1 c2) (.string B400) := ⟨_, rfl⟩
        have HL9 : Hid (Below w.heap.size w W9) := (by rw [hW9]; exact HBx2.out.trans hl9 : Below _ _ _)
        have hB9 : Blk 39 W9 (w.heap.size + 2) [.int .i64 400, .string ⟨#[]⟩, .slice a2 1 c2, .string B400] := by rw [hW9]; exact set4_blk HRx2.out (.int .i64 400) (.string ⟨#[]⟩) (.slice a2 1 c2) (.string B400)
        have HW9 : Hid (((((x2.setCell ⟨w.heap.size + 2, 0, none⟩ (.int .i64 400)).setCell ⟨w.heap.size + 2, 1, none⟩ (.string ⟨#[]⟩)).setCell ⟨w.heap.size + 2, 2, none⟩ (.slice a2 1 c2)).setCell ⟨w.heap.size + 2, 3, none⟩ (.string B400)) = W9) := hW9.symm
        clear hb9 hl9 hW9
        go_wp2
        rw [HW9.out]
        clear r0 r1 r2 r3 rf
        have q0 := hB9.cell 0 rfl
        have q1 := hB9.cell 1 rfl
        have q2 := hB9.cell 2 rfl
        have q3 := hB9.cell 3 rfl
        refine bodyPost_ret (v := .agg #[.int .i64 400, .string ⟨#[]⟩, .slice a2 1 c2, .string B400]) (by simp [results, Tryz.results78, go_sem, q0, q1, q2, q3]) rfl ?_
        exact ⟨_, _, _, _, by rw [HYf.out], fun h => by rw [HYf.out] at h; exact absurd h (by decide), HL9.out⟩
      have HYf : Hid (sockR t = 101) := (by rw [HYb.out, if_neg (fun h => h hae)] : _ = _)
      have q1 : (AE == 0) = true := by simp [hae]
      have q2 : (AE != 0) = false := by simp [hae]
      clear hae
      go_wp2_with fail
      refine (HUg.out _).mono ?_
      rintro e x1 ⟨rfl, ho1, hx1⟩
      have HO1 : Hid (OwnF 36 w9.heap.size _ upL x1) := (ho1 : OwnF _ _ _ _ _)
      have HS1 : Hid (w9.heap.size ≤ x1.heap.size) := hx1.size
      have HL9b : Hid (w.heap.size + 2 < w9.heap.size) := HRw9.out.lt
      have HS9 : Hid (w.heap.size ≤ w9.heap.size) := HBw9.out.size
      have HBx1 : Hid (Below w.heap.size w x1) := bel_tr HBw9.out hx1 HBw9.out.size
      have HRx1 : Hid (Blk 39 x1 (w.heap.size + 2) [.int .i64 0, .string ⟨#[]⟩, .slice none 0 0, .string ⟨#[]⟩]) := HRw9.out.below hx1
      clear hx1 ho1
      have HN1 : Hid ((⟨#[83, 101, 99, 45, 87, 101, 98, 83, 111, 99, 107, 101, 116, 45, 65, 99, 99, 101, 112, 116]⟩ : ByteArray) = str accN) := rfl
      generalize hXS : str AX = XS at *
      have HN2 : Hid (XS = str AX) := hXS.symm
      clear hXS
      go_wp2_with (at_builtin; go_must (refine wp_appF 36 34 infoF Tryz.underlying34 rfl (.tmp 56) (.tmp 59) rfl w9.heap.size _ upL _ (accN, AX) _ _ HN1.out HN2.out rfl HO1.out _ rfl (by simp) (by decide) HS1.out ?_); intro v3 x3 o3 b3; obtain ⟨fa, fc, e3⟩ := ownF_form o3; have e3 : v3 = .slice fa 3 fc := e3; subst e3; have HO : Hid (OwnF 36 w.heap.size (.slice fa 3 fc) [(upN, wsK), (coN, ugV), (accN, AX)] x3) := (own_upF o3 HS9.out : OwnF _ _ _ _ _); have HBx3 : Hid (Below w.heap.size w x3) := HBx1.out.trans (b3.mono HS9.out); have HRx3 : Hid (Blk 39 x3 (w.heap.size + 2) [.int .i64 0, .string ⟨#[]⟩, .slice none 0 0, .string ⟨#[]⟩]) := (HRx1.out.low b3 HL9b.out : Blk _ _ _ _); have r0 := HRx3.out.cell 0 rfl; have r1 := HRx3.out.cell 1 rfl; have r2 := HRx3.out.cell 2 rfl; have r3 := HRx3.out.cell 3 rfl; have rf := HRx3.out.free; clear o3 b3)

      have hD4 := HRx3.out.lt
      have hb9 := set4_but x3 (w.heap.size + 2) (.int .i64 101) (.string ⟨#[]⟩) (.slice fa 3 fc) (.string ⟨#[]⟩)
      have hl9 : Below w.heap.size x3 (set4 x3 (w.heap.size + 2) (.int .i64 101) (.string ⟨#[]⟩) (.slice fa 3 fc) (.string ⟨#[]⟩)) := hb9.below (by omega) (fun x hx => by simp at hx; omega)
      obtain ⟨W9, hW9⟩ : ∃ W9, W9 = set4 x3 (w.heap.size + 2) (.int .i64 101) (.string ⟨#[]⟩) (.slice fa 3 fc) (.string ⟨#[]⟩) := ⟨_, rfl⟩
      have HL9 : Hid (Below w.heap.size w W9) := (by rw [hW9]; exact HBx3.out.trans hl9 : Below _ _ _)
      have hB9 : Blk 39 W9 (w.heap.size + 2) [.int .i64 101, .string ⟨#[]⟩, .slice fa 3 fc, .string ⟨#[]⟩] := by rw [hW9]; exact set4_blk HRx3.out (.int .i64 101) (.string ⟨#[]⟩) (.slice fa 3 fc) (.string ⟨#[]⟩)
      have HW9 : Hid (((((x3.setCell ⟨w.heap.size + 2, 0, none⟩ (.int .i64 101)).setCell ⟨w.heap.size + 2, 1, none⟩ (.string ⟨#[]⟩)).setCell ⟨w.heap.size + 2, 2, none⟩ (.slice fa 3 fc)).setCell ⟨w.heap.size + 2, 3, none⟩ (.string ⟨#[]⟩)) = W9) := hW9.symm
      have HO9 : Hid (OwnF 36 w.heap.size (.slice fa 3 fc) [(upN, wsK), (coN, ugV), (accN, AX)] W9) := (by rw [hW9]; exact HRx3.out.keep HO.out (by decide) hb9 : OwnF _ _ _ _ _)
      clear hb9 hl9 hW9

      rw [HW9.out]
      clear r0 r1 r2 r3 rf
      have q0 := hB9.cell 0 rfl
      have q1 := hB9.cell 1 rfl
      have q2 := hB9.cell 2 rfl
      have q3 := hB9.cell 3 rfl
      refine bodyPost_ret (v := .agg #[.int .i64 101, .string ⟨#[]⟩, .slice fa 3 fc, .string ⟨#[]⟩]) (by simp [results, Tryz.results78, go_sem, q0, q1, q2, q3]) rfl ?_
      exact ⟨_, _, _, _, by rw [HYf.out], fun _ => ⟨rfl, rfl, by rw [← HAX.out]; exact HO9.out⟩, HL9.out⟩

end Hn
end Go.Proofs.YtlfobdjbnpgchaaGreatDoor
