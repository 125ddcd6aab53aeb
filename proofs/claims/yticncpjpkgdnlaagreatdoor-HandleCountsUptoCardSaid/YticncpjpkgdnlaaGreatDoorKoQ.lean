/-
  cookie: answerCount (written by mkko.py).
-/
import Derived.Test.YticncpjpkgdnlaaGreatDoorMgJ
import Derived.Test.YticncpjpkgdnlaaGreatDoorKoP
set_option linter.unusedVariables false
set_option linter.unusedSimpArgs false
set_option maxRecDepth 100000
namespace Go.Proofs.YticncpjpkgdnlaaGreatDoor
open Go.RowKit Go.Shelf
namespace Ko
open Oc Tg _root_.Go.Proofs.YticncpjpkgdnlaaGreatDoor.Fd _root_.Go.Proofs.YticncpjpkgdnlaaGreatDoor.Ck _root_.Go.Proofs.YticncpjpkgdnlaaGreatDoor.Ms _root_.Go.Proofs.YticncpjpkgdnlaaGreatDoor.Hn

def scN : List UInt8 := [83, 101, 116, 45, 67, 111, 111, 107, 105, 101]
set_option maxHeartbeats 4000000 in
theorem answerCount_one (N DS : List UInt8) (nm tx md : ByteArray) (k st no : Int) (av : Option Addr) (cv : Nat) (v : List UInt8) (en : nm = str N) (hN : N.length ≤ 4000000) (hv : v.length ≤ 1048576) (hd : DS.length ≤ 1048576)
    (hck : ckL v = [(N, DS)]) (c : Int) (hc : (numR 10 DS 999999999).1 = c) (c0 : 0 ≤ c) (c1 : c ≤ 999999999) (hl : (Lib.itoa (c + 1)).length ≤ 100) (hk : cokB nm (str (Lib.itoa (c + 1))) = true)
    (w : World) (hI : InF (.slice av 1 cv) [(ckN, v)] w) (ml : Tg.ML w) (tb : Tab w) (hp : Pow w) (sw : SW w)
    (hSt : ∀ W, Below w.heap.size w W → Calls Tryz.prog 100 #[.int .i64 0] W fun e w' => ∃ (x : ByteArray) (E : Int), e = .returned (.tuple #[.string x, .int .i64 E]) ∧ x.size ≤ 100 ∧ Below W.heap.size W w') :
    Calls Tryz.prog 35 #[.agg #[.int .i64 k, .string nm, .string tx, .string md, .int .i64 st, .int .i64 no], .agg #[.string ⟨#[71, 69, 84]⟩, .string ⟨#[47]⟩, .int .i64 0, .int .i64 0, .slice av 1 cv, .string ⟨#[]⟩, .slice none 0 0, .int .i64 0, .string ⟨#[]⟩, .int .i64 0, .string ⟨#[]⟩, .string ⟨#[]⟩, .bool false, .slice none 0 0, .int .i64 0], .pointer none] w fun e w' => ∃ a cc, e = .returned (.agg #[.int .i64 200, .string ⟨#[]⟩, .slice a 2 cc, .string (str (Lib.itoa (c + 1)) ++ ⟨#[10]⟩)]) ∧ OwnF 26 w.heap.size (.slice a 2 cc) [(nCT, plT), (scN, setL N (Lib.itoa (c + 1)))] w' ∧ Below w.heap.size w w' := by
  have HCt : Hid (∀ W, Below w.heap.size w W → Calls Tryz.prog 67 #[.slice av 1 cv, .string nm] W fun e w' => e = .returned (.int .i64 c) ∧ Below W.heap.size W w') := fun W h => by
    have := counted_one (.slice av 1 cv) v N DS hv hd W (hI.below h).1 (ml.below h) (tb.below h (Nat.le_refl _)) hck c hc
    rw [en]
    exact this
  clear hc hck
  have hw1 : IntKind.i64.wrap (c + 1) = c + 1 := by rw [IntKind.wrap_i64]; omega
  have HDg : Hid (∀ W, Below w.heap.size w W → Calls Tryz.prog 38 #[.int .i64 (c + 1)] W fun e w' => e = .returned (.string (str (Lib.itoa (c + 1)))) ∧ Below W.heap.size W w') := fun W h => Digits_any (c + 1) (by omega) (by omega) W (hp.below h (Nat.le_refl _))
  have HPs : Hid (∀ W, Below w.heap.size w W → Calls Tryz.prog 68 #[.agg #[.string nm, .string (str (Lib.itoa (c + 1))), .string ⟨#[47]⟩, .string ⟨#[]⟩, .int .i64 0, .bool false, .int .i64 0, .bool false, .bool false, .bool false, .int .i64 0]] W fun e w' => e = .returned (.tuple #[.string (str (setL N (Lib.itoa (c + 1)))), .int .i64 0]) ∧ Below W.heap.size W w') := fun W h =>
    PrintSet_c N (Lib.itoa (c + 1)) nm (str (Lib.itoa (c + 1))) en rfl hN (by omega) hk W (tb.below h (Nat.le_refl _)) (hp.below h (Nat.le_refl _)) (sw.below h (Nat.le_refl _)) (fun W2 h2 => hSt W2 (bel_tr h h2 h.size))
  have hdz : (str (Lib.itoa (c + 1))).size ≤ 100 := by rw [str_size]; exact hl
  have hcat : ¬ 9223372036854775807 < (str (Lib.itoa (c + 1))).size + 1 := by omega
  generalize hSS : str (setL N (Lib.itoa (c + 1))) = SS at *
  have HSS : Hid (SS = str (setL N (Lib.itoa (c + 1)))) := hSS.symm
  generalize setL N (Lib.itoa (c + 1)) = SL at *
  generalize str (Lib.itoa (c + 1)) = DG at *
  have HTx : Hid (∀ u W, InF u [(scN, SL)] W → Calls Tryz.prog 45 #[.string (DG ++ ⟨#[10]⟩), u] W fun e w' => ∃ a cc, e = .returned (.agg #[.int .i64 200, .string ⟨#[]⟩, .slice a 2 cc, .string (DG ++ ⟨#[10]⟩)]) ∧ OwnF 26 W.heap.size (.slice a 2 cc) [(nCT, plT), (scN, SL)] w' ∧ Below W.heap.size W w') := fun u W h => by
    have h2 := texted_any (DG ++ ⟨#[10]⟩) u [(scN, SL)] (by simp) W h
    rw [show [(scN, SL)].length + 1 = 2 from rfl] at h2
    exact h2
  obtain ⟨w1, hw1⟩ : ∃ w1, w1 = w.alloc (.cells #[.int .i64 k, .string nm, .string tx, .string md, .int .i64 st, .int .i64 no] 39) := ⟨_, rfl⟩
  have hb1 : Below w.heap.size w w1 := by rw [hw1]; exact (Below.refl _ w).alloc (Nat.le_refl _) _
  have hs1 : w1.heap.size = w.heap.size + 1 := by rw [hw1]; simp
  have hK1 : Blk 39 w1 w.heap.size [.int .i64 k, .string nm, .string tx, .string md, .int .i64 st, .int .i64 no] := by rw [hw1]; exact heap_alloc_new w _
  obtain ⟨w2, hw2⟩ : ∃ w2, w2 = w1.alloc (.cells #[.string ⟨#[71, 69, 84]⟩, .string ⟨#[47]⟩, .int .i64 0, .int .i64 0, .slice av 1 cv, .string ⟨#[]⟩, .slice none 0 0, .int .i64 0, .string ⟨#[]⟩, .int .i64 0, .string ⟨#[]⟩, .string ⟨#[]⟩, .bool false, .slice none 0 0, .int .i64 0] 34) := ⟨_, rfl⟩
  have hb2 : Below w1.heap.size w1 w2 := by rw [hw2]; exact (Below.refl _ w1).alloc (Nat.le_refl _) _
  have hs2 : w2.heap.size = w.heap.size + 2 := by rw [hw2]; simp; omega
  have hZ2 : Blk 34 w2 (w.heap.size + 1) [.string ⟨#[71, 69, 84]⟩, .string ⟨#[47]⟩, .int .i64 0, .int .i64 0, .slice av 1 cv, .string ⟨#[]⟩, .slice none 0 0, .int .i64 0, .string ⟨#[]⟩, .int .i64 0, .string ⟨#[]⟩, .string ⟨#[]⟩, .bool false, .slice none 0 0, .int .i64 0] := by rw [hw2, ← hs1]; exact heap_alloc_new w1 _
  obtain ⟨w3, hw3⟩ : ∃ w3, w3 = w2.alloc (.cells #[.int .i64 0, .string ⟨#[]⟩, .slice none 0 0, .string ⟨#[]⟩] 36) := ⟨_, rfl⟩
  have hb3 : Below w2.heap.size w2 w3 := by rw [hw3]; exact (Below.refl _ w2).alloc (Nat.le_refl _) _
  have HR3 : Hid (Blk 36 w3 (w.heap.size + 2) [.int .i64 0, .string ⟨#[]⟩, .slice none 0 0, .string ⟨#[]⟩]) := (by rw [hw3, ← hs2]; exact heap_alloc_new w2 _ : Blk _ _ _ _)
  have HH3 : Hid (Blk 39 w3 w.heap.size [.int .i64 k, .string nm, .string tx, .string md, .int .i64 st, .int .i64 no]) := ((hK1.below hb2).below hb3 : Blk _ _ _ _)
  have HA3 : Hid (Blk 34 w3 (w.heap.size + 1) [.string ⟨#[71, 69, 84]⟩, .string ⟨#[47]⟩, .int .i64 0, .int .i64 0, .slice av 1 cv, .string ⟨#[]⟩, .slice none 0 0, .int .i64 0, .string ⟨#[]⟩, .int .i64 0, .string ⟨#[]⟩, .string ⟨#[]⟩, .bool false, .slice none 0 0, .int .i64 0]) := (hZ2.below hb3 : Blk _ _ _ _)
  have HB3 : Hid (Below w.heap.size w w3) := (bel_tr (bel_tr hb1 hb2 (by omega)) hb3 (by omega) : Below _ _ _)
  have HW3 : Hid (w3 = _) := hw3
  have HW2 : Hid (w2 = _) := hw2
  have HW1 : Hid (w1 = _) := hw1
  have z4 := HA3.out.cell 4 rfl
  have h1 := HH3.out.cell 1 rfl
  clear hb1 hb2 hb3 hs1 hs2 hK1 hZ2 hw2 hw3 hI ml tb hp sw hSt hk hl hd hv hN en
  go_enter Tryz.func35, Tryz.ntmps35
  go_wp2_with fail
  try rw [← HW1.out, ← HW2.out, ← HW3.out]
  refine (HCt.out _ HB3.out).mono ?_
  rintro e w4 ⟨rfl, hb⟩
  have HH4 : Hid (Blk 39 w4 w.heap.size [.int .i64 k, .string nm, .string tx, .string md, .int .i64 st, .int .i64 no]) := HH3.out.below hb
  have HA4 : Hid (Blk 34 w4 (w.heap.size + 1) [.string ⟨#[71, 69, 84]⟩, .string ⟨#[47]⟩, .int .i64 0, .int .i64 0, .slice av 1 cv, .string ⟨#[]⟩, .slice none 0 0, .int .i64 0, .string ⟨#[]⟩, .int .i64 0, .string ⟨#[]⟩, .string ⟨#[]⟩, .bool false, .slice none 0 0, .int .i64 0]) := HA3.out.below hb
  have HR4 : Hid (Blk 36 w4 (w.heap.size + 2) [.int .i64 0, .string ⟨#[]⟩, .slice none 0 0, .string ⟨#[]⟩]) := HR3.out.below hb
  have HB4 : Hid (Below w.heap.size w w4) := bel_tr HB3.out hb HB3.out.size
  clear hb z4 h1 HW1 HW2 HW3 HCt
  go_wp2_with fail
  refine (HDg.out _ HB4.out).mono ?_
  rintro e w5 ⟨rfl, hb⟩
  have HH5 : Hid (Blk 39 w5 w.heap.size [.int .i64 k, .string nm, .string tx, .string md, .int .i64 st, .int .i64 no]) := HH4.out.below hb
  have HA5 : Hid (Blk 34 w5 (w.heap.size + 1) [.string ⟨#[71, 69, 84]⟩, .string ⟨#[47]⟩, .int .i64 0, .int .i64 0, .slice av 1 cv, .string ⟨#[]⟩, .slice none 0 0, .int .i64 0, .string ⟨#[]⟩, .int .i64 0, .string ⟨#[]⟩, .string ⟨#[]⟩, .bool false, .slice none 0 0, .int .i64 0]) := HA4.out.below hb
  have HR5 : Hid (Blk 36 w5 (w.heap.size + 2) [.int .i64 0, .string ⟨#[]⟩, .slice none 0 0, .string ⟨#[]⟩]) := HR4.out.below hb
  have HB5 : Hid (Below w.heap.size w w5) := bel_tr HB4.out hb HB4.out.size
  clear hb HDg
  have h1 := HH5.out.cell 1 rfl
  go_wp2_with fail
  refine (HPs.out _ HB5.out).mono ?_
  rintro e w6 ⟨rfl, hb⟩
  have HH6 : Hid (Blk 39 w6 w.heap.size [.int .i64 k, .string nm, .string tx, .string md, .int .i64 st, .int .i64 no]) := HH5.out.below hb
  have HA6 : Hid (Blk 34 w6 (w.heap.size + 1) [.string ⟨#[71, 69, 84]⟩, .string ⟨#[47]⟩, .int .i64 0, .int .i64 0, .slice av 1 cv, .string ⟨#[]⟩, .slice none 0 0, .int .i64 0, .string ⟨#[]⟩, .int .i64 0, .string ⟨#[]⟩, .string ⟨#[]⟩, .bool false, .slice none 0 0, .int .i64 0]) := HA5.out.below hb
  have HR6 : Hid (Blk 36 w6 (w.heap.size + 2) [.int .i64 0, .string ⟨#[]⟩, .slice none 0 0, .string ⟨#[]⟩]) := HR5.out.below hb
  have HB6 : Hid (Below w.heap.size w w6) := bel_tr HB5.out hb HB5.out.size
  clear hb h1 HPs
  have HI7 : Hid (InF (.slice (some ⟨w6.heap.size, 0, none⟩) 1 1) [(scN, SL)] (w6.alloc (.cells #[.string (str scN), .string (str SL)] 26))) := (⟨rd_oneF w6 26 (scN, SL), fun e => by cases e⟩ : InF _ _ _)
  rw [← HSS.out] at HI7
  have hb7 : Below w6.heap.size w6 (w6.alloc (.cells #[.string (str scN), .string SS] 26)) := (Below.refl _ w6).alloc (Nat.le_refl _) _
  obtain ⟨w7, hw7⟩ : ∃ w7, w7 = w6.alloc (.cells #[.string (str scN), .string SS] 26) := ⟨_, rfl⟩
  rw [← hw7] at HI7 hb7
  have HW7 : Hid (w6.alloc (.cells #[.string ⟨#[83, 101, 116, 45, 67, 111, 111, 107, 105, 101]⟩, .string SS] 26) = w7) := hw7.symm
  have HR7 : Hid (Blk 36 w7 (w.heap.size + 2) [.int .i64 0, .string ⟨#[]⟩, .slice none 0 0, .string ⟨#[]⟩]) := HR6.out.below hb7
  have HB7 : Hid (Below w.heap.size w w7) := bel_tr HB6.out hb7 HB6.out.size
  clear hw7 hb7
  go_wp2_with (first | rw [HW7.out] | fail)
  try rw [HW7.out]
  refine (HTx.out _ _ HI7.out).mono ?_
  rintro e w8 ⟨a, cc, rfl, ho, hb⟩
  have HR8 : Hid (Blk 36 w8 (w.heap.size + 2) [.int .i64 0, .string ⟨#[]⟩, .slice none 0 0, .string ⟨#[]⟩]) := HR7.out.below hb
  have HB8 : Hid (Below w.heap.size w w8) := bel_tr HB7.out hb HB7.out.size
  have HO8 : Hid (OwnF 26 w.heap.size (.slice a 2 cc) [(nCT, plT), (scN, SL)] w8) := (own_upF ho HB7.out.size : OwnF _ _ _ _ _)
  clear hb ho HI7 HW7
  have r0 := HR8.out.cell 0 rfl
  have r1 := HR8.out.cell 1 rfl
  have r2 := HR8.out.cell 2 rfl
  have r3 := HR8.out.cell 3 rfl
  have rf := HR8.out.free
  have hD4 := HR8.out.lt
  have hb9 := set4_but w8 (w.heap.size + 2) (.int .i64 200) (.string ⟨#[]⟩) (.slice a 2 cc) (.string (DG ++ ⟨#[10]⟩))
  have hl9 : Below w.heap.size w8 (set4 w8 (w.heap.size + 2) (.int .i64 200) (.string ⟨#[]⟩) (.slice a 2 cc) (.string (DG ++ ⟨#[10]⟩))) := hb9.below (by omega) (fun x hx => by simp at hx; omega)
  obtain ⟨W9, hW9⟩ : ∃ W9, W9 = set4 w8 (w.heap.size + 2) (.int .i64 200) (.string ⟨#[]⟩) (.slice a 2 cc) (.string (DG ++ ⟨#[10]⟩)) := ⟨_, rfl⟩
  have HL9 : Hid (Below w.heap.size w W9) := (by rw [hW9]; exact HB8.out.trans hl9 : Below _ _ _)
  have hB9 : Blk 36 W9 (w.heap.size + 2) [.int .i64 200, .string ⟨#[]⟩, .slice a 2 cc, .string (DG ++ ⟨#[10]⟩)] := by rw [hW9]; exact set4_blk HR8.out _ _ _ _
  have HO9 : Hid (OwnF 26 w.heap.size (.slice a 2 cc) [(nCT, plT), (scN, SL)] W9) := (by rw [hW9]; exact HR8.out.keep HO8.out (by decide) hb9 : OwnF _ _ _ _ _)
  have HW9 : Hid (((((w8.setCell ⟨w.heap.size + 2, 0, none⟩ (.int .i64 200)).setCell ⟨w.heap.size + 2, 1, none⟩ (.string ⟨#[]⟩)).setCell ⟨w.heap.size + 2, 2, none⟩ (.slice a 2 cc)).setCell ⟨w.heap.size + 2, 3, none⟩ (.string (DG ++ ⟨#[10]⟩))) = W9) := hW9.symm
  clear hb9 hl9 hW9
  go_wp2
  rw [HW9.out]
  clear r0 r1 r2 r3 rf
  have q0 := hB9.cell 0 rfl
  have q1 := hB9.cell 1 rfl
  have q2 := hB9.cell 2 rfl
  have q3 := hB9.cell 3 rfl
  refine bodyPost_ret (v := .agg #[.int .i64 200, .string ⟨#[]⟩, .slice a 2 cc, .string (DG ++ ⟨#[10]⟩)]) (by simp [results, Tryz.results35, go_sem, q0, q1, q2, q3]) rfl ?_
  exact ⟨a, cc, rfl, HO9.out, HL9.out⟩

end Ko
end Go.Proofs.YticncpjpkgdnlaaGreatDoor
