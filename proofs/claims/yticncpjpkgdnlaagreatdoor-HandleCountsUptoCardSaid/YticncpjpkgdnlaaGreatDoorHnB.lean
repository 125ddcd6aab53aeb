/-
  handle: written, texted, Plain, answerText; used.., right.. (written by mkhnb.py)
-/
import Derived.Test.YticncpjpkgdnlaaGreatDoorMgD
import Derived.Test.YticncpjpkgdnlaaGreatDoorHnK
import Derived.Test.YticncpjpkgdnlaaGreatDoorMgB
set_option linter.unusedVariables false
set_option linter.unusedSimpArgs false
set_option maxRecDepth 100000
namespace Go.Proofs.YticncpjpkgdnlaaGreatDoor
open Go.RowKit Go.Shelf
namespace Hn
open Oc Tg _root_.Go.Proofs.YticncpjpkgdnlaaGreatDoor.Fd _root_.Go.Proofs.YticncpjpkgdnlaaGreatDoor.Ck _root_.Go.Proofs.YticncpjpkgdnlaaGreatDoor.Ms

def nCT : List UInt8 := [67, 111, 110, 116, 101, 110, 116, 45, 84, 121, 112, 101]
def plT : List UInt8 := [116, 101, 120, 116, 47, 112, 108, 97, 105, 110, 59, 32, 99, 104, 97, 114, 115, 101, 116, 61, 117, 116, 102, 45, 56]
theorem bel_tr {a b c : World} {n : Nat} (h : Below n a b) (k : Below b.heap.size b c) (hn : n ≤ b.heap.size) : Below n a c := h.trans (k.mono hn)

set_option maxHeartbeats 2000000 in
theorem written_any (st : Int) (md bd : ByteArray) (v : Value) (t : List Fl) (hl : t.length ≤ 1000000000) (w : World) (hI : InF v t w) :
    Calls Tryz.prog 39 #[.int .i64 st, .string md, .string bd, v] w fun e w' => ∃ a c, e = .returned (.agg #[.int .i64 st, .string ⟨#[]⟩, .slice a (t.length + 1) c, .string bd]) ∧ OwnF 26 w.heap.size (.slice a (t.length + 1) c) ((nCT, md.data.toList) :: t) w' ∧ Below w.heap.size w w' := by
  obtain ⟨av, cv, rfl, _⟩ := id hI.1
  obtain ⟨w1, hw1⟩ : ∃ w1, w1 = w.alloc (.cells #[.int .i64 0, .string ⟨#[]⟩, .slice none 0 0, .string ⟨#[]⟩] 36) := ⟨_, rfl⟩
  have hb1 : Below w.heap.size w w1 := by rw [hw1]; exact (Below.refl _ w).alloc (Nat.le_refl _) _
  have hs1 : w1.heap.size = w.heap.size + 1 := by rw [hw1]; simp
  have hR1 : Blk 36 w1 w.heap.size [.int .i64 0, .string ⟨#[]⟩, .slice none 0 0, .string ⟨#[]⟩] := by rw [hw1]; exact heap_alloc_new w _
  obtain ⟨w2, hw2⟩ : ∃ w2, w2 = w1.alloc (.cells #[.string ⟨#[67, 111, 110, 116, 101, 110, 116, 45, 84, 121, 112, 101]⟩, .string md] 26) := ⟨_, rfl⟩
  have hb2 : Below w1.heap.size w1 w2 := by rw [hw2]; exact (Below.refl _ w1).alloc (Nat.le_refl _) _
  have hs2 : w2.heap.size = w.heap.size + 2 := by rw [hw2]; simp; omega
  have hF2 : RdF (.slice (some ⟨w1.heap.size, 0, none⟩) 1 1) [(nCT, md.data.toList)] w2 := by
    have h := rd_oneF w1 26 (nCT, md.data.toList)
    rw [hw2]
    have e1 : str nCT = ⟨#[67, 111, 110, 116, 101, 110, 116, 45, 84, 121, 112, 101]⟩ := rfl
    have e2 : str md.data.toList = md := str_self md
    rw [e1, e2] at h
    exact h
  obtain ⟨w3, hw3⟩ : ∃ w3, w3 = w2.alloc (.cells #[.slice (some ⟨w1.heap.size, 0, none⟩) 1 1, .slice av t.length cv] 27) := ⟨_, rfl⟩
  have hb3 : Below w2.heap.size w2 w3 := by rw [hw3]; exact (Below.refl _ w2).alloc (Nat.le_refl _) _
  have hs3 : w3.heap.size = w.heap.size + 3 := by rw [hw3]; simp; omega
  have HB3 : Hid (Below w.heap.size w w3) := (bel_tr (bel_tr hb1 hb2 (by omega)) hb3 (by omega) : Below _ _ _)
  have hx0 : w3.cell? ⟨w.heap.size + 2, 0, none⟩ = some (.slice (some ⟨w1.heap.size, 0, none⟩) 1 1) := by rw [hw3, ← hs2, cell_of_row _ _ _ _ _ _ (heap_alloc_new w2 _)]; rfl
  have hx1 : w3.cell? ⟨w.heap.size + 2, 1, none⟩ = some (.slice av t.length cv) := by rw [hw3, ← hs2, cell_of_row _ _ _ _ _ _ (heap_alloc_new w2 _)]; rfl
  have HC : Hid (Calls _ _ _ _ _) := Concat_two (.slice (some ⟨w1.heap.size, 0, none⟩) 1 1) (.slice av t.length cv) [(nCT, md.data.toList)] t (w.heap.size + 2) w3 (InF.below ⟨hF2, fun h => by cases h⟩ hb3) (hI.below HB3.out) (by simp; omega) hx0 hx1
  have HR3 : Hid (Blk 36 w3 w.heap.size [.int .i64 0, .string ⟨#[]⟩, .slice none 0 0, .string ⟨#[]⟩]) := hR1.below (bel_tr hb2 hb3 (by omega))
  have HW3 : Hid (w3 = ((w.alloc (.cells #[.int .i64 0, .string ⟨#[]⟩, .slice none 0 0, .string ⟨#[]⟩] 36)).alloc (.cells #[.string ⟨#[67, 111, 110, 116, 101, 110, 116, 45, 84, 121, 112, 101]⟩, .string md] 26)).alloc (.cells #[.slice (some ⟨w.heap.size + 1, 0, none⟩) 1 1, .slice av t.length cv] 27)) := (by rw [hw3, hw2, hs1, hw1] : _ = _)
  have hs3' : w.heap.size < w3.heap.size := by omega
  clear hF2 hx0 hx1 hb1 hb2 hb3 hw1 hw2 hw3 hR1 hs1 hs2 hI
  go_enter Tryz.func39, Tryz.ntmps39
  go_wp2_with fail
  rw [← HW3.out]
  clear HW3
  refine HC.out.mono ?_
  rintro e w4 ⟨u, rfl, ho, hb4⟩
  obtain ⟨a, c, rfl⟩ := ownF_form ho
  have HO4 : Hid (OwnF 26 w3.heap.size (.slice a (t.length + 1) c) ((nCT, md.data.toList) :: t) w4) := ho
  have HB4 : Hid (Below w.heap.size w w4) := bel_tr HB3.out hb4 (by omega)
  have HR4 : Hid (Blk 36 w4 w.heap.size [.int .i64 0, .string ⟨#[]⟩, .slice none 0 0, .string ⟨#[]⟩]) := HR3.out.below hb4
  have hl2 : ((nCT, md.data.toList) :: t : List Fl).length = t.length + 1 := rfl
  rw [show ([(nCT, md.data.toList)] ++ t : List Fl).length = t.length + 1 by simp]
  clear ho hb4 hl2 HC
  generalize hg0 : w.heap.size = g0 at *
  have HG0 : Hid (w.heap.size = g0) := hg0
  clear hg0
  have r0 := HR4.out.cell 0 rfl
  have r1 := HR4.out.cell 1 rfl
  have r2 := HR4.out.cell 2 rfl
  have r3 := HR4.out.cell 3 rfl
  have rf := HR4.out.free
  have hb9 := set4_but w4 g0 (.int .i64 st) (.string ⟨#[]⟩) (.slice a (t.length + 1) c) (.string bd)
  have hl9 : Below g0 w4 (set4 w4 g0 (.int .i64 st) (.string ⟨#[]⟩) (.slice a (t.length + 1) c) (.string bd)) := hb9.below (by have := HR4.out.lt; omega) (fun x hx => by simp at hx; omega)
  obtain ⟨W9, hW9⟩ : ∃ W9, W9 = set4 w4 g0 (.int .i64 st) (.string ⟨#[]⟩) (.slice a (t.length + 1) c) (.string bd) := ⟨_, rfl⟩
  have HL9 : Hid (Below g0 w W9) := (by rw [hW9]; exact HB4.out.trans hl9 : Below _ _ _)
  have hB9 : Blk 36 W9 g0 [.int .i64 st, .string ⟨#[]⟩, .slice a (t.length + 1) c, .string bd] := by rw [hW9]; exact set4_blk HR4.out (.int .i64 st) (.string ⟨#[]⟩) (.slice a (t.length + 1) c) (.string bd)
  have HO9 : Hid (OwnF 26 g0 (.slice a (t.length + 1) c) ((nCT, md.data.toList) :: t) W9) := (by rw [hW9]; exact HR4.out.keep (own_upF HO4.out (by omega)) (by decide) hb9 : OwnF _ _ _ _ _)
  have HW9 : Hid (((((w4.setCell ⟨g0, 0, none⟩ (.int .i64 st)).setCell ⟨g0, 1, none⟩ (.string ⟨#[]⟩)).setCell ⟨g0, 2, none⟩ (.slice a (t.length + 1) c)).setCell ⟨g0, 3, none⟩ (.string bd)) = W9) := hW9.symm
  clear hb9 hl9 hW9
  go_wp2
  rw [HW9.out]
  clear r0 r1 r2 r3 rf
  have q0 := hB9.cell 0 rfl
  have q1 := hB9.cell 1 rfl
  have q2 := hB9.cell 2 rfl
  have q3 := hB9.cell 3 rfl
  refine bodyPost_ret (v := .agg #[.int .i64 st, .string ⟨#[]⟩, .slice a (t.length + 1) c, .string bd]) (by simp [results, Tryz.results39, go_sem, q0, q1, q2, q3]) rfl ?_
  rw [HG0.out]
  exact ⟨a, c, rfl, HO9.out, HL9.out⟩

set_option maxHeartbeats 2000000 in
theorem texted_any (bd : ByteArray) (v : Value) (t : List Fl) (hl : t.length ≤ 1000000000) (w : World) (hI : InF v t w) :
    Calls Tryz.prog 45 #[.string bd, v] w fun e w' => ∃ a c, e = .returned (.agg #[.int .i64 200, .string ⟨#[]⟩, .slice a (t.length + 1) c, .string bd]) ∧ OwnF 26 w.heap.size (.slice a (t.length + 1) c) ((nCT, plT) :: t) w' ∧ Below w.heap.size w w' := by
  obtain ⟨w1, hw1⟩ : ∃ w1, w1 = w.alloc (.cells #[.int .i64 0, .string ⟨#[]⟩, .slice none 0 0, .string ⟨#[]⟩] 36) := ⟨_, rfl⟩
  have hb1 : Below w.heap.size w w1 := by rw [hw1]; exact (Below.refl _ w).alloc (Nat.le_refl _) _
  have hR1 : Blk 36 w1 w.heap.size [.int .i64 0, .string ⟨#[]⟩, .slice none 0 0, .string ⟨#[]⟩] := by rw [hw1]; exact heap_alloc_new w _
  have HC : Hid (Calls _ _ _ _ _) := written_any 200 (str plT) bd v t hl w1 (hI.below hb1)
  have HR1 : Hid (Blk 36 w1 w.heap.size [.int .i64 0, .string ⟨#[]⟩, .slice none 0 0, .string ⟨#[]⟩]) := hR1
  have HB1 : Hid (Below w.heap.size w w1) := hb1
  have HW1 : Hid (w1 = _) := hw1
  clear hw1 hb1 hR1 hI
  go_enter Tryz.func45, Tryz.ntmps45
  go_wp2_with fail
  rw [← HW1.out]
  refine HC.out.mono ?_
  rintro e w4 ⟨a, c, rfl, ho, hb4⟩
  rw [str_list] at ho
  have HO4 : Hid (OwnF 26 w1.heap.size (.slice a (t.length + 1) c) ((nCT, plT) :: t) w4) := ho
  have HB4 : Hid (Below w.heap.size w w4) := bel_tr HB1.out hb4 HB1.out.size
  have HR4 : Hid (Blk 36 w4 w.heap.size [.int .i64 0, .string ⟨#[]⟩, .slice none 0 0, .string ⟨#[]⟩]) := HR1.out.below hb4
  have hsz := HB1.out.size
  clear ho hb4 HW1 HC HR1 HB1
  generalize hg0 : w.heap.size = g0 at *
  have HG0 : Hid (w.heap.size = g0) := hg0
  clear hg0
  have r0 := HR4.out.cell 0 rfl
  have r1 := HR4.out.cell 1 rfl
  have r2 := HR4.out.cell 2 rfl
  have r3 := HR4.out.cell 3 rfl
  have rf := HR4.out.free
  have hb9 := set4_but w4 g0 (.int .i64 200) (.string ⟨#[]⟩) (.slice a (t.length + 1) c) (.string bd)
  have hl9 : Below g0 w4 (set4 w4 g0 (.int .i64 200) (.string ⟨#[]⟩) (.slice a (t.length + 1) c) (.string bd)) := hb9.below (by have := HR4.out.lt; omega) (fun x hx => by simp at hx; omega)
  obtain ⟨W9, hW9⟩ : ∃ W9, W9 = set4 w4 g0 (.int .i64 200) (.string ⟨#[]⟩) (.slice a (t.length + 1) c) (.string bd) := ⟨_, rfl⟩
  have HL9 : Hid (Below g0 w W9) := (by rw [hW9]; exact HB4.out.trans hl9 : Below _ _ _)
  have hB9 : Blk 36 W9 g0 [.int .i64 200, .string ⟨#[]⟩, .slice a (t.length + 1) c, .string bd] := by rw [hW9]; exact set4_blk HR4.out (.int .i64 200) (.string ⟨#[]⟩) (.slice a (t.length + 1) c) (.string bd)
  have HO9 : Hid (OwnF 26 g0 (.slice a (t.length + 1) c) ((nCT, plT) :: t) W9) := (by rw [hW9]; exact HR4.out.keep (own_upF HO4.out (by omega)) (by decide) hb9 : OwnF _ _ _ _ _)
  have HW9 : Hid (((((w4.setCell ⟨g0, 0, none⟩ (.int .i64 200)).setCell ⟨g0, 1, none⟩ (.string ⟨#[]⟩)).setCell ⟨g0, 2, none⟩ (.slice a (t.length + 1) c)).setCell ⟨g0, 3, none⟩ (.string bd)) = W9) := hW9.symm
  clear hb9 hl9 hW9
  go_wp2
  rw [HW9.out]
  clear r0 r1 r2 r3 rf
  have q0 := hB9.cell 0 rfl
  have q1 := hB9.cell 1 rfl
  have q2 := hB9.cell 2 rfl
  have q3 := hB9.cell 3 rfl
  refine bodyPost_ret (v := .agg #[.int .i64 200, .string ⟨#[]⟩, .slice a (t.length + 1) c, .string bd]) (by simp [results, Tryz.results45, go_sem, q0, q1, q2, q3]) rfl ?_
  rw [HG0.out]
  exact ⟨a, c, rfl, HO9.out, HL9.out⟩

/-- The words of a status. -/
def stW (n : Int) : List UInt8 := if rsL n = [] then [83, 116, 97, 116, 117, 115, 32] ++ Lib.itoa n else rsL n
theorem rsL_len (n : Int) : (rsL n).length ≤ 100 := by
  by_cases h : ∀ k ∈ Ms.codes, n ≠ k
  · rw [rsL_none h]; decide
  · have h2 : ∃ k ∈ Ms.codes, n = k := by
      refine Classical.byContradiction (fun hn => h (fun k hk e => hn ⟨k, hk, e⟩))
    obtain ⟨k, hk, rfl⟩ := h2
    exact (by decide +kernel : ∀ k ∈ Ms.codes, (rsL k).length ≤ 100) n hk

set_option maxHeartbeats 2000000 in
theorem Plain_any (n : Int) (hn : i64 n) (v : Value) (t : List Fl) (hl : t.length ≤ 1000000000) (w : World) (hI : InF v t w) (hp : Pow w) :
    Calls Tryz.prog 11 #[.int .i64 n, v] w fun e w' => ∃ a c, e = .returned (.agg #[.int .i64 n, .string ⟨#[]⟩, .slice a (t.length + 1) c, .string (str (stW n ++ [10]))]) ∧ OwnF 26 w.heap.size (.slice a (t.length + 1) c) ((nCT, plT) :: t) w' ∧ Below w.heap.size w w' := by
  obtain ⟨av, cv, rfl, _⟩ := id hI.1
  obtain ⟨w1, hw1⟩ : ∃ w1, w1 = w.alloc (.cells #[.int .i64 0, .string ⟨#[]⟩, .slice none 0 0, .string ⟨#[]⟩] 36) := ⟨_, rfl⟩
  have hb1 : Below w.heap.size w w1 := by rw [hw1]; exact (Below.refl _ w).alloc (Nat.le_refl _) _
  have hR1 : Blk 36 w1 w.heap.size [.int .i64 0, .string ⟨#[]⟩, .slice none 0 0, .string ⟨#[]⟩] := by rw [hw1]; exact heap_alloc_new w _
  have HI : Hid (InF (.slice av t.length cv) t w) := hI
  have HP : Hid (Pow w) := hp
  have HR1 : Hid (Blk 36 w1 w.heap.size [.int .i64 0, .string ⟨#[]⟩, .slice none 0 0, .string ⟨#[]⟩]) := hR1
  have HB1 : Hid (Below w.heap.size w w1) := hb1
  have HW1 : Hid (w1 = _) := hw1
  have HRs : Hid (Calls _ _ _ _ _) := Reason_any n w1
  have hrl := rsL_len n
  have HDg : Hid (∀ W, Pow W → Calls _ _ _ W _) := fun W h => Digits_any n hn.1 hn.2 W h
  have hil : (Lib.itoa n).length ≤ 21 := Lib.itoa_length_le n hn.1 hn.2
  clear hw1 hb1 hR1 hI hp
  go_enter Tryz.func11, Tryz.ntmps11
  go_wp2_with fail
  rw [← HW1.out]
  refine HRs.out.mono ?_
  rintro e w2 ⟨rfl, hw2⟩
  rw [hw2]
  clear hw2 HW1 HRs
  by_cases hz : rsL n = []
  · have hem : (str (rsL n)).toList.isEmpty = true := empty_of (by rw [str_size, hz]; rfl)
    have hSt : stW n = [83, 116, 97, 116, 117, 115, 32] ++ Lib.itoa n := if_pos hz
    generalize str (rsL n) = RS at *
    go_wp2_with fail
    refine (HDg.out w1 (HP.out.below HB1.out (Nat.le_refl _))).mono ?_
    rintro e w3 ⟨rfl, hb3⟩
    obtain ⟨DG, hDG⟩ : ∃ DG, DG = str (Lib.itoa n) := ⟨_, rfl⟩
    have hdz : DG.size ≤ 21 := by rw [hDG, str_size]; exact hil
    have HDG : Hid (DG = str (Lib.itoa n)) := hDG
    rw [← hDG]
    have hk1 : (⟨#[83, 116, 97, 116, 117, 115, 32]⟩ : ByteArray).size = 7 := rfl
    have hk2 : (⟨#[10]⟩ : ByteArray).size = 1 := rfl
    have hs1 : (⟨#[83, 116, 97, 116, 117, 115, 32]⟩ : ByteArray).size + DG.size ≤ 9223372036854775807 := by rw [hk1]; omega
    have hs2 : ((⟨#[83, 116, 97, 116, 117, 115, 32]⟩ : ByteArray) ++ DG).size + (⟨#[10]⟩ : ByteArray).size ≤ 9223372036854775807 := by rw [ByteArray.size_append, hk1, hk2]; omega
    have HB3 : Hid (Below w.heap.size w w3) := bel_tr HB1.out hb3 HB1.out.size
    have HR3 : Hid (Blk 36 w3 w.heap.size [.int .i64 0, .string ⟨#[]⟩, .slice none 0 0, .string ⟨#[]⟩]) := HR1.out.below hb3
    have HWr : Hid (∀ bd, Calls _ _ _ w3 _) := fun bd => written_any n (str plT) bd (.slice av t.length cv) t hl w3 (HI.out.below HB3.out)
    clear hb3 hDG hk1 hk2 HDg
    go_wp2_with fail
    refine (HWr.out _).mono ?_
    rintro e w4 ⟨a, c, rfl, ho, hb4⟩
    rw [str_list] at ho
    have HO4 : Hid (OwnF 26 w3.heap.size (.slice a (t.length + 1) c) ((nCT, plT) :: t) w4) := ho
    have HB4 : Hid (Below w.heap.size w w4) := bel_tr HB3.out hb4 HB3.out.size
    have HR4 : Hid (Blk 36 w4 w.heap.size [.int .i64 0, .string ⟨#[]⟩, .slice none 0 0, .string ⟨#[]⟩]) := HR3.out.below hb4
    have hsz := HB3.out.size
    obtain ⟨BO, hBO⟩ : ∃ BO, BO = ((⟨#[83, 116, 97, 116, 117, 115, 32]⟩ : ByteArray) ++ DG) ++ ⟨#[10]⟩ := ⟨_, rfl⟩
    have HBO : Hid (BO = str (stW n ++ [10])) := (by rw [hBO, hSt, HDG.out]; apply eq_list; simp [str] : BO = _)
    rw [← hBO]
    clear ho hb4 HR1 HB1 hs1 hs2 hBO hSt
    generalize hg0 : w.heap.size = g0 at *
    have HG0 : Hid (w.heap.size = g0) := hg0
    clear hg0
    have r0 := HR4.out.cell 0 rfl
    have r1 := HR4.out.cell 1 rfl
    have r2 := HR4.out.cell 2 rfl
    have r3 := HR4.out.cell 3 rfl
    have rf := HR4.out.free
    have hb9 := set4_but w4 g0 (.int .i64 n) (.string ⟨#[]⟩) (.slice a (t.length + 1) c) (.string BO)
    have hl9 : Below g0 w4 (set4 w4 g0 (.int .i64 n) (.string ⟨#[]⟩) (.slice a (t.length + 1) c) (.string BO)) := hb9.below (by have := HR4.out.lt; omega) (fun x hx => by simp at hx; omega)
    obtain ⟨W9, hW9⟩ : ∃ W9, W9 = set4 w4 g0 (.int .i64 n) (.string ⟨#[]⟩) (.slice a (t.length + 1) c) (.string BO) := ⟨_, rfl⟩
    have HL9 : Hid (Below g0 w W9) := (by rw [hW9]; exact HB4.out.trans hl9 : Below _ _ _)
    have hB9 : Blk 36 W9 g0 [.int .i64 n, .string ⟨#[]⟩, .slice a (t.length + 1) c, .string BO] := by rw [hW9]; exact set4_blk HR4.out (.int .i64 n) (.string ⟨#[]⟩) (.slice a (t.length + 1) c) (.string BO)
    have HO9 : Hid (OwnF 26 g0 (.slice a (t.length + 1) c) ((nCT, plT) :: t) W9) := (by rw [hW9]; exact HR4.out.keep (own_upF HO4.out (by omega)) (by decide) hb9 : OwnF _ _ _ _ _)
    have HW9 : Hid (((((w4.setCell ⟨g0, 0, none⟩ (.int .i64 n)).setCell ⟨g0, 1, none⟩ (.string ⟨#[]⟩)).setCell ⟨g0, 2, none⟩ (.slice a (t.length + 1) c)).setCell ⟨g0, 3, none⟩ (.string BO)) = W9) := hW9.symm
    clear hb9 hl9 hW9
    go_wp2
    rw [HW9.out]
    clear r0 r1 r2 r3 rf
    have q0 := hB9.cell 0 rfl
    have q1 := hB9.cell 1 rfl
    have q2 := hB9.cell 2 rfl
    have q3 := hB9.cell 3 rfl
    refine bodyPost_ret (v := .agg #[.int .i64 n, .string ⟨#[]⟩, .slice a (t.length + 1) c, .string BO]) (by simp [results, Tryz.results11, go_sem, q0, q1, q2, q3]) rfl ?_
    rw [HG0.out]
    exact ⟨a, c, by rw [HBO.out], HO9.out, HL9.out⟩
  · have hem : (str (rsL n)).toList.isEmpty = false := nonempty_of (by rw [str_size]; exact fun e => hz (List.length_eq_zero_iff.1 e))
    have hSt : stW n = rsL n := if_neg hz
    obtain ⟨RS, hRS⟩ : ∃ RS, RS = str (rsL n) := ⟨_, rfl⟩
    have HRS : Hid (RS = str (rsL n)) := hRS
    have hrz : RS.size ≤ 100 := by rw [hRS, str_size]; exact hrl
    rw [← hRS] at hem ⊢
    have hk2 : (⟨#[10]⟩ : ByteArray).size = 1 := rfl
    have hs2 : RS.size + (⟨#[10]⟩ : ByteArray).size ≤ 9223372036854775807 := by rw [hk2]; omega
    have HWr : Hid (∀ bd, Calls _ _ _ w1 _) := fun bd => written_any n (str plT) bd (.slice av t.length cv) t hl w1 (HI.out.below HB1.out)
    clear hRS hk2 HDg hrl
    go_wp2_with fail
    refine (HWr.out _).mono ?_
    rintro e w4 ⟨a, c, rfl, ho, hb4⟩
    rw [str_list] at ho
    have HO4 : Hid (OwnF 26 w1.heap.size (.slice a (t.length + 1) c) ((nCT, plT) :: t) w4) := ho
    have HB4 : Hid (Below w.heap.size w w4) := bel_tr HB1.out hb4 HB1.out.size
    have HR4 : Hid (Blk 36 w4 w.heap.size [.int .i64 0, .string ⟨#[]⟩, .slice none 0 0, .string ⟨#[]⟩]) := HR1.out.below hb4
    have hsz := HB1.out.size
    obtain ⟨BO, hBO⟩ : ∃ BO, BO = RS ++ ⟨#[10]⟩ := ⟨_, rfl⟩
    have HBO : Hid (BO = str (stW n ++ [10])) := (by rw [hBO, hSt, HRS.out]; apply eq_list; simp [str] : BO = _)
    rw [← hBO]
    clear ho hb4 HR1 HB1 hs2 hBO hSt hem hz
    generalize hg0 : w.heap.size = g0 at *
    have HG0 : Hid (w.heap.size = g0) := hg0
    clear hg0
    have r0 := HR4.out.cell 0 rfl
    have r1 := HR4.out.cell 1 rfl
    have r2 := HR4.out.cell 2 rfl
    have r3 := HR4.out.cell 3 rfl
    have rf := HR4.out.free
    have hb9 := set4_but w4 g0 (.int .i64 n) (.string ⟨#[]⟩) (.slice a (t.length + 1) c) (.string BO)
    have hl9 : Below g0 w4 (set4 w4 g0 (.int .i64 n) (.string ⟨#[]⟩) (.slice a (t.length + 1) c) (.string BO)) := hb9.below (by have := HR4.out.lt; omega) (fun x hx => by simp at hx; omega)
    obtain ⟨W9, hW9⟩ : ∃ W9, W9 = set4 w4 g0 (.int .i64 n) (.string ⟨#[]⟩) (.slice a (t.length + 1) c) (.string BO) := ⟨_, rfl⟩
    have HL9 : Hid (Below g0 w W9) := (by rw [hW9]; exact HB4.out.trans hl9 : Below _ _ _)
    have hB9 : Blk 36 W9 g0 [.int .i64 n, .string ⟨#[]⟩, .slice a (t.length + 1) c, .string BO] := by rw [hW9]; exact set4_blk HR4.out (.int .i64 n) (.string ⟨#[]⟩) (.slice a (t.length + 1) c) (.string BO)
    have HO9 : Hid (OwnF 26 g0 (.slice a (t.length + 1) c) ((nCT, plT) :: t) W9) := (by rw [hW9]; exact HR4.out.keep (own_upF HO4.out (by omega)) (by decide) hb9 : OwnF _ _ _ _ _)
    have HW9 : Hid (((((w4.setCell ⟨g0, 0, none⟩ (.int .i64 n)).setCell ⟨g0, 1, none⟩ (.string ⟨#[]⟩)).setCell ⟨g0, 2, none⟩ (.slice a (t.length + 1) c)).setCell ⟨g0, 3, none⟩ (.string BO)) = W9) := hW9.symm
    clear hb9 hl9 hW9
    go_wp2
    rw [HW9.out]
    clear r0 r1 r2 r3 rf
    have q0 := hB9.cell 0 rfl
    have q1 := hB9.cell 1 rfl
    have q2 := hB9.cell 2 rfl
    have q3 := hB9.cell 3 rfl
    refine bodyPost_ret (v := .agg #[.int .i64 n, .string ⟨#[]⟩, .slice a (t.length + 1) c, .string BO]) (by simp [results, Tryz.results11, go_sem, q0, q1, q2, q3]) rfl ?_
    rw [HG0.out]
    exact ⟨a, c, by rw [HBO.out], HO9.out, HL9.out⟩

end Hn
end Go.Proofs.YticncpjpkgdnlaaGreatDoor
