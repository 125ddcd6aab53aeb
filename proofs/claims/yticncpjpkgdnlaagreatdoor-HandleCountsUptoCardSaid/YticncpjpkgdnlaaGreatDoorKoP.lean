/-
  cookie: PrintSet (written by mkko.py).
-/
import Derived.Test.YticncpjpkgdnlaaGreatDoorMgJ
import Derived.Test.YticncpjpkgdnlaaGreatDoorMgD
import Derived.BigQuiet
import Derived.Deep.QuietTactic
set_option linter.unusedVariables false
set_option linter.unusedSimpArgs false
set_option maxRecDepth 100000
namespace Go.Proofs.YticncpjpkgdnlaaGreatDoor
open Go.RowKit Go.Shelf
namespace Ko
open Oc Tg _root_.Go.Proofs.YticncpjpkgdnlaaGreatDoor.Fd _root_.Go.Proofs.YticncpjpkgdnlaaGreatDoor.Ck _root_.Go.Proofs.YticncpjpkgdnlaaGreatDoor.Ms _root_.Go.Proofs.YticncpjpkgdnlaaGreatDoor.Hn

/-- The first of the words of SameSite lies. -/
def SW (w : World) : Prop := w.cell? ⟨0, 0, none⟩ = some (.string ⟨#[]⟩)
theorem SW.below {B : Nat} {w w' : World} (h : SW w) (b : Below B w w') (hB : w.heap.size ≤ B) : SW w' := by
  unfold SW at *
  have hl := World.block_lt_of_cell? w _ h
  rw [b.cell (Nat.lt_of_lt_of_le hl hB)]
  exact h
def setL (n d : List UInt8) : List UInt8 := n ++ [61] ++ d ++ [59, 32] ++ [80, 97, 116, 104, 61, 47]
theorem join_pieces (B : Nat) (u : Value) (a b : List UInt8) (hl : a.length + b.length ≤ 16000000) (W : World) (ho : Oc.OwnS B u [a, b] W) :
    Calls Tryz.prog 115 #[u, .string ⟨#[59, 32]⟩] W fun e w' => e = .returned (.string (str (a ++ [59, 32] ++ b))) ∧ Below W.heap.size W w' := by
  obtain ⟨aa, c, rfl⟩ := ho.form
  obtain ⟨g, rfl, hc, h0⟩ := ho.cell 0 (by simp)
  obtain ⟨g1, e1, _, h1⟩ := ho.cell 1 (by simp)
  injection e1 with e1
  injection e1 with e1
  subst e1
  have h := Tryz.strings_Join g 0 c [str a, str b] ⟨#[59, 32]⟩ W (fun j x hx => match j, hx with
    | 0, hx => by injection hx with hx; subst hx; exact h0
    | 1, hx => by injection hx with hx; subst hx; exact h1
    | j + 2, hx => by simp at hx) (World.block_lt_of_cell? W _ h0) (by simp) hc (by simp [Lib.join, str]; omega)
  refine h.mono ?_
  rintro e w' ⟨rfl, hb⟩
  refine ⟨?_, hb⟩
  simp [Lib.join, str]
theorem join_two (a b s : List UInt8) : Lib.join [a, b] s = a ++ s ++ b := by
  simp [Lib.join]

set_option maxHeartbeats 4000000 in
theorem PrintSet_c (N D : List UInt8) (n d : ByteArray) (en : n = str N) (ed : d = str D) (hn : N.length ≤ 4000000) (hd : D.length ≤ 4000000) (hk : cokB n d = true) (w : World) (tb : Tab w) (hp : Pow w) (sw : SW w)
    (HSt : Hid (∀ W, Below w.heap.size w W → Calls Tryz.prog 100 #[.int .i64 0] W fun e w' => ∃ (x : ByteArray) (E : Int), e = .returned (.tuple #[.string x, .int .i64 E]) ∧ x.size ≤ 100 ∧ Below W.heap.size W w')) :
    Calls Tryz.prog 68 #[.agg #[.string n, .string d, .string ⟨#[47]⟩, .string ⟨#[]⟩, .int .i64 0, .bool false, .int .i64 0, .bool false, .bool false, .bool false, .int .i64 0]] w fun e w' => e = .returned (.tuple #[.string (str (setL N D)), .int .i64 0]) ∧ Below w.heap.size w w' := by
  have hns : n.size = N.length := by rw [en, str_size]
  have hds : d.size = D.length := by rw [ed, str_size]
  have HCk : Hid (∀ W, Below w.heap.size w W → Calls Tryz.prog 112 #[.agg #[.string n, .string d, .string ⟨#[47]⟩, .string ⟨#[]⟩, .int .i64 0, .bool false, .int .i64 0, .bool false, .bool false, .bool false, .int .i64 0]] W fun e w' => e = .returned (.int .i64 0) ∧ Below W.heap.size W w') := fun W h => check_c n d (by omega) (by omega) hk W (tb.below h (Nat.le_refl _))
  obtain ⟨PL, hPL⟩ : ∃ PL, PL = N ++ [61] ++ D := ⟨_, rfl⟩
  have HSet : Hid (setL N D = PL ++ [59, 32] ++ [80, 97, 116, 104, 61, 47]) := (by rw [hPL]; rfl : _ = _)
  have hPl : PL.length ≤ 8000001 := by rw [hPL]; simp; omega
  have HPr : Hid (∀ W, Calls Tryz.prog 113 #[.agg #[.string n, .string d]] W fun e w' => e = .returned (.string (str PL)) ∧ Below W.heap.size W w') := fun W => by
    have h := pair_any n d (by omega) W
    rw [show n ++ ⟨#[61]⟩ ++ d = str PL by rw [en, ed, hPL, show (⟨#[61]⟩ : ByteArray) = str [61] from rfl, cat_str, cat_str, str_list, str_list]] at h
    exact h
  have HDg : Hid (∀ W, Below w.heap.size w W → Calls Tryz.prog 38 #[.int .i64 0] W fun e w' => e = .returned (.string ⟨#[48]⟩) ∧ Below W.heap.size W w') := fun W h => by
    have := Digits_any 0 (by decide) (by decide) W (hp.below h (Nat.le_refl _))
    rw [show str (Lib.itoa 0) = ⟨#[48]⟩ by rw [itoa_zero]; rfl] at this
    exact this
  have HSw : Hid (∀ W, Below w.heap.size w W → SW W) := fun W h => sw.below h (Nat.le_refl _)
  obtain ⟨w1, hw1⟩ : ∃ w1, w1 = w.alloc (.cells #[.string n, .string d, .string ⟨#[47]⟩, .string ⟨#[]⟩, .int .i64 0, .bool false, .int .i64 0, .bool false, .bool false, .bool false, .int .i64 0] 98) := ⟨_, rfl⟩
  have hb1 : Below w.heap.size w w1 := by rw [hw1]; exact (Below.refl _ w).alloc (Nat.le_refl _) _
  have HM1 : Hid (Blk 98 w1 w.heap.size [.string n, .string d, .string ⟨#[47]⟩, .string ⟨#[]⟩, .int .i64 0, .bool false, .int .i64 0, .bool false, .bool false, .bool false, .int .i64 0]) := (by rw [hw1]; exact heap_alloc_new w _ : Blk _ _ _ _)
  have HB1 : Hid (Below w.heap.size w w1) := hb1
  have HW1 : Hid (w1 = _) := hw1
  have c0 := HM1.out.cell 0 rfl
  have c1 := HM1.out.cell 1 rfl
  have c2 := HM1.out.cell 2 rfl
  have c3 := HM1.out.cell 3 rfl
  have c4 := HM1.out.cell 4 rfl
  have c5 := HM1.out.cell 5 rfl
  have c6 := HM1.out.cell 6 rfl
  have c7 := HM1.out.cell 7 rfl
  have c8 := HM1.out.cell 8 rfl
  have c9 := HM1.out.cell 9 rfl
  have c10 := HM1.out.cell 10 rfl
  clear hw1 hb1 tb hp sw hk en ed hns hds hPL hn hd
  go_enter Tryz.func68, Tryz.ntmps68
  go_wp2_with fail
  try rw [← HW1.out]
  refine (HCk.out _ HB1.out).mono ?_
  rintro e w2 ⟨rfl, hb⟩
  have HM2 : Hid (Blk 98 w2 w.heap.size [.string n, .string d, .string ⟨#[47]⟩, .string ⟨#[]⟩, .int .i64 0, .bool false, .int .i64 0, .bool false, .bool false, .bool false, .int .i64 0]) := HM1.out.below hb
  have HB2 : Hid (Below w.heap.size w w2) := bel_tr HB1.out hb HB1.out.size
  clear hb
  clear c0 c1 c2 c3 c4 c5 c6 c7 c8 c9 c10
  have c0 := HM2.out.cell 0 rfl
  have c1 := HM2.out.cell 1 rfl
  go_wp2_with fail
  refine (HPr.out _).mono ?_
  rintro e w3 ⟨rfl, hb⟩
  have HM3 : Hid (Blk 98 w3 w.heap.size [.string n, .string d, .string ⟨#[47]⟩, .string ⟨#[]⟩, .int .i64 0, .bool false, .int .i64 0, .bool false, .bool false, .bool false, .int .i64 0]) := HM2.out.below hb
  have HB3 : Hid (Below w.heap.size w w3) := bel_tr HB2.out hb HB2.out.size
  clear hb
  clear c0 c1 HM2 HW1
  obtain ⟨w4, hw4⟩ : ∃ w4, w4 = w3.alloc (.cells #[.string (str PL)] 9) := ⟨_, rfl⟩
  have hb4 : Below w3.heap.size w3 w4 := by rw [hw4]; exact (Below.refl _ w3).alloc (Nat.le_refl _) _
  have hs4 : w4.heap.size = w3.heap.size + 1 := by rw [hw4]; simp
  have ho4 : Oc.OwnS w3.heap.size (.slice (some ⟨w3.heap.size, 0, none⟩) 1 1) [PL] w4 := by
    rw [hw4]
    exact ⟨rfl, .inr ⟨w3.heap.size, 1, #[.string (str PL)], rfl, Nat.le_refl _, heap_alloc_new w3 _, by simp, by decide, by simp, rfl⟩⟩
  obtain ⟨w5, hw5⟩ : ∃ w5, w5 = w4.alloc (.cells #[.slice (some ⟨w3.heap.size, 0, none⟩) 1 1] 75) := ⟨_, rfl⟩
  have hb5 : Below w4.heap.size w4 w5 := by rw [hw5]; exact (Below.refl _ w4).alloc (Nat.le_refl _) _
  have HO5 : Hid (Oc.OwnS w3.heap.size (.slice (some ⟨w3.heap.size, 0, none⟩) 1 1) [PL] w5) := ho4.below hb5
  have HP5 : Hid (Blk 75 w5 (w3.heap.size + 1) [.slice (some ⟨w3.heap.size, 0, none⟩) 1 1]) := (by rw [hw5, ← hs4]; exact heap_alloc_new w4 _ : Blk _ _ _ _)
  have HM5 : Hid (Blk 98 w5 w.heap.size [.string n, .string d, .string ⟨#[47]⟩, .string ⟨#[]⟩, .int .i64 0, .bool false, .int .i64 0, .bool false, .bool false, .bool false, .int .i64 0]) := (HM3.out.below hb4).below hb5
  have HB5 : Hid (Below w.heap.size w w5) := bel_tr (bel_tr HB3.out hb4 HB3.out.size) hb5 (bel_tr HB3.out hb4 HB3.out.size).size
  have HW5 : Hid (w4.alloc (.cells #[.slice (some ⟨w3.heap.size, 0, none⟩) 1 1] 75) = w5) := hw5.symm
  have HW4 : Hid (w3.alloc (.cells #[.string (str PL)] 9) = w4) := hw4.symm
  have hs3 : w.heap.size ≤ w3.heap.size := HB3.out.size
  have HGM : Hid (w.heap.size < w3.heap.size) := HM3.out.lt
  have hc5 := HM5.out
  have c6 := HM5.out.cell 6 rfl
  clear hb4 hb5 hw4 hw5 ho4 HM3 hc5
  go_wp2_with (first | rw [HW4.out] | rw [HW5.out] | fail)
  try rw [HW4.out]
  try rw [HW5.out]
  generalize hg3 : w3.heap.size = g3 at *
  refine (HSt.out w5 HB5.out).mono ?_
  rintro e w6 ⟨x, E, rfl, hxs, hb⟩
  have HO6 : Hid (Oc.OwnS g3 (.slice (some ⟨g3, 0, none⟩) 1 1) [PL] w6) := HO5.out.below hb
  have HP6 : Hid (Blk 75 w6 (g3 + 1) [.slice (some ⟨g3, 0, none⟩) 1 1]) := HP5.out.below hb
  have HM6 : Hid (Blk 98 w6 w.heap.size [.string n, .string d, .string ⟨#[47]⟩, .string ⟨#[]⟩, .int .i64 0, .bool false, .int .i64 0, .bool false, .bool false, .bool false, .int .i64 0]) := HM5.out.below hb
  have HB6 : Hid (Below w.heap.size w w6) := bel_tr HB5.out hb HB5.out.size
  clear c6 hb HO5 HP5 HM5 HB5 HW4 HW5 HSt HCk HPr
  have c2 := HM6.out.cell 2 rfl
  have hsz6 : g3 ≤ w6.heap.size := by have := HP6.out.lt; omega
  have HAd : Hid (Calls _ _ _ _ _) := add_yes [80, 97, 116, 104, 61, 47] (g3 + 1) _ [PL] (by simp) g3 (by omega) w6 HP6.out HO6.out hsz6
  go_wp2_with fail
  refine HAd.out.mono ?_
  rintro e w7 ⟨rfl, u, ho, hp7, hb⟩
  have HO7 : Hid (Oc.OwnS g3 u [PL, [80, 97, 116, 104, 61, 47]] w7) := ho
  have HP7 : Hid (Blk 75 w7 (g3 + 1) [u]) := hp7
  have HM7 : Hid (Blk 98 w7 w.heap.size [.string n, .string d, .string ⟨#[47]⟩, .string ⟨#[]⟩, .int .i64 0, .bool false, .int .i64 0, .bool false, .bool false, .bool false, .int .i64 0]) := HM6.out.low hb HGM.out
  have HB7 : Hid (Below w.heap.size w w7) := HB6.out.trans (hb.mono hs3)
  clear c2 hb ho hp7 HAd HO6 HP6 HM6 HB6
  have c3 := HM7.out.cell 3 rfl
  go_wp2_with fail
  refine (add_no _ _ _).mono ?_
  rintro e w8 ⟨rfl, rfl⟩
  clear c3
  have c5 : w8.drew.cell? ⟨w.heap.size, 5, none⟩ = some (.bool false) := HM7.out.cell 5 rfl
  have c4 : w8.drew.cell? ⟨w.heap.size, 4, none⟩ = some (.int .i64 0) := HM7.out.cell 4 rfl
  have HBd : Hid (Below w.heap.size w w8.drew) := HB7.out.drew
  have HMd : Hid (Blk 98 w8.drew w.heap.size [.string n, .string d, .string ⟨#[47]⟩, .string ⟨#[]⟩, .int .i64 0, .bool false, .int .i64 0, .bool false, .bool false, .bool false, .int .i64 0]) := HM7.out
  have HOd : Hid (Oc.OwnS g3 u [PL, [80, 97, 116, 104, 61, 47]] w8.drew) := HO7.out
  have HPd : Hid (Blk 75 w8.drew (g3 + 1) [u]) := HP7.out
  go_wp2_with fail
  go_region_with (first | (go_at_call 38; refine (HDg.out _ HBd.out).mono ?_; rintro e wq ⟨rfl, hq⟩; have k5 := (HMd.out.below hq).cell 5 rfl) | (go_at_call 114; refine (add_no _ _ _).mono ?_; rintro e wr ⟨rfl, rfl⟩))
  all_goals
    have HO9 : Hid (Oc.OwnS g3 u [PL, [80, 97, 116, 104, 61, 47]] wr) := HOd.out.below hq
    have HP9 : Hid (Blk 75 wr (g3 + 1) [u]) := HPd.out.below hq
    have HM9 : Hid (Blk 98 wr w.heap.size [.string n, .string d, .string ⟨#[47]⟩, .string ⟨#[]⟩, .int .i64 0, .bool false, .int .i64 0, .bool false, .bool false, .bool false, .int .i64 0]) := HMd.out.below hq
    have HB9 : Hid (Below w.heap.size w wr) := bel_tr HBd.out hq HBd.out.size
    have HS9 : Hid (SW wr) := HSw.out wr HB9.out
    have hqx : ¬ 9223372036854775807 < 8 + x.size := by omega
    clear k5 c5 c4 hq HOd HPd HMd HBd HO7 HP7 HM7 HB7 HDg HSw
    have d7 := HM9.out.cell 7 rfl
    have d8 := HM9.out.cell 8 rfl
    have d9 := HM9.out.cell 9 rfl
    have d10 : wr.cell? ⟨w.heap.size, 10, none⟩ = some (.int .i64 0) := HM9.out.cell 10 rfl
    have dsw : wr.cell? ⟨0, 0, none⟩ = some (.string ⟨#[]⟩) := HS9.out
    go_wp2_with (first | (go_at_call 114; refine (add_no _ _ _).mono ?_; rintro e wr2 ⟨rfl, rfl⟩) | fail)
    go_quiet (first | (go_at_call 114; exact Calls.quiet_of_same (add_no _ _ _)))
    have hbq : Below wr2.heap.size wr2 (wr2.drewN nq) := below_drew wr2 nq
    have p0 := (HP9.out.below hbq).cell 0 rfl
    have HBq : Hid (Below w.heap.size w (wr2.drewN nq)) := bel_tr HB9.out hbq HB9.out.size
    have HJ : Hid (Calls _ _ _ _ _) := join_pieces g3 u PL [80, 97, 116, 104, 61, 47] (by simp; omega) (wr2.drewN nq) (HO9.out.below hbq)
    clear d7 d8 d9 d10 dsw HO9 HP9 HM9 HB9 HS9 hbq
    go_wp2_with fail
    refine HJ.out.mono ?_
    rintro e wz ⟨rfl, hz⟩
    have HBz : Hid (Below w.heap.size w wz) := bel_tr HBq.out hz HBq.out.size
    clear hz HJ
    obtain ⟨RX, hRX⟩ : ∃ RX, RX = str (PL ++ [59, 32] ++ [80, 97, 116, 104, 61, 47]) := ⟨_, rfl⟩
    have HRX : Hid (str (setL N D) = RX) := (by rw [hRX, HSet.out] : _ = _)
    rw [← hRX]
    clear hRX
    go_wp2
    refine bodyPost_ret (v := .tuple #[.string RX, .int .i64 0]) (by simp [results, Tryz.results68, go_sem]) rfl ⟨by rw [HRX.out], HBz.out⟩

end Ko
end Go.Proofs.YticncpjpkgdnlaaGreatDoor
