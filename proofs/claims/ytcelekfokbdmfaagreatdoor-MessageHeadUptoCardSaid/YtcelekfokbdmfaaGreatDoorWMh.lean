/-
  The law MessageHead, walked.
-/
import Derived.Test.YtcelekfokbdmfaaGreatDoorMgG1
import Derived.Test.YtcelekfokbdmfaaGreatDoorMtN
import Derived.Test.YtcelekfokbdmfaaGreatDoorMgH1
set_option linter.unusedVariables false
set_option linter.unusedSimpArgs false
set_option maxRecDepth 100000
namespace Go.Proofs.YtcelekfokbdmfaaGreatDoor
open Go.RowKit Go.Shelf
namespace Ms
open Oc Tg _root_.Go.Proofs.YtcelekfokbdmfaaGreatDoor.Fd _root_.Go.Proofs.YtcelekfokbdmfaaGreatDoor.Ck

/-- Both answers, to GET and to HEAD, as texts. -/
theorem head_facts (r : Rs) (m : Mn) (h : (prnR r m).2 = 0) : ∃ A B : ByteArray, (∃ K : Nat, B.size = K + 4 ∧ K ≤ 65536 ∧ B.extract K (K + 4) = ⟨#[13, 10, 13, 10]⟩) ∧ B.size ≤ A.size ∧ A.extract 0 B.size = B ∧
    prnR r (withM m sGET) = (A.data.toList, 0) ∧ prnR r (withM m sHEAD) = (B.data.toList, 0) ∧ (m.ch = false → bdl sGET r.st = false → A.extract B.size A.size = str r.bd) := by
  obtain ⟨h0, hln, hg⟩ := prn_yes r m h sGET
  obtain ⟨_, _, hh⟩ := prn_yes r m h sHEAD
  rw [if_pos (bdl_head r.st)] at hh
  obtain ⟨X, hX⟩ := head_ends r m h0
  have hXl : X.length ≤ 65536 := by
    have := congrArg List.length hX
    rw [List.length_append] at this
    omega
  have hBz : (str (headR r m).1).size = X.length + 4 := by rw [str_size, hX]; simp
  have hBe : (str (headR r m).1).extract X.length (X.length + 4) = ⟨#[13, 10, 13, 10]⟩ := by
    have := cat_back X [13, 10, 13, 10]
    rw [← hX] at this
    rw [str_size, hBz] at this
    exact this
  by_cases hb : bdl sGET r.st = true
  · rw [if_pos hb] at hg
    refine ⟨str (headR r m).1, str (headR r m).1, ⟨X.length, hBz, hXl, hBe⟩, Nat.le_refl _, ?_, by rw [str_list]; exact hg, by rw [str_list]; exact hh, fun _ h => by rw [hb] at h; cases h⟩
    have := cat_front (headR r m).1 []
    rw [List.append_nil] at this
    exact this
  · rw [if_neg hb] at hg
    refine ⟨str ((headR r m).1 ++ bodR r m), str (headR r m).1, ⟨X.length, hBz, hXl, hBe⟩, ?_, cat_front _ _, by rw [str_list]; exact hg, by rw [str_list]; exact hh, fun hc _ => ?_⟩
    · rw [str_size, str_size, List.length_append]; omega
    · rw [cat_back]
      unfold bodR
      rw [if_neg (by rw [hc]; simp)]

set_option maxHeartbeats 8000000 in
theorem walk_MessageHead (r : Rs) (m : Mn) (hn : i64 r.st) (hrl : r.rs.length ≤ 1048576) (hbl : r.bd.length ≤ 1048576) (hS : sumF r.fs ≤ 1048576) (vf vs vt : Value) (w : World) (hf : InF vf r.fs w) (hsi : RdI w vs m.sz) (hsn : NilI vs m.sz) (ht : InF vt m.tr w) (hsl : m.sz.length ≤ 1048576) (hts : sumF m.tr ≤ 1048576) (he : Env w) (hp : Pow w) (td : Deb w) :
    Calls Tryz.prog 6 #[.agg #[.int .i64 r.st, .string (str r.rs), vf, .string (str r.bd)], .agg #[.string (str m.me), .bool m.cl, .bool m.old, .bool m.ch, vs, vt]] w fun e w' => e = .returned (.bool true) ∧ Below w.heap.size w w' := by
  have hl1 := len_sumF r.fs
  have hl2 := len_sumF m.tr
  have HA : Hid (∀ W, Below w.heap.size w W → Calls _ _ _ W _) := fun W h => awake_any W (he.below h) (hp.below h (Nat.le_refl _))
  have HF : Hid (InF vf r.fs w) := hf
  have HT : Hid (InF vt m.tr w) := ht
  have HI : Hid (RdI w vs m.sz) := hsi
  have HRt : Hid (∀ W, Below w.heap.size w W → Calls _ _ _ W _) := fun W h => right12_any r m hn hrl hbl hS vf vs vt W (hf.below h).1 (hsi.below h) hsn (ht.below h).1 hsl hts
  have HBd : Hid (∀ x ∈ m.sz, -9223372036854775808 ≤ x ∧ x ≤ 9223372036854775807) := (by obtain ⟨_, _, _, _, h, _⟩ := hsi; exact h : ∀ x ∈ m.sz, _)
  have HFc : Hid ((prnR r m).2 = 0 → ∃ A B : ByteArray, (∃ K : Nat, B.size = K + 4 ∧ K ≤ 65536 ∧ B.extract K (K + 4) = ⟨#[13, 10, 13, 10]⟩) ∧ B.size ≤ A.size ∧ A.extract 0 B.size = B ∧
    prnR r (withM m sGET) = (A.data.toList, 0) ∧ prnR r (withM m sHEAD) = (B.data.toList, 0) ∧ (m.ch = false → bdl sGET r.st = false → A.extract B.size A.size = str r.bd)) := head_facts r m
  have HCg : Hid (∀ W, Below w.heap.size w W → Calls Tryz.prog 9 #[.agg #[.int .i64 r.st, .string (str r.rs), vf, .string (str r.bd)], .agg #[.string ⟨#[71, 69, 84]⟩, .bool m.cl, .bool m.old, .bool m.ch, vs, vt]] W fun e w' => ∃ uf us ut, e = .returned (.tuple #[.agg #[.int .i64 r.st, .string (str r.rs), uf, .string (str r.bd)], .agg #[.string ⟨#[71, 69, 84]⟩, .bool m.cl, .bool m.old, .bool m.ch, us, ut]]) ∧ OwnF 63 (World.heap W).size uf r.fs w' ∧ OwnI (World.heap W).size us m.sz w' ∧ OwnF 63 (World.heap W).size ut m.tr w' ∧ Below (World.heap W).size W w') := fun W h => copied12_any r (withM m sGET) vf vs vt W (hf.below h) (hsi.below h) hsn (ht.below h) (by omega) (show m.sz.length ≤ _ by omega) (show m.tr.length ≤ _ by omega)
  have HCh : Hid (∀ W, Below w.heap.size w W → Calls Tryz.prog 9 #[.agg #[.int .i64 r.st, .string (str r.rs), vf, .string (str r.bd)], .agg #[.string ⟨#[72, 69, 65, 68]⟩, .bool m.cl, .bool m.old, .bool m.ch, vs, vt]] W fun e w' => ∃ uf us ut, e = .returned (.tuple #[.agg #[.int .i64 r.st, .string (str r.rs), uf, .string (str r.bd)], .agg #[.string ⟨#[72, 69, 65, 68]⟩, .bool m.cl, .bool m.old, .bool m.ch, us, ut]]) ∧ OwnF 63 (World.heap W).size uf r.fs w' ∧ OwnI (World.heap W).size us m.sz w' ∧ OwnF 63 (World.heap W).size ut m.tr w' ∧ Below (World.heap W).size W w') := fun W h => copied12_any r (withM m sHEAD) vf vs vt W (hf.below h) (hsi.below h) hsn (ht.below h) (by omega) (show m.sz.length ≤ _ by omega) (show m.tr.length ≤ _ by omega)
  have HPg : Hid (∀ (uf us ut : Value) (W : World), Below w.heap.size w W → InF uf r.fs W → RdI W us m.sz → RdF ut m.tr W → Calls Tryz.prog 14 #[.agg #[.int .i64 r.st, .string (str r.rs), uf, .string (str r.bd)], .agg #[.string ⟨#[71, 69, 84]⟩, .bool m.cl, .bool m.old, .bool m.ch, us, ut]] W fun e w' => e = .returned (.tuple #[.string (str (prnR r (withM m sGET)).1), .int .i64 (prnR r (withM m sGET)).2]) ∧ Below (World.heap W).size W w') := fun uf us ut W h h1 h2 h3 => Print12_any r (withM m sGET) hn hrl hbl hS uf us ut W h1 h3 (hp.below h (Nat.le_refl _)) (he.below h).1 h2 hsl hts (td.below h)
  have HPh : Hid (∀ (uf us ut : Value) (W : World), Below w.heap.size w W → InF uf r.fs W → RdI W us m.sz → RdF ut m.tr W → Calls Tryz.prog 14 #[.agg #[.int .i64 r.st, .string (str r.rs), uf, .string (str r.bd)], .agg #[.string ⟨#[72, 69, 65, 68]⟩, .bool m.cl, .bool m.old, .bool m.ch, us, ut]] W fun e w' => e = .returned (.tuple #[.string (str (prnR r (withM m sHEAD)).1), .int .i64 (prnR r (withM m sHEAD)).2]) ∧ Below (World.heap W).size W w') := fun uf us ut W h h1 h2 h3 => Print12_any r (withM m sHEAD) hn hrl hbl hS uf us ut W h1 h3 (hp.below h (Nat.le_refl _)) (he.below h).1 h2 hsl hts (td.below h)
  have HBl : Hid (∀ W, Calls Tryz.prog 24 #[.string ⟨#[71, 69, 84]⟩, .int .i64 r.st] W fun e w' => e = .returned (.bool (bdl sGET r.st)) ∧ w' = W) := fun W => Bodyless_any ⟨#[71, 69, 84]⟩ r.st hn W
  obtain ⟨af, cf, rfl, _⟩ := hf.1
  obtain ⟨ta, ct, rfl, _⟩ := ht.1
  obtain ⟨sa, cs, rfl, _⟩ := id hsi
  clear hf ht hsi he hp td hsn
  generalize prnR r m = R at *
  generalize bdl sGET r.st = bg at *
  obtain ⟨R1, R2⟩ := R
  dsimp only at HRt HFc
  generalize str r.rs = RS at *
  generalize str r.bd = BD at *
  generalize str m.me = ME at *
  obtain ⟨W0, hW0⟩ : ∃ W0, W0 = (w.alloc (.cells #[.int .i64 r.st, .string RS, .slice af r.fs.length cf, .string BD] 24)).alloc (.cells #[.string ME, .bool m.cl, .bool m.old, .bool m.ch, .slice sa m.sz.length cs, .slice ta m.tr.length ct] 27) := ⟨_, rfl⟩
  have hB : Box2 24 27 w W0 [.int .i64 r.st, .string RS, .slice af r.fs.length cf, .string BD] [.string ME, .bool m.cl, .bool m.old, .bool m.ch, .slice sa m.sz.length cs, .slice ta m.tr.length ct] := by rw [hW0]; exact box2 _ _ _ _ _
  have HB0 : Hid (Below w.heap.size w W0) := hB.bel
  have HR0 : Hid (Blk 24 W0 w.heap.size [.int .i64 r.st, .string RS, .slice af r.fs.length cf, .string BD]) := hB.resp
  have HM0 : Hid (Blk 27 W0 (w.heap.size + 1) [.string ME, .bool m.cl, .bool m.old, .bool m.ch, .slice sa m.sz.length cs, .slice ta m.tr.length ct]) := hB.man
  have HW0 : Hid (W0 = _) := hW0
  clear hB hW0
  go_enter Tryz.func6, Tryz.ntmps6
  go_wp2_with fail
  rw [← HW0.out]
  refine (HA.out _ HB0.out).mono ?_
  rintro e w1 ⟨rfl, hb1⟩
  have HB1 : Hid (Below w.heap.size w w1) := HB0.out.trans (hb1.mono HB0.out.size)
  have HR1 : Hid (Blk 24 w1 w.heap.size [.int .i64 r.st, .string RS, .slice af r.fs.length cf, .string BD]) := HR0.out.below hb1
  have HM1 : Hid (Blk 27 w1 (w.heap.size + 1) [.string ME, .bool m.cl, .bool m.old, .bool m.ch, .slice sa m.sz.length cs, .slice ta m.tr.length ct]) := HM0.out.below hb1
  clear hb1 HR0 HM0 HW0 HA
  have r0 := HR1.out.cell 0 rfl
  have r1 := HR1.out.cell 1 rfl
  have r2 := HR1.out.cell 2 rfl
  have r3 := HR1.out.cell 3 rfl
  have m0 := HM1.out.cell 0 rfl
  have m1 := HM1.out.cell 1 rfl
  have m2 := HM1.out.cell 2 rfl
  have m3 := HM1.out.cell 3 rfl
  have m4 := HM1.out.cell 4 rfl
  have m5 := HM1.out.cell 5 rfl
  go_wp2_with fail
  refine (HRt.out _ HB1.out).mono ?_
  rintro e w2 ⟨rfl, hb2⟩
  have HB2 : Hid (Below w.heap.size w w2) := HB1.out.trans (hb2.mono HB1.out.size)
  have HR2 : Hid (Blk 24 w2 w.heap.size [.int .i64 r.st, .string RS, .slice af r.fs.length cf, .string BD]) := HR1.out.below hb2
  have HM2 : Hid (Blk 27 w2 (w.heap.size + 1) [.string ME, .bool m.cl, .bool m.old, .bool m.ch, .slice sa m.sz.length cs, .slice ta m.tr.length ct]) := HM1.out.below hb2
  clear hb2 r0 r1 r2 r3 m0 m1 m2 m3 m4 m5 HR1 HM1 HRt
  cases hz : (R2 == 0) with
  | false =>
    go_wp2
    go_ret
    exact ⟨rfl, HB2.out⟩
  | true =>
  obtain ⟨AS, HSb, ⟨K, hK1, hKl, hK2⟩, hle, hcut, hpg, hph, hbody⟩ := HFc.out (by simpa using hz)
  rw [hpg] at HPg
  rw [hph] at HPh
  dsimp only at HPg HPh
  rw [str_self] at HPg HPh
  have HK1 : Hid (HSb.size = K + 4) := hK1
  have HK2 : Hid (HSb.extract K (K + 4) = ⟨#[13, 10, 13, 10]⟩) := hK2
  have HLe : Hid (HSb.size ≤ AS.size) := hle
  have HCut : Hid (AS.extract 0 HSb.size = HSb) := hcut
  have HBody : Hid (m.ch = false → bg = false → AS.extract HSb.size AS.size = BD) := hbody
  clear hK1 hK2 hle hcut hpg hph hbody HFc hz
  -- to GET
  have HR3 : Hid (Blk 24 (w2.setCell ⟨w.heap.size + 1, 0, none⟩ (.string ⟨#[71, 69, 84]⟩)) w.heap.size [.int .i64 r.st, .string RS, .slice af r.fs.length cf, .string BD]) := HR2.out.but (setD (But.refl [w.heap.size + 1] _) _ _) (by simp)
  have HM3 : Hid (Blk 27 (w2.setCell ⟨w.heap.size + 1, 0, none⟩ (.string ⟨#[71, 69, 84]⟩)) (w.heap.size + 1) [.string ⟨#[71, 69, 84]⟩, .bool m.cl, .bool m.old, .bool m.ch, .slice sa m.sz.length cs, .slice ta m.tr.length ct]) := HM2.out.set 0 _
  have HB3 : Hid (Below w.heap.size w (w2.setCell ⟨w.heap.size + 1, 0, none⟩ (.string ⟨#[71, 69, 84]⟩))) := HB2.out.setCell (by simp) _
  obtain ⟨w3, hw3⟩ : ∃ w3, w3 = w2.setCell ⟨w.heap.size + 1, 0, none⟩ (.string ⟨#[71, 69, 84]⟩) := ⟨_, rfl⟩
  rw [← hw3] at HR3 HM3 HB3
  have HW3 : Hid (w3 = _) := hw3
  clear hw3
  have m0 := HM2.out.cell 0 rfl
  have z0 := HM2.out.free 0
  have r0 := HR2.out.cell 0 rfl
  have r1 := HR2.out.cell 1 rfl
  have r2 := HR2.out.cell 2 rfl
  have r3 := HR2.out.cell 3 rfl
  have m1 := HM2.out.cell 1 rfl
  have m2 := HM2.out.cell 2 rfl
  have m3 := HM2.out.cell 3 rfl
  have m4 := HM2.out.cell 4 rfl
  have m5 := HM2.out.cell 5 rfl
  go_wp2_with fail
  rw [← HW3.out]
  refine (HCg.out _ HB3.out).mono ?_
  rintro e w4 ⟨uf, us, ut, rfl, hof, hoi, hot, hb4⟩
  have HB4 : Hid (Below w.heap.size w w4) := HB3.out.trans (hb4.mono HB3.out.size)
  have HR4 : Hid (Blk 24 w4 w.heap.size [.int .i64 r.st, .string RS, .slice af r.fs.length cf, .string BD]) := HR3.out.below hb4
  have HM4 : Hid (Blk 27 w4 (w.heap.size + 1) [.string ⟨#[71, 69, 84]⟩, .bool m.cl, .bool m.old, .bool m.ch, .slice sa m.sz.length cs, .slice ta m.tr.length ct]) := HM3.out.below hb4
  have HP4 : Hid (Calls _ _ _ _ _) := HPg.out uf us ut w4 HB4.out (OwnF.inF hof) (OwnI.rd hoi HBd.out) (OwnF.rd hot)
  clear hof hoi hot hb4 m0 z0 r0 r1 r2 r3 m1 m2 m3 m4 m5 HR2 HM2 HW3 HR3 HM3 HCg HPg
  go_wp2_with fail
  refine HP4.out.mono ?_
  rintro e w5 ⟨rfl, hb5⟩
  have HB5 : Hid (Below w.heap.size w w5) := HB4.out.trans (hb5.mono HB4.out.size)
  have HR5 : Hid (Blk 24 w5 w.heap.size [.int .i64 r.st, .string RS, .slice af r.fs.length cf, .string BD]) := HR4.out.below hb5
  have HM5 : Hid (Blk 27 w5 (w.heap.size + 1) [.string ⟨#[71, 69, 84]⟩, .bool m.cl, .bool m.old, .bool m.ch, .slice sa m.sz.length cs, .slice ta m.tr.length ct]) := HM4.out.below hb5
  clear hb5 HP4 HR4 HM4
  -- to HEAD
  have HR6 : Hid (Blk 24 (w5.setCell ⟨w.heap.size + 1, 0, none⟩ (.string ⟨#[72, 69, 65, 68]⟩)) w.heap.size [.int .i64 r.st, .string RS, .slice af r.fs.length cf, .string BD]) := HR5.out.but (setD (But.refl [w.heap.size + 1] _) _ _) (by simp)
  have HM6 : Hid (Blk 27 (w5.setCell ⟨w.heap.size + 1, 0, none⟩ (.string ⟨#[72, 69, 65, 68]⟩)) (w.heap.size + 1) [.string ⟨#[72, 69, 65, 68]⟩, .bool m.cl, .bool m.old, .bool m.ch, .slice sa m.sz.length cs, .slice ta m.tr.length ct]) := HM5.out.set 0 _
  have HB6 : Hid (Below w.heap.size w (w5.setCell ⟨w.heap.size + 1, 0, none⟩ (.string ⟨#[72, 69, 65, 68]⟩))) := HB5.out.setCell (by simp) _
  obtain ⟨w6, hw6⟩ : ∃ w6, w6 = w5.setCell ⟨w.heap.size + 1, 0, none⟩ (.string ⟨#[72, 69, 65, 68]⟩) := ⟨_, rfl⟩
  rw [← hw6] at HR6 HM6 HB6
  have HW6 : Hid (w6 = _) := hw6
  clear hw6
  have m0 := HM5.out.cell 0 rfl
  have z0 := HM5.out.free 0
  have r0 := HR5.out.cell 0 rfl
  have r1 := HR5.out.cell 1 rfl
  have r2 := HR5.out.cell 2 rfl
  have r3 := HR5.out.cell 3 rfl
  have m1 := HM5.out.cell 1 rfl
  have m2 := HM5.out.cell 2 rfl
  have m3 := HM5.out.cell 3 rfl
  have m4 := HM5.out.cell 4 rfl
  have m5 := HM5.out.cell 5 rfl
  go_wp2_with fail
  rw [← HW6.out]
  refine (HCh.out _ HB6.out).mono ?_
  rintro e w7 ⟨uf2, us2, ut2, rfl, hof, hoi, hot, hb7⟩
  have HB7 : Hid (Below w.heap.size w w7) := HB6.out.trans (hb7.mono HB6.out.size)
  have HR7 : Hid (Blk 24 w7 w.heap.size [.int .i64 r.st, .string RS, .slice af r.fs.length cf, .string BD]) := HR6.out.below hb7
  have HM7 : Hid (Blk 27 w7 (w.heap.size + 1) [.string ⟨#[72, 69, 65, 68]⟩, .bool m.cl, .bool m.old, .bool m.ch, .slice sa m.sz.length cs, .slice ta m.tr.length ct]) := HM6.out.below hb7
  have HP7 : Hid (Calls _ _ _ _ _) := HPh.out uf2 us2 ut2 w7 HB7.out (OwnF.inF hof) (OwnI.rd hoi HBd.out) (OwnF.rd hot)
  clear hof hoi hot hb7 m0 z0 r0 r1 r2 r3 m1 m2 m3 m4 m5 HR5 HM5 HW6 HR6 HM6 HCh HPh
  go_wp2_with fail
  refine HP7.out.mono ?_
  rintro e w8 ⟨rfl, hb8⟩
  have HB8 : Hid (Below w.heap.size w w8) := HB7.out.trans (hb8.mono HB7.out.size)
  have HR8 : Hid (Blk 24 w8 w.heap.size [.int .i64 r.st, .string RS, .slice af r.fs.length cf, .string BD]) := HR7.out.below hb8
  have HM8 : Hid (Blk 27 w8 (w.heap.size + 1) [.string ⟨#[72, 69, 65, 68]⟩, .bool m.cl, .bool m.old, .bool m.ch, .slice sa m.sz.length cs, .slice ta m.tr.length ct]) := HM7.out.below hb8
  clear hb8 HP7 HR7 HM7
  have r0 := HR8.out.cell 0 rfl
  have r3 := HR8.out.cell 3 rfl
  have m3 := HM8.out.cell 3 rfl
  have hAi : ¬ ((AS.size : Int) < (HSb.size : Int)) := by have := HLe.out; omega
  have h4i : ¬ ((HSb.size : Int) < 4) := by have := HK1.out; omega
  have hsub : (HSb.size : Int) - 4 = (K : Int) := by have := HK1.out; omega
  have hle1 : HSb.size ≤ AS.size := HLe.out
  have hle2 : K ≤ HSb.size := by have := HK1.out; omega
  have hkz : (0 : Int) ≤ (K : Int) := by omega
  have hwr : IntKind.i64.wrap (K : Int) = (K : Int) := by rw [IntKind.wrap_i64]; omega
  have hwr2 : IntKind.i64.wrap ((HSb.size : Int) - 4) = (K : Int) := by rw [hsub]; exact hwr
  have hcut2 : AS.extract 0 HSb.size = HSb := HCut.out
  have hend2 : HSb.extract K HSb.size = ⟨#[13, 10, 13, 10]⟩ := by rw [HK1.out]; exact HK2.out
  cases hch : m.ch with
  | true =>
    rw [hch] at m3
    go_wp2
    go_ret
    exact ⟨rfl, HB8.out⟩
  | false =>
    rw [hch] at m3
    have HBo := HBody.out hch
    go_wp2_with fail
    refine (HBl.out _).mono ?_
    rintro e w9 ⟨rfl, hw9⟩
    rw [hw9]
    clear hw9 w9
    cases bg with
    | true =>
      go_wp2
      go_ret
      exact ⟨rfl, HB8.out⟩
    | false =>
      have hbo2 : AS.extract HSb.size AS.size = BD := HBo rfl
      have hlei : ((HSb.size : Nat) : Int) ≤ (AS.size : Int) := by omega
      have h0i : (0 : Int) ≤ (HSb.size : Int) := by omega
      have hbb : (BD.toList == BD.toList) = true := by simp
      have r3' : w8.drew.cell? ⟨w.heap.size, 3, none⟩ = some (.string BD) := r3
      clear hcut2 hend2 hsub hwr hwr2 hAi h4i hle2 hkz r0 m3 HBo HBody HBl
      go_wp2_with fail
      go_quiet (fail)
      go_wp2
      go_ret
      exact ⟨rfl, below_drewN HB8.out _⟩

theorem walkb_MessageHead (st : Int) (A B : ByteArray) (u : Value) (t : List Fl) (hb : A.size + B.size + bulkfields t ≤ 1048576) (hn : i64 st) (M : ByteArray) (b1 b2 b3 : Bool) (u1 u2 : Value) (l : List Int) (t2 : List Fl) (hb2 : M.size + l.length + bulkfields t2 ≤ 1048576) (w : World) (hf : InF u t w) (h2 : (RdI w u1 l ∧ NilI u1 l) ∧ InF u2 t2 w) (he : Env w) (hp : Pow w) (td : Deb w) :
    Calls Tryz.prog 6 #[.agg #[.int .i64 st, .string A, u, .string B], .agg #[.string M, .bool b1, .bool b2, .bool b3, u1, u2]] w fun e w' => e = .returned (.bool true) ∧ Below w.heap.size w w' := by
  have h := walk_MessageHead ⟨st, A.data.toList, t, B.data.toList⟩ ⟨M.data.toList, b1, b2, b3, l, t2⟩ hn (by show A.data.toList.length ≤ _; rw [size_list]; omega) (by show B.data.toList.length ≤ _; rw [size_list]; omega) (by show sumF t ≤ _; unfold bulkfields at hb; omega) u u1 u2 w hf h2.1.1 h2.1.2 h2.2 (by show l.length ≤ _; omega) (by show sumF t2 ≤ _; unfold bulkfields at hb2; omega) he hp td
  dsimp only at h
  rw [str_self, str_self, str_self] at h
  exact h

end Ms
end Go.Proofs.YtcelekfokbdmfaaGreatDoor
