/-
  The law MessagePrints, walked (written by mkwmp.py).
-/
import Derived.Test.YtcelekfokbdmfaaGreatDoorMgG1
import Derived.Test.YtcelekfokbdmfaaGreatDoorMtN
import Derived.Test.YtcelekfokbdmfaaGreatDoorMgH1
import Derived.Deep.Cut
import Derived.Deep.CutRange
set_option linter.unusedVariables false
set_option linter.unusedSimpArgs false
set_option maxRecDepth 100000
namespace Go.Proofs.YtcelekfokbdmfaaGreatDoor
open Go.RowKit Go.Shelf
namespace Ms
open Oc Tg _root_.Go.Proofs.YtcelekfokbdmfaaGreatDoor.Fd _root_.Go.Proofs.YtcelekfokbdmfaaGreatDoor.Ck

set_option maxHeartbeats 8000000 in
theorem walk_MessagePrints (r : Rs) (m : Mn) (hn : i64 r.st) (hrl : r.rs.length ≤ 1048576) (hbl : r.bd.length ≤ 1048576) (hS : sumF r.fs ≤ 1048576) (vf vs vt : Value) (w : World) (hf : InF vf r.fs w) (hsi : RdI w vs m.sz) (hsn : NilI vs m.sz) (ht : InF vt m.tr w) (hsl : m.sz.length ≤ 1048576) (hts : sumF m.tr ≤ 1048576) (he : Env w) (hp : Pow w) (td : Deb w) :
    Calls Tryz.prog 3 #[.agg #[.int .i64 r.st, .string (str r.rs), vf, .string (str r.bd)], .agg #[.string (str m.me), .bool m.cl, .bool m.old, .bool m.ch, vs, vt]] w fun e w' => e = .returned (.bool true) ∧ Below w.heap.size w w' := by
  have hl1 := len_sumF r.fs
  have hl2 := len_sumF m.tr
  have HA : Hid (∀ W, Below w.heap.size w W → Calls _ _ _ W _) := fun W h => awake_any W (he.below h) (hp.below h (Nat.le_refl _))
  have HF : Hid (InF vf r.fs w) := hf
  have HT : Hid (InF vt m.tr w) := ht
  have HI : Hid (RdI w vs m.sz) := hsi
  have HBd : Hid (∀ x ∈ m.sz, -9223372036854775808 ≤ x ∧ x ≤ 9223372036854775807) := (by obtain ⟨_, _, _, _, h, _⟩ := hsi; exact h : ∀ x ∈ m.sz, _)
  have HCp : Hid (∀ W, Below w.heap.size w W → Calls _ _ _ W _) := fun W h => copied12_any r m vf vs vt W (hf.below h) (hsi.below h) hsn (ht.below h) (by omega) (by omega) (by omega)
  have HHd : Hid (∀ (uf us ut : Value) (W : World), Below w.heap.size w W → InF uf r.fs W → RdI W us m.sz → RdF ut m.tr W → Calls Tryz.prog 10 #[.agg #[.int .i64 r.st, .string (str r.rs), uf, .string (str r.bd)], .agg #[.string (str m.me), .bool m.cl, .bool m.old, .bool m.ch, us, ut]] W fun e w' => e = .returned (.tuple #[.string (str (headR r m).1), .int .i64 (headR r m).2]) ∧ Below (World.heap W).size W w') := fun uf us ut W h h1 h2 h3 => by
    obtain ⟨xa, xc, hx, _⟩ := id h2
    exact Head_any r m hn hrl hbl hS uf us ut xa xc hx W h1 h3 (hp.below h (Nat.le_refl _)) (he.below h).1
  have HrH : Hid (∀ (uf us ut : Value) (W : World), InF uf r.fs W → RdI W us m.sz → RdF ut m.tr W → Calls Tryz.prog 11 #[.agg #[.int .i64 r.st, .string (str r.rs), uf, .string (str r.bd)], .agg #[.string (str m.me), .bool m.cl, .bool m.old, .bool m.ch, us, ut]] W fun e w' => e = .returned (.tuple #[.string (str (headR r m).1), .int .i64 (headR r m).2]) ∧ Below (World.heap W).size W w') := fun uf us ut W h1 h2 h3 => by
    obtain ⟨xa, xc, hx, _⟩ := id h2
    exact rHead_any r m hn hrl hbl hS uf us ut xa xc hx W h1 h3
  have HPr : Hid (∀ (uf us ut : Value) (W : World), Below w.heap.size w W → InF uf r.fs W → RdI W us m.sz → RdF ut m.tr W → Calls Tryz.prog 14 #[.agg #[.int .i64 r.st, .string (str r.rs), uf, .string (str r.bd)], .agg #[.string (str m.me), .bool m.cl, .bool m.old, .bool m.ch, us, ut]] W fun e w' => e = .returned (.tuple #[.string (str (prnR r m).1), .int .i64 (prnR r m).2]) ∧ Below (World.heap W).size W w') := fun uf us ut W h h1 h2 h3 => Print12_any r m hn hrl hbl hS uf us ut W h1 h3 (hp.below h (Nat.le_refl _)) (he.below h).1 h2 hsl hts (td.below h)
  have HrP : Hid (∀ (uf us ut : Value) (W : World), InF uf r.fs W → RdI W us m.sz → RdF ut m.tr W → Calls Tryz.prog 15 #[.agg #[.int .i64 r.st, .string (str r.rs), uf, .string (str r.bd)], .agg #[.string (str m.me), .bool m.cl, .bool m.old, .bool m.ch, us, ut]] W fun e w' => e = .returned (.tuple #[.string (str (prnR r m).1), .int .i64 (prnR r m).2]) ∧ Below (World.heap W).size W w') := fun uf us ut W h1 h2 h3 => rPrint12_any r m hn hrl hbl hS uf us ut W h1 h3 h2 hsl hts
  have HRp : Hid (∀ W, RdF vf r.fs W → Calls Tryz.prog 12 #[.agg #[.int .i64 r.st, .string (str r.rs), vf, .string (str r.bd)]] W fun e w' => ∃ u, e = .returned (.agg #[.int .i64 r.st, .string (str r.rs), u, .string (str r.bd)]) ∧ OwnF 80 (World.heap W).size u r.fs w' ∧ Below (World.heap W).size W w') := fun W h => response12_any r vf W h (by omega)
  have HMn : Hid (∀ W, RdI W vs m.sz → RdF vt m.tr W → Calls Tryz.prog 13 #[.agg #[.string (str m.me), .bool m.cl, .bool m.old, .bool m.ch, vs, vt]] W fun e w' => ∃ us ut, e = .returned (.agg #[.string (str m.me), .bool m.cl, .bool m.old, .bool m.ch, us, ut]) ∧ OwnI (World.heap W).size us m.sz w' ∧ OwnF 80 (World.heap W).size ut m.tr w' ∧ Below (World.heap W).size W w') := fun W h1 h2 => manner12_any m vs vt W h1 hsn h2 (by omega) (by omega)
  have HPl : Hid (∀ (v : Value) (t : List Fl) (W : World), RdF v t W → sumF t ≤ 1048576 → Calls Tryz.prog 17 #[v] W fun e w' => ∃ u, e = .returned u ∧ OwnF 80 (World.heap W).size u t w' ∧ Below (World.heap W).size W w') := fun v t W h hl => plain12_any v t W h (by have := len_sumF t; omega)
  have HSm : Hid (∀ (v u : Value) (t : List Fl) (W : World), RdF v t W → RdF u t W → sumF t ≤ 1048576 → Calls Tryz.prog 16 #[v, u] W fun e w' => e = .returned (.bool true) ∧ Below (World.heap W).size W w') := fun v u t W h1 h2 hl => same12_any v u t W h1 h2 (by have := len_sumF t; omega)
  obtain ⟨af, cf, rfl, _⟩ := hf.1
  obtain ⟨ta, ct, rfl, _⟩ := ht.1
  obtain ⟨sa, cs, rfl, hsc, _⟩ := id hsi
  clear hf ht hsi he hp td hsn
  generalize headR r m = HH at *
  obtain ⟨H1, H2⟩ := HH
  generalize prnR r m = PP at *
  obtain ⟨P1, P2⟩ := PP
  dsimp only at HHd HrH HPr HrP
  generalize str H1 = XH at *
  generalize str P1 = XP at *
  generalize str r.rs = RS at *
  generalize str r.bd = BD at *
  generalize str m.me = ME at *
  have hxh : (XH.toList != XH.toList) = false := by simp
  have hxp : (XP.toList != XP.toList) = false := by simp
  have hih : (H2 != H2) = false := by simp
  have hip : (P2 != P2) = false := by simp
  obtain ⟨W0, hW0⟩ : ∃ W0, W0 = (w.alloc (.cells #[.int .i64 r.st, .string RS, .slice af r.fs.length cf, .string BD] 24)).alloc (.cells #[.string ME, .bool m.cl, .bool m.old, .bool m.ch, .slice sa m.sz.length cs, .slice ta m.tr.length ct] 27) := ⟨_, rfl⟩
  have hB : Box2 24 27 w W0 [.int .i64 r.st, .string RS, .slice af r.fs.length cf, .string BD] [.string ME, .bool m.cl, .bool m.old, .bool m.ch, .slice sa m.sz.length cs, .slice ta m.tr.length ct] := by rw [hW0]; exact box2 _ _ _ _ _
  have HB0 : Hid (Below w.heap.size w W0) := hB.bel
  have HR0 : Hid (Blk 24 W0 w.heap.size [.int .i64 r.st, .string RS, .slice af r.fs.length cf, .string BD]) := hB.resp
  have HM0 : Hid (Blk 27 W0 (w.heap.size + 1) [.string ME, .bool m.cl, .bool m.old, .bool m.ch, .slice sa m.sz.length cs, .slice ta m.tr.length ct]) := hB.man
  have HS0 : Hid (W0.heap.size = w.heap.size + 2) := (by rw [hW0]; simp : _ = _)
  have HW0 : Hid (W0 = _) := hW0
  clear hB hW0
  go_enter Tryz.func3, Tryz.ntmps3
  go_wp2_with fail
  rw [← HW0.out]
  refine (HA.out _ HB0.out).mono ?_
  rintro e w1 ⟨rfl, hb1⟩
  have HBx : Hid (Below W0.heap.size W0 w1) := hb1
  have HB1 : Hid (Below w.heap.size w w1) := HB0.out.trans (hb1.mono HB0.out.size)
  have r0 := (HR0.out.below hb1).cell 0 rfl
  have r1 := (HR0.out.below hb1).cell 1 rfl
  have r2 := (HR0.out.below hb1).cell 2 rfl
  have r3 := (HR0.out.below hb1).cell 3 rfl
  have m0 := (HM0.out.below hb1).cell 0 rfl
  have m1 := (HM0.out.below hb1).cell 1 rfl
  have m2 := (HM0.out.below hb1).cell 2 rfl
  have m3 := (HM0.out.below hb1).cell 3 rfl
  have m4 := (HM0.out.below hb1).cell 4 rfl
  have m5 := (HM0.out.below hb1).cell 5 rfl
  clear hb1 HW0 HA
  go_wp2_with fail
  refine (HCp.out _ HB1.out).mono ?_
  rintro e w2 ⟨uf, us, ut, rfl, hof, hoi, hot, hb2⟩
  obtain ⟨af2, cf2, rfl⟩ := ownF_form hof
  obtain ⟨ta2, ct2, rfl⟩ := ownF_form hot
  obtain ⟨sa2, cs2, rfl⟩ := OwnI.form hoi
  have HB2x : Hid (Below W0.heap.size W0 w2) := bel_trans HBx.out hb2
  have HB2 : Hid (Below w.heap.size w w2) := HB1.out.trans (hb2.mono HB1.out.size)
  have HUf : Hid (InF (.slice af2 r.fs.length cf2) r.fs w2) := (OwnF.inF hof : InF _ _ _)
  have HUi : Hid (RdI w2 (.slice sa2 m.sz.length cs2) m.sz) := (OwnI.rd hoi HBd.out : RdI _ _ _)
  have HUt : Hid (RdF (.slice ta2 m.tr.length ct2) m.tr w2) := (OwnF.rd hot : RdF _ _ _)
  clear hof hoi hot hb2 HBx HB1 HCp r0 r1 r2 r3 m0 m1 m2 m3 m4 m5
  obtain ⟨w3, hw3⟩ : ∃ w3, w3 = (w2.alloc (.cells #[.int .i64 r.st, .string RS, .slice af2 r.fs.length cf2, .string BD] 24)).alloc (.cells #[.string ME, .bool m.cl, .bool m.old, .bool m.ch, .slice sa2 m.sz.length cs2, .slice ta2 m.tr.length ct2] 27) := ⟨_, rfl⟩
  have hB3 : Box2 24 27 w2 w3 [.int .i64 r.st, .string RS, .slice af2 r.fs.length cf2, .string BD] [.string ME, .bool m.cl, .bool m.old, .bool m.ch, .slice sa2 m.sz.length cs2, .slice ta2 m.tr.length ct2] := by rw [hw3]; exact box2 _ _ _ _ _
  have HW3 : Hid (w3 = _) := hw3
  have HS3 : Hid (w3.heap.size = w2.heap.size + 2 ∧ w.heap.size + 2 ≤ w2.heap.size) := (⟨by rw [hw3]; simp, by have := HB2x.out.size; have := HS0.out; omega⟩ : _ ∧ _)
  have HB3 : Hid (Below w.heap.size w w3) := HB2.out.trans (hB3.bel.mono HB2.out.size)
  have HX3 : Hid ((Blk 24 w3 w.heap.size [.int .i64 r.st, .string RS, .slice af r.fs.length cf, .string BD] ∧ Blk 27 w3 (w.heap.size + 1) [.string ME, .bool m.cl, .bool m.old, .bool m.ch, .slice sa m.sz.length cs, .slice ta m.tr.length ct]) ∧ Blk 24 w3 w2.heap.size [.int .i64 r.st, .string RS, .slice af2 r.fs.length cf2, .string BD] ∧ Blk 27 w3 (w2.heap.size + 1) [.string ME, .bool m.cl, .bool m.old, .bool m.ch, .slice sa2 m.sz.length cs2, .slice ta2 m.tr.length ct2]) := (⟨⟨(HR0.out.below HB2x.out).below hB3.bel, (HM0.out.below HB2x.out).below hB3.bel⟩, hB3.resp, hB3.man⟩ : (_ ∧ _) ∧ _ ∧ _)
  have HU3 : Hid (InF (.slice af2 r.fs.length cf2) r.fs w3 ∧ RdI w3 (.slice sa2 m.sz.length cs2) m.sz ∧ RdF (.slice ta2 m.tr.length ct2) m.tr w3) := (⟨HUf.out.below hB3.bel, HUi.out.below hB3.bel, HUt.out.below hB3.bel⟩ : _ ∧ _ ∧ _)
  have HI3 : Hid (RdF (.slice af r.fs.length cf) r.fs w3 ∧ RdI w3 (.slice sa m.sz.length cs) m.sz ∧ RdF (.slice ta m.tr.length ct) m.tr w3) := (⟨(HF.out.below HB3.out).1, HI.out.below HB3.out, (HT.out.below HB3.out).1⟩ : _ ∧ _ ∧ _)
  clear hB3 hw3 HR0 HM0 HB2x HUf HUi HUt HF HI HT
  have HK : Hid (∀ W, SB w3 W → (((W.cell? ⟨w.heap.size, 0, none⟩ = some (.int .i64 r.st) ∧ W.cell? ⟨w.heap.size, 1, none⟩ = some (.string RS) ∧ W.cell? ⟨w.heap.size, 2, none⟩ = some (.slice af r.fs.length cf) ∧ W.cell? ⟨w.heap.size, 3, none⟩ = some (.string BD)) ∧ (W.cell? ⟨w.heap.size + 1, 0, none⟩ = some (.string ME) ∧ W.cell? ⟨w.heap.size + 1, 1, none⟩ = some (.bool m.cl) ∧ W.cell? ⟨w.heap.size + 1, 2, none⟩ = some (.bool m.old) ∧ W.cell? ⟨w.heap.size + 1, 3, none⟩ = some (.bool m.ch) ∧ W.cell? ⟨w.heap.size + 1, 4, none⟩ = some (.slice sa m.sz.length cs) ∧ W.cell? ⟨w.heap.size + 1, 5, none⟩ = some (.slice ta m.tr.length ct))) ∧ (W.cell? ⟨w2.heap.size, 0, none⟩ = some (.int .i64 r.st) ∧ W.cell? ⟨w2.heap.size, 1, none⟩ = some (.string RS) ∧ W.cell? ⟨w2.heap.size, 2, none⟩ = some (.slice af2 r.fs.length cf2) ∧ W.cell? ⟨w2.heap.size, 3, none⟩ = some (.string BD)) ∧ (W.cell? ⟨w2.heap.size + 1, 0, none⟩ = some (.string ME) ∧ W.cell? ⟨w2.heap.size + 1, 1, none⟩ = some (.bool m.cl) ∧ W.cell? ⟨w2.heap.size + 1, 2, none⟩ = some (.bool m.old) ∧ W.cell? ⟨w2.heap.size + 1, 3, none⟩ = some (.bool m.ch) ∧ W.cell? ⟨w2.heap.size + 1, 4, none⟩ = some (.slice sa2 m.sz.length cs2) ∧ W.cell? ⟨w2.heap.size + 1, 5, none⟩ = some (.slice ta2 m.tr.length ct2))) ∧ SB w3 W) := fun W hW => by
    have h1 := HX3.out.1.1.below hW
    have h2 := HX3.out.1.2.below hW
    have h3 := HX3.out.2.1.below hW
    have h4 := HX3.out.2.2.below hW
    exact ⟨⟨⟨⟨h1.cell 0 rfl, h1.cell 1 rfl, h1.cell 2 rfl, h1.cell 3 rfl⟩, h2.cell 0 rfl, h2.cell 1 rfl, h2.cell 2 rfl, h2.cell 3 rfl, h2.cell 4 rfl, h2.cell 5 rfl⟩, ⟨h3.cell 0 rfl, h3.cell 1 rfl, h3.cell 2 rfl, h3.cell 3 rfl⟩, h4.cell 0 rfl, h4.cell 1 rfl, h4.cell 2 rfl, h4.cell 3 rfl, h4.cell 4 rfl, h4.cell 5 rfl⟩, hW⟩
  have HBn : Hid (SB w3 w3) := SB.refl w3
  have HBw : Hid (∀ W, SB w3 W → Below w.heap.size w W) := fun W hW => HB3.out.trans (hW.mono HB3.out.size)
  have hlt1 : w.heap.size < w2.heap.size := by have := HS3.out.2; omega
  have hlt2 : w.heap.size + 1 < w2.heap.size := by have := HS3.out.2; omega
  go_wp2_with fail
  rw [← HW3.out]
  refine (HHd.out _ _ _ _ HB3.out HU3.out.1 HU3.out.2.1 HU3.out.2.2).mono ?_
  rintro e w4 ⟨rfl, hb4⟩
  have HBn : Hid (SB w3 w4) := hb4
  clear hb4 HHd HW3
  obtain ⟨⟨⟨⟨pa0, pa1, pa2, pa3⟩, ⟨pb0, pb1, pb2, pb3, pb4, pb5⟩⟩, ⟨pc0, pc1, pc2, pc3⟩, ⟨pd0, pd1, pd2, pd3, pd4, pd5⟩⟩, _⟩ := HK.out _ HBn.out
  go_wp2_with fail
  clear pa0 pa1 pa2 pa3 pb0 pb1 pb2 pb3 pb4 pb5 pc0 pc1 pc2 pc3 pd0 pd1 pd2 pd3 pd4 pd5
  go_region_held3 (fun W => (((W.cell? ⟨w.heap.size, 0, none⟩ = some (.int .i64 r.st) ∧ W.cell? ⟨w.heap.size, 1, none⟩ = some (.string RS) ∧ W.cell? ⟨w.heap.size, 2, none⟩ = some (.slice af r.fs.length cf) ∧ W.cell? ⟨w.heap.size, 3, none⟩ = some (.string BD)) ∧ (W.cell? ⟨w.heap.size + 1, 0, none⟩ = some (.string ME) ∧ W.cell? ⟨w.heap.size + 1, 1, none⟩ = some (.bool m.cl) ∧ W.cell? ⟨w.heap.size + 1, 2, none⟩ = some (.bool m.old) ∧ W.cell? ⟨w.heap.size + 1, 3, none⟩ = some (.bool m.ch) ∧ W.cell? ⟨w.heap.size + 1, 4, none⟩ = some (.slice sa m.sz.length cs) ∧ W.cell? ⟨w.heap.size + 1, 5, none⟩ = some (.slice ta m.tr.length ct))) ∧ (W.cell? ⟨w2.heap.size, 0, none⟩ = some (.int .i64 r.st) ∧ W.cell? ⟨w2.heap.size, 1, none⟩ = some (.string RS) ∧ W.cell? ⟨w2.heap.size, 2, none⟩ = some (.slice af2 r.fs.length cf2) ∧ W.cell? ⟨w2.heap.size, 3, none⟩ = some (.string BD)) ∧ (W.cell? ⟨w2.heap.size + 1, 0, none⟩ = some (.string ME) ∧ W.cell? ⟨w2.heap.size + 1, 1, none⟩ = some (.bool m.cl) ∧ W.cell? ⟨w2.heap.size + 1, 2, none⟩ = some (.bool m.old) ∧ W.cell? ⟨w2.heap.size + 1, 3, none⟩ = some (.bool m.ch) ∧ W.cell? ⟨w2.heap.size + 1, 4, none⟩ = some (.slice sa2 m.sz.length cs2) ∧ W.cell? ⟨w2.heap.size + 1, 5, none⟩ = some (.slice ta2 m.tr.length ct2))) ∧ SB w3 W)
    ((refine HK.out _ ?_; first | with_reducible exact HBn.out | with_reducible exact SB.drew HBn.out))
    (first
      | (go_at_call 12; refine (HRp.out _ (HI3.out.1.below (And.right (by assumption : _ ∧ SB w3 _)))).mono ?_; rintro e wa ⟨va, rfl, hoa, hba⟩; have HBn : Hid (SB w3 wa) := SB.on (And.right (by assumption : _ ∧ SB w3 _)) hba; have HOa : Hid (InF va r.fs wa) := (OwnF.inF hoa : InF _ _ _); clear hoa hba)
      | (go_at_call 13; refine (HMn.out _ (HI3.out.2.1.below (And.right (by assumption : _ ∧ SB w3 _))) (HI3.out.2.2.below (And.right (by assumption : _ ∧ SB w3 _)))).mono ?_; rintro e wb ⟨vb, vc, rfl, hob, hoc, hbb⟩; have HBn : Hid (SB w3 wb) := SB.on (And.right (by assumption : _ ∧ SB w3 _)) hbb; have HOa : Hid (InF va r.fs wb) := InF.below HOa.out hbb; have HOb : Hid (RdI wb vb m.sz) := (OwnI.rd hob HBd.out : RdI _ _ _); have HOc : Hid (RdF vc m.tr wb) := (OwnF.rd hoc : RdF _ _ _); clear hob hoc hbb)
      | (go_at_call 11; refine (HrH.out _ _ _ _ HOa.out HOb.out HOc.out).mono ?_; rintro e w5 ⟨rfl, hbd⟩; have HBn : Hid (SB w3 w5) := SB.on HBn.out hbd; clear hbd))
  obtain ⟨⟨⟨⟨pa0, pa1, pa2, pa3⟩, ⟨pb0, pb1, pb2, pb3, pb4, pb5⟩⟩, ⟨pc0, pc1, pc2, pc3⟩, ⟨pd0, pd1, pd2, pd3, pd4, pd5⟩⟩, _⟩ := HK.out _ HBn.out
  have HC5 : Hid (Calls _ _ _ _ _) := HPr.out _ _ _ w5 (HBw.out _ HBn.out) (HU3.out.1.below HBn.out) (HU3.out.2.1.below HBn.out) (HU3.out.2.2.below HBn.out)
  clear HPr HrH
  go_wp2_with fail
  refine HC5.out.mono ?_
  rintro e w6 ⟨rfl, hb6⟩
  have HBn : Hid (SB w3 w6) := SB.on HBn.out hb6
  clear hb6 HC5 pa0 pa1 pa2 pa3 pb0 pb1 pb2 pb3 pb4 pb5 pc0 pc1 pc2 pc3 pd0 pd1 pd2 pd3 pd4 pd5
  obtain ⟨⟨⟨⟨pa0, pa1, pa2, pa3⟩, ⟨pb0, pb1, pb2, pb3, pb4, pb5⟩⟩, ⟨pc0, pc1, pc2, pc3⟩, ⟨pd0, pd1, pd2, pd3, pd4, pd5⟩⟩, _⟩ := HK.out _ HBn.out
  go_wp2_with fail
  clear pa0 pa1 pa2 pa3 pb0 pb1 pb2 pb3 pb4 pb5 pc0 pc1 pc2 pc3 pd0 pd1 pd2 pd3 pd4 pd5
  go_region_held3 (fun W => (((W.cell? ⟨w.heap.size, 0, none⟩ = some (.int .i64 r.st) ∧ W.cell? ⟨w.heap.size, 1, none⟩ = some (.string RS) ∧ W.cell? ⟨w.heap.size, 2, none⟩ = some (.slice af r.fs.length cf) ∧ W.cell? ⟨w.heap.size, 3, none⟩ = some (.string BD)) ∧ (W.cell? ⟨w.heap.size + 1, 0, none⟩ = some (.string ME) ∧ W.cell? ⟨w.heap.size + 1, 1, none⟩ = some (.bool m.cl) ∧ W.cell? ⟨w.heap.size + 1, 2, none⟩ = some (.bool m.old) ∧ W.cell? ⟨w.heap.size + 1, 3, none⟩ = some (.bool m.ch) ∧ W.cell? ⟨w.heap.size + 1, 4, none⟩ = some (.slice sa m.sz.length cs) ∧ W.cell? ⟨w.heap.size + 1, 5, none⟩ = some (.slice ta m.tr.length ct))) ∧ (W.cell? ⟨w2.heap.size, 0, none⟩ = some (.int .i64 r.st) ∧ W.cell? ⟨w2.heap.size, 1, none⟩ = some (.string RS) ∧ W.cell? ⟨w2.heap.size, 2, none⟩ = some (.slice af2 r.fs.length cf2) ∧ W.cell? ⟨w2.heap.size, 3, none⟩ = some (.string BD)) ∧ (W.cell? ⟨w2.heap.size + 1, 0, none⟩ = some (.string ME) ∧ W.cell? ⟨w2.heap.size + 1, 1, none⟩ = some (.bool m.cl) ∧ W.cell? ⟨w2.heap.size + 1, 2, none⟩ = some (.bool m.old) ∧ W.cell? ⟨w2.heap.size + 1, 3, none⟩ = some (.bool m.ch) ∧ W.cell? ⟨w2.heap.size + 1, 4, none⟩ = some (.slice sa2 m.sz.length cs2) ∧ W.cell? ⟨w2.heap.size + 1, 5, none⟩ = some (.slice ta2 m.tr.length ct2))) ∧ SB w3 W)
    ((refine HK.out _ ?_; first | with_reducible exact HBn.out | with_reducible exact SB.drew HBn.out))
    (first
      | (go_at_call 12; refine (HRp.out _ (HI3.out.1.below (And.right (by assumption : _ ∧ SB w3 _)))).mono ?_; rintro e wa ⟨va, rfl, hoa, hba⟩; have HBn : Hid (SB w3 wa) := SB.on (And.right (by assumption : _ ∧ SB w3 _)) hba; have HOa : Hid (InF va r.fs wa) := (OwnF.inF hoa : InF _ _ _); clear hoa hba)
      | (go_at_call 13; refine (HMn.out _ (HI3.out.2.1.below (And.right (by assumption : _ ∧ SB w3 _))) (HI3.out.2.2.below (And.right (by assumption : _ ∧ SB w3 _)))).mono ?_; rintro e wb ⟨vb, vc, rfl, hob, hoc, hbb⟩; have HBn : Hid (SB w3 wb) := SB.on (And.right (by assumption : _ ∧ SB w3 _)) hbb; have HOa : Hid (InF va r.fs wb) := InF.below HOa.out hbb; have HOb : Hid (RdI wb vb m.sz) := (OwnI.rd hob HBd.out : RdI _ _ _); have HOc : Hid (RdF vc m.tr wb) := (OwnF.rd hoc : RdF _ _ _); clear hob hoc hbb)
      | (go_at_call 15; refine (HrP.out _ _ _ _ HOa.out HOb.out HOc.out).mono ?_; rintro e w7 ⟨rfl, hbd⟩; have HBn : Hid (SB w3 w7) := SB.on HBn.out hbd; clear hbd))
  obtain ⟨⟨⟨⟨pa0, pa1, pa2, pa3⟩, ⟨pb0, pb1, pb2, pb3, pb4, pb5⟩⟩, ⟨pc0, pc1, pc2, pc3⟩, ⟨pd0, pd1, pd2, pd3, pd4, pd5⟩⟩, _⟩ := HK.out _ HBn.out
  clear HRp HMn HrP
  go_wp2_with fail
  clear pa0 pa1 pa2 pa3 pb0 pb1 pb2 pb3 pb4 pb5 pc0 pc1 pc2 pc3 pd0 pd1 pd2 pd3 pd4 pd5
  go_region_held3 (fun W => (((W.cell? ⟨w.heap.size, 0, none⟩ = some (.int .i64 r.st) ∧ W.cell? ⟨w.heap.size, 1, none⟩ = some (.string RS) ∧ W.cell? ⟨w.heap.size, 2, none⟩ = some (.slice af r.fs.length cf) ∧ W.cell? ⟨w.heap.size, 3, none⟩ = some (.string BD)) ∧ (W.cell? ⟨w.heap.size + 1, 0, none⟩ = some (.string ME) ∧ W.cell? ⟨w.heap.size + 1, 1, none⟩ = some (.bool m.cl) ∧ W.cell? ⟨w.heap.size + 1, 2, none⟩ = some (.bool m.old) ∧ W.cell? ⟨w.heap.size + 1, 3, none⟩ = some (.bool m.ch) ∧ W.cell? ⟨w.heap.size + 1, 4, none⟩ = some (.slice sa m.sz.length cs) ∧ W.cell? ⟨w.heap.size + 1, 5, none⟩ = some (.slice ta m.tr.length ct))) ∧ (W.cell? ⟨w2.heap.size, 0, none⟩ = some (.int .i64 r.st) ∧ W.cell? ⟨w2.heap.size, 1, none⟩ = some (.string RS) ∧ W.cell? ⟨w2.heap.size, 2, none⟩ = some (.slice af2 r.fs.length cf2) ∧ W.cell? ⟨w2.heap.size, 3, none⟩ = some (.string BD)) ∧ (W.cell? ⟨w2.heap.size + 1, 0, none⟩ = some (.string ME) ∧ W.cell? ⟨w2.heap.size + 1, 1, none⟩ = some (.bool m.cl) ∧ W.cell? ⟨w2.heap.size + 1, 2, none⟩ = some (.bool m.old) ∧ W.cell? ⟨w2.heap.size + 1, 3, none⟩ = some (.bool m.ch) ∧ W.cell? ⟨w2.heap.size + 1, 4, none⟩ = some (.slice sa2 m.sz.length cs2) ∧ W.cell? ⟨w2.heap.size + 1, 5, none⟩ = some (.slice ta2 m.tr.length ct2))) ∧ SB w3 W)
    ((refine HK.out _ ?_; first | with_reducible exact HBn.out | with_reducible exact SB.drew HBn.out))
    (first
      | (go_at_call 17; (with_reducible refine (HPl.out (.slice af r.fs.length cf) r.fs _ ?_ hS).mono ?_); exact HI3.out.1.below (And.right (by assumption : _ ∧ SB w3 _)); rintro e wa ⟨va, rfl, hoa, hba⟩; have HBn : Hid (SB w3 wa) := SB.on (And.right (by assumption : _ ∧ SB w3 _)) hba; have HOa : Hid (RdF va r.fs wa) := (OwnF.rd hoa : RdF _ _ _); clear hoa hba)
      | (go_at_call 16; (with_reducible refine (HSm.out (.slice af2 r.fs.length cf2) va r.fs _ ?_ ?_ hS).mono ?_); exact HU3.out.1.1.below (And.right (by assumption : _ ∧ SB w3 _)); exact HOa.out; rintro e wb ⟨rfl, hbb⟩; have HBn : Hid (SB w3 wb) := SB.on (And.right (by assumption : _ ∧ SB w3 _)) hbb; clear hbb)
      | (go_at_call 17; (with_reducible refine (HPl.out (.slice ta m.tr.length ct) m.tr _ ?_ hts).mono ?_); exact HI3.out.2.2.below (And.right (by assumption : _ ∧ SB w3 _)); rintro e wc ⟨vc, rfl, hoc, hbc⟩; have HBn : Hid (SB w3 wc) := SB.on (And.right (by assumption : _ ∧ SB w3 _)) hbc; have HOc : Hid (RdF vc m.tr wc) := (OwnF.rd hoc : RdF _ _ _); clear hoc hbc)
      | (go_at_call 16; (with_reducible refine (HSm.out (.slice ta2 m.tr.length ct2) vc m.tr _ ?_ ?_ hts).mono ?_); exact HU3.out.2.2.below (And.right (by assumption : _ ∧ SB w3 _)); exact HOc.out; rintro e w8 ⟨rfl, hbd⟩; have HBn : Hid (SB w3 w8) := SB.on (And.right (by assumption : _ ∧ SB w3 _)) hbd; clear hbd))
  obtain ⟨⟨⟨⟨pa0, pa1, pa2, pa3⟩, ⟨pb0, pb1, pb2, pb3, pb4, pb5⟩⟩, ⟨pc0, pc1, pc2, pc3⟩, ⟨pd0, pd1, pd2, pd3, pd4, pd5⟩⟩, _⟩ := HK.out _ HBn.out
  have HI8 : Hid (RdI w8 (.slice sa m.sz.length cs) m.sz) := HI3.out.2.1.below HBn.out
  have HU8 : Hid (RdI w8 (.slice sa2 m.sz.length cs2) m.sz) := HU3.out.2.1.below HBn.out
  have HB8 : Hid (Below w.heap.size w w8) := HBw.out _ HBn.out
  clear HPl HSm HK HBw HX3 HU3 HI3 HBn HB3 hxh hxp hih hip
  go_wp2
  go_loopw [86] (fun i wr => ∃ k : Nat, k ≤ m.sz.length ∧ i = .int .i64 (k : Int) ∧ Hid (wr = w8)) (fun i _ => m.sz.length - (intOf i).toNat)
  case atStart => exact ⟨0, Nat.zero_le _, rfl, rfl⟩
  case round =>
    obtain ⟨k, hk, rfl, hw⟩ := hrel
    obtain rfl : w8 = wr := hw.out.symm
    by_cases hlt : k < m.sz.length
    · obtain ⟨a1, d1, e1, _, _, hr1⟩ := HI8.out
      injection e1 with e1 _ e2
      subst e1 e2
      obtain ⟨a2, d2, e3, _, _, hr2⟩ := HU8.out
      injection e3 with e3 _ e4
      subst e3 e4
      rcases hr1 with h | ⟨g1, o1, rfl, hcell1⟩
      · rw [h] at hlt; simp at hlt
      rcases hr2 with h | ⟨g2, o2, rfl, hcell2⟩
      · rw [h] at hlt; simp at hlt
      have p0 := hcell1 k _ (List.getElem?_eq_getElem hlt)
      have q0 := hcell2 k _ (List.getElem?_eq_getElem hlt)
      clear hcell1 hcell2
      generalize m.sz[k] = X at p0 q0
      have hxx : (X != X) = false := by simp
      have hlt' : (k : Int) < (m.sz.length : Int) := by omega
      go_wp2
      go_roundw
      case rel => exact ⟨k + 1, by omega, by go_num, trivial⟩
      case measure => simp [intOf]; omega
    · go_wp2
      go_ret
      exact ⟨rfl, HB8.out⟩

theorem walkb_MessagePrints (st : Int) (A B : ByteArray) (u : Value) (t : List Fl) (hb : A.size + B.size + bulkfields t ≤ 1048576) (hn : i64 st) (M : ByteArray) (b1 b2 b3 : Bool) (u1 u2 : Value) (l : List Int) (t2 : List Fl) (hb2 : M.size + l.length + bulkfields t2 ≤ 1048576) (w : World) (hf : InF u t w) (h2 : (RdI w u1 l ∧ NilI u1 l) ∧ InF u2 t2 w) (he : Env w) (hp : Pow w) (td : Deb w) :
    Calls Tryz.prog 3 #[.agg #[.int .i64 st, .string A, u, .string B], .agg #[.string M, .bool b1, .bool b2, .bool b3, u1, u2]] w fun e w' => e = .returned (.bool true) ∧ Below w.heap.size w w' := by
  have h := walk_MessagePrints ⟨st, A.data.toList, t, B.data.toList⟩ ⟨M.data.toList, b1, b2, b3, l, t2⟩ hn (by show A.data.toList.length ≤ _; rw [size_list]; omega) (by show B.data.toList.length ≤ _; rw [size_list]; omega) (by show sumF t ≤ _; unfold bulkfields at hb; omega) u u1 u2 w hf h2.1.1 h2.1.2 h2.2 (by show l.length ≤ _; omega) (by show sumF t2 ≤ _; unfold bulkfields at hb2; omega) he hp td
  dsimp only at h
  rw [str_self, str_self, str_self] at h
  exact h

end Ms
end Go.Proofs.YtcelekfokbdmfaaGreatDoor
