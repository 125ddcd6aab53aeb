import Derived.Test.YtcelekfokbdmfaaGreatDoorMgF1
set_option linter.unusedVariables false
set_option linter.unusedSimpArgs false
set_option maxRecDepth 100000
namespace Go.Proofs.YtcelekfokbdmfaaGreatDoor
open Go.RowKit Go.Shelf
namespace Ms
open Oc Tg _root_.Go.Proofs.YtcelekfokbdmfaaGreatDoor.Fd _root_.Go.Proofs.YtcelekfokbdmfaaGreatDoor.Ck
set_option maxHeartbeats 8000000 in
theorem manner12_any (m : Mn) (vs vt : Value) (w : World) (hs : RdI w vs m.sz) (hn : NilI vs m.sz) (ht : RdF vt m.tr w) (hsl : m.sz.length ≤ 16777216) (htl : m.tr.length ≤ 16777216) :
    Calls Tryz.prog 13 #[.agg #[.string (str m.me), .bool m.cl, .bool m.old, .bool m.ch, vs, vt]] w fun e w' => ∃ us ut, e = .returned (.agg #[.string (str m.me), .bool m.cl, .bool m.old, .bool m.ch, us, ut]) ∧ OwnI w.heap.size us m.sz w' ∧ OwnF 80 w.heap.size ut m.tr w' ∧ Below w.heap.size w w' := by
  have HT : Hid (RdF vt m.tr w) := ht
  have HI : Hid (RdI w vs m.sz) := hs
  have HN : Hid (NilI vs m.sz) := hn
  obtain ⟨ta, ct, rfl, _⟩ := ht
  obtain ⟨sa, cs, rfl, _⟩ := id hs
  clear hs hn
  generalize str m.me = ME at *
  obtain ⟨w2, hw2⟩ : ∃ w2, w2 = (w.alloc (.cells #[.string ME, .bool m.cl, .bool m.old, .bool m.ch, .slice sa m.sz.length cs, .slice ta m.tr.length ct] 27)).alloc (.cells #[.string ⟨#[]⟩, .bool false, .bool false, .bool false, .slice none 0 0, .slice none 0 0] 41) := ⟨_, rfl⟩
  have hB : Box2 27 41 w w2 [.string ME, .bool m.cl, .bool m.old, .bool m.ch, .slice sa m.sz.length cs, .slice ta m.tr.length ct] [.string ⟨#[]⟩, .bool false, .bool false, .bool false, .slice none 0 0, .slice none 0 0] := by rw [hw2]; exact box2 _ _ _ _ _
  have HS2 : Hid (w2.heap.size = w.heap.size + 2) := (by rw [hw2]; simp : _ = _)
  have HC2 : Hid (Below w.heap.size w w2) := hB.bel
  have HY2 : Hid (Blk 27 w2 (w.heap.size) [.string ME, .bool m.cl, .bool m.old, .bool m.ch, .slice sa m.sz.length cs, .slice ta m.tr.length ct] ∧ Blk 41 w2 (w.heap.size + 1) [.string ⟨#[]⟩, .bool false, .bool false, .bool false, .slice none 0 0, .slice none 0 0]) := ⟨hB.resp, hB.man⟩
  have HW2 : Hid (w2 = _) := hw2
  clear hB hw2
  have HX : Hid (∀ W, Below w2.heap.size w2 W → (W.cell? ⟨w.heap.size, 0, none⟩ = some (.string ME) ∧ W.cell? ⟨w.heap.size, 1, none⟩ = some (.bool m.cl) ∧ W.cell? ⟨w.heap.size, 2, none⟩ = some (.bool m.old) ∧ W.cell? ⟨w.heap.size, 3, none⟩ = some (.bool m.ch) ∧ W.cell? ⟨w.heap.size, 4, none⟩ = some (.slice sa m.sz.length cs) ∧ W.cell? ⟨w.heap.size, 5, none⟩ = some (.slice ta m.tr.length ct)) ∧ (W.cell? ⟨w.heap.size + 1, 0, none⟩ = some (.string ⟨#[]⟩) ∧ W.cell? ⟨w.heap.size + 1, 1, none⟩ = some (.bool false) ∧ W.cell? ⟨w.heap.size + 1, 2, none⟩ = some (.bool false) ∧ W.cell? ⟨w.heap.size + 1, 3, none⟩ = some (.bool false) ∧ W.cell? ⟨w.heap.size + 1, 4, none⟩ = some (.slice none 0 0) ∧ W.cell? ⟨w.heap.size + 1, 5, none⟩ = some (.slice none 0 0) ∧ W.frozen? ⟨w.heap.size + 1, 0, none⟩ = false ∧ W.frozen? ⟨w.heap.size + 1, 1, none⟩ = false ∧ W.frozen? ⟨w.heap.size + 1, 2, none⟩ = false ∧ W.frozen? ⟨w.heap.size + 1, 3, none⟩ = false ∧ W.frozen? ⟨w.heap.size + 1, 4, none⟩ = false ∧ W.frozen? ⟨w.heap.size + 1, 5, none⟩ = false)) := fun W hW => by
    have h1 := HY2.out.1.below hW
    have h2 := HY2.out.2.below hW
    exact ⟨⟨h1.cell 0 rfl, h1.cell 1 rfl, h1.cell 2 rfl, h1.cell 3 rfl, h1.cell 4 rfl, h1.cell 5 rfl⟩, h2.cell 0 rfl, h2.cell 1 rfl, h2.cell 2 rfl, h2.cell 3 rfl, h2.cell 4 rfl, h2.cell 5 rfl, h2.free 0, h2.free 1, h2.free 2, h2.free 3, h2.free 4, h2.free 5⟩
  have HK : Hid (∀ W, Below (w.heap.size + 1) w2 W → (W.cell? ⟨w.heap.size, 0, none⟩ = some (.string ME) ∧ W.cell? ⟨w.heap.size, 1, none⟩ = some (.bool m.cl) ∧ W.cell? ⟨w.heap.size, 2, none⟩ = some (.bool m.old) ∧ W.cell? ⟨w.heap.size, 3, none⟩ = some (.bool m.ch) ∧ W.cell? ⟨w.heap.size, 4, none⟩ = some (.slice sa m.sz.length cs) ∧ W.cell? ⟨w.heap.size, 5, none⟩ = some (.slice ta m.tr.length ct)) ∧ Below (w.heap.size + 1) w2 W) := fun W hW => by
    have h1 : Blk 27 W w.heap.size [.string ME, .bool m.cl, .bool m.old, .bool m.ch, .slice sa m.sz.length cs, .slice ta m.tr.length ct] := (hW.block _ (Nat.lt_succ_self _)).trans HY2.out.1
    exact ⟨⟨h1.cell 0 rfl, h1.cell 1 rfl, h1.cell 2 rfl, h1.cell 3 rfl, h1.cell 4 rfl, h1.cell 5 rfl⟩, hW⟩
  have hn2 : w.heap.size + 1 ≤ w2.heap.size := by have := HS2.out; omega
  have HN2 : Hid (w.heap.size + 1 ≤ w2.heap.size) := hn2
  have HBm : Hid (Below (w.heap.size + 1) w2 w2) := Below.refl _ _
  have HBb : Hid (Below w2.heap.size w2 w2) := Below.refl _ _
  have HIw : Hid (∀ W, Below w2.heap.size w2 W → RdF (.slice ta m.tr.length ct) m.tr W ∧ RdI W (.slice sa m.sz.length cs) m.sz) := fun W hW => by
    have hb := HC2.out.trans (hW.mono HC2.out.size)
    exact ⟨HT.out.below hb, HI.out.below hb⟩
  have hsl2 : m.sz.length ≤ 2147483648 := by omega
  clear hn2
  go_enter Tryz.func13, Tryz.ntmps13
  go_wp2_with fail
  rw [← HW2.out]
  go_region_held3 (fun W => (W.cell? ⟨w.heap.size, 0, none⟩ = some (.string ME) ∧ W.cell? ⟨w.heap.size, 1, none⟩ = some (.bool m.cl) ∧ W.cell? ⟨w.heap.size, 2, none⟩ = some (.bool m.old) ∧ W.cell? ⟨w.heap.size, 3, none⟩ = some (.bool m.ch) ∧ W.cell? ⟨w.heap.size, 4, none⟩ = some (.slice sa m.sz.length cs) ∧ W.cell? ⟨w.heap.size, 5, none⟩ = some (.slice ta m.tr.length ct)) ∧ Below (w.heap.size + 1) w2 W)
    ((refine HK.out _ ?_; first | with_reducible exact HBm.out | with_reducible exact Below.drew HBm.out | with_reducible exact Below.drew (Below.alloc HBm.out (Nat.le_trans HN2.out HBb.out.size) _) | with_reducible exact Below.alloc HBm.out (Nat.le_trans HN2.out HBb.out.size) _ | ((repeat (with_reducible refine Below.setCell ?_ (by simp) _)); with_reducible exact HBm.out)))
    (first
      | (go_at_call 17; (with_reducible refine (plain12_any _ m.tr w5 (HIw.out w5 HBb.out).1 htl).mono ?_); rintro e wS ⟨vS, rfl, hoS, hbS⟩; obtain ⟨a4, c4, rfl⟩ := ownF_form hoS; have HO4 : Hid (OwnF 80 w2.heap.size (.slice a4 m.tr.length c4) m.tr wS) := own_up hoS HBb.out.size; have HO5 : Hid (OwnI w2.heap.size (.slice a5 m.sz.length c5) m.sz wS) := OwnI.below HO5.out hbS; have HBb : Hid (Below w2.heap.size w2 wS) := bel_trans HBb.out hbS; have HBm : Hid (Below (w.heap.size + 1) w2 wS) := HBb.out.mono HN2.out; obtain ⟨_, d0, d1, d2, d3, d4, d5, _⟩ := HX.out _ HBb.out; clear hoS hbS)
      | (go_at_call 17; (with_reducible refine (plain12_any _ m.tr (w2.alloc (.cells #[] 3)).drew (HIw.out _ ((Below.refl _ w2).alloc (Nat.le_refl _) _).drew).1 htl).mono ?_); rintro e wS ⟨vS, rfl, hoS, hbS⟩; obtain ⟨a4, c4, rfl⟩ := ownF_form hoS; have HBb : Hid (Below w2.heap.size w2 wS) := bel_trans ((Below.refl _ w2).alloc (Nat.le_refl _) _).drew hbS; have HBm : Hid (Below (w.heap.size + 1) w2 wS) := HBb.out.mono HN2.out; have HO4 : Hid (OwnF 80 w2.heap.size (.slice a4 m.tr.length c4) m.tr wS) := own_up hoS ((Below.refl w2.heap.size w2).alloc (Nat.le_refl _) _).size; have HGs : Hid (wS.heap[w2.heap.size]? = some (.cells #[] 3 (0, 0))) := Below.kept1 (w := (w2.alloc (.cells #[] 3)).drew) hbS (by simp) (heap_alloc_new w2 _); clear hoS hbS)
      | (go_at_call 17; (with_reducible refine (plain12_any _ m.tr w2.drew (HIw.out _ (Below.refl _ w2).drew).1 htl).mono ?_); rintro e wS ⟨vS, rfl, hoS, hbS⟩; obtain ⟨a4, c4, rfl⟩ := ownF_form hoS; have HBb : Hid (Below w2.heap.size w2 wS) := bel_trans (Below.refl _ w2).drew hbS; have HBm : Hid (Below (w.heap.size + 1) w2 wS) := HBb.out.mono HN2.out; have HO4 : Hid (OwnF 80 w2.heap.size (.slice a4 m.tr.length c4) m.tr wS) := own_up hoS (Nat.le_refl _); clear hoS hbS)
      | ((with_reducible refine at_world ((w2.alloc (.cells #[] 3)).drew) ?_); refine step_freshI rfl (.tmp 11) (.tmp 13) rfl w2.heap.size w2.heap.size (.slice sa m.sz.length cs) m.sz ((w2.alloc (.cells #[] 3)).drew) rfl (Nat.le_refl _) (heap_alloc_new w2 _) rfl (HIw.out _ ((Below.refl _ w2).alloc (Nat.le_refl _) _).drew).2 HN.out hsl2 ?_; intro v5 w5 HO5 hb5; obtain ⟨a5, c5, e5⟩ := HO5.out.form; subst e5; have HBb : Hid (Below w2.heap.size w2 w5) := bel_trans ((Below.refl _ w2).alloc (Nat.le_refl _) _).drew hb5.out; have HBm : Hid (Below (w.heap.size + 1) w2 w5) := HBb.out.mono HN2.out; clear hb5)
      | ((with_reducible refine at_world wS ?_); refine step_freshI rfl (.tmp 11) (.tmp 13) rfl w2.heap.size w2.heap.size (.slice sa m.sz.length cs) m.sz wS rfl (Nat.le_refl _) HGs.out rfl (HIw.out _ HBb.out).2 HN.out hsl2 ?_; intro v5 w5 HO5 hb5; obtain ⟨a5, c5, e5⟩ := HO5.out.form; subst e5; have HO4 : Hid (OwnF 80 w2.heap.size (.slice a4 m.tr.length c4) m.tr w5) := OwnF.below HO4.out hb5.out; have HBb : Hid (Below w2.heap.size w2 w5) := bel_trans HBb.out hb5.out; have HBm : Hid (Below (w.heap.size + 1) w2 w5) := HBb.out.mono HN2.out; obtain ⟨_, d0, d1, d2, d3, d4, d5, _⟩ := HX.out _ HBb.out; clear hb5)
      | ((with_reducible refine at_world (wS.alloc (.cells #[] 3)) ?_); refine step_freshI rfl (.tmp 11) (.tmp 13) rfl w2.heap.size wS.heap.size (.slice sa m.sz.length cs) m.sz (wS.alloc (.cells #[] 3)) rfl HBb.out.size (heap_alloc_new wS _) rfl (HIw.out _ (HBb.out.alloc HBb.out.size _)).2 HN.out hsl2 ?_; intro v5 w5 HO5 hb5; obtain ⟨a5, c5, e5⟩ := HO5.out.form; subst e5; have HO4 : Hid (OwnF 80 w2.heap.size (.slice a4 m.tr.length c4) m.tr w5) := OwnF.below (OwnF.below HO4.out ((Below.refl _ wS).alloc (Nat.le_refl _) _)) hb5.out; have HBb : Hid (Below w2.heap.size w2 w5) := bel_trans (HBb.out.alloc HBb.out.size _) hb5.out; have HBm : Hid (Below (w.heap.size + 1) w2 w5) := HBb.out.mono HN2.out; obtain ⟨_, d0, d1, d2, d3, d4, d5, _⟩ := HX.out _ HBb.out; clear hb5))
  all_goals
    go_wp2
    have hlt : w.heap.size + 1 < w2.heap.size := by have := HS2.out; omega
    have HBw := HC2.out.trans (HBb.out.mono HC2.out.size)
    refine bodyPost_ret (v := .agg #[.string ME, .bool m.cl, .bool m.old, .bool m.ch, .slice a5 m.sz.length c5, .slice a4 m.tr.length c4]) (by simp [results, Tryz.results13, go_sem, d0, d1, d2, d3, d4, d5]) rfl ?_
    refine ⟨_, _, rfl, own_up (B := w2.heap.size) ?_ HC2.out.size, own_up (B := w2.heap.size) ?_ HC2.out.size, ?_⟩
    · (repeat (with_reducible refine own_low ?_ hlt _)); exact HO5.out
    · (repeat (with_reducible refine own_low ?_ hlt _)); exact HO4.out
    · (repeat (with_reducible refine Below.setCell ?_ (by simp) _)); exact HBw
end Ms
end Go.Proofs.YtcelekfokbdmfaaGreatDoor
set_option linter.unusedVariables false
set_option linter.unusedSimpArgs false
set_option maxRecDepth 100000
namespace Go.Proofs.YtcelekfokbdmfaaGreatDoor
open Go.RowKit Go.Shelf
namespace Ms
open Oc Tg _root_.Go.Proofs.YtcelekfokbdmfaaGreatDoor.Fd _root_.Go.Proofs.YtcelekfokbdmfaaGreatDoor.Ck
set_option maxHeartbeats 8000000 in
theorem right12_any (r : Rs) (m : Mn) (hn : i64 r.st) (hrl : r.rs.length ≤ 1048576) (hbl : r.bd.length ≤ 1048576) (hS : sumF r.fs ≤ 1048576) (vf vs vt : Value) (w : World) (hf : RdF vf r.fs w) (hsi : RdI w vs m.sz) (hsn : NilI vs m.sz) (ht : RdF vt m.tr w) (hsl : m.sz.length ≤ 1048576) (hts : sumF m.tr ≤ 1048576) :
    Calls Tryz.prog 23 #[.agg #[.int .i64 r.st, .string (str r.rs), vf, .string (str r.bd)], .agg #[.string (str m.me), .bool m.cl, .bool m.old, .bool m.ch, vs, vt]] w fun e w' => e = .returned (.bool ((prnR r m).2 == 0)) ∧ Below w.heap.size w w' := by
  have hl1 := len_sumF r.fs
  have hl2 := len_sumF m.tr
  have HP : Hid (∀ (uf us ut : Value) (W : World), InF uf r.fs W → RdI W us m.sz → RdF ut m.tr W → Calls Tryz.prog 15 #[.agg #[.int .i64 r.st, .string (str r.rs), uf, .string (str r.bd)], .agg #[.string (str m.me), .bool m.cl, .bool m.old, .bool m.ch, us, ut]] W fun e w' => e = .returned (.tuple #[.string (str (prnR r m).1), .int .i64 (prnR r m).2]) ∧ Below (World.heap W).size W w') := fun uf us ut W h1 h2 h3 => rPrint12_any r m hn hrl hbl hS uf us ut W h1 h3 h2 hsl hts
  have HRp : Hid (∀ W, RdF vf r.fs W → Calls Tryz.prog 12 #[.agg #[.int .i64 r.st, .string (str r.rs), vf, .string (str r.bd)]] W fun e w' => ∃ u, e = .returned (.agg #[.int .i64 r.st, .string (str r.rs), u, .string (str r.bd)]) ∧ OwnF 80 (World.heap W).size u r.fs w' ∧ Below (World.heap W).size W w') := fun W h => response12_any r vf W h (by omega)
  have HMn : Hid (∀ W, RdI W vs m.sz → RdF vt m.tr W → Calls Tryz.prog 13 #[.agg #[.string (str m.me), .bool m.cl, .bool m.old, .bool m.ch, vs, vt]] W fun e w' => ∃ us ut, e = .returned (.agg #[.string (str m.me), .bool m.cl, .bool m.old, .bool m.ch, us, ut]) ∧ OwnI (World.heap W).size us m.sz w' ∧ OwnF 80 (World.heap W).size ut m.tr w' ∧ Below (World.heap W).size W w') := fun W h1 h2 => manner12_any m vs vt W h1 hsn h2 (by omega) (by omega)
  have HF : Hid (RdF vf r.fs w) := hf
  have HT : Hid (RdF vt m.tr w) := ht
  have HI : Hid (RdI w vs m.sz) := hsi
  have HBd : Hid (∀ x ∈ m.sz, -9223372036854775808 ≤ x ∧ x ≤ 9223372036854775807) := (by obtain ⟨_, _, _, _, h, _⟩ := hsi; exact h : ∀ x ∈ m.sz, _)
  obtain ⟨af, cf, rfl, _⟩ := hf
  obtain ⟨ta, ct, rfl, _⟩ := ht
  obtain ⟨sa, cs, rfl, _⟩ := id hsi
  clear hsi hsn
  generalize prnR r m = R at *
  obtain ⟨R1, R2⟩ := R
  dsimp only at HP
  generalize str R1 = RX at *
  generalize str r.rs = RS at *
  generalize str r.bd = BD at *
  generalize str m.me = ME at *
  obtain ⟨w2, hw2⟩ : ∃ w2, w2 = (w.alloc (.cells #[.int .i64 r.st, .string RS, .slice af r.fs.length cf, .string BD] 24)).alloc (.cells #[.string ME, .bool m.cl, .bool m.old, .bool m.ch, .slice sa m.sz.length cs, .slice ta m.tr.length ct] 27) := ⟨_, rfl⟩
  have hB : Box2 24 27 w w2 [.int .i64 r.st, .string RS, .slice af r.fs.length cf, .string BD] [.string ME, .bool m.cl, .bool m.old, .bool m.ch, .slice sa m.sz.length cs, .slice ta m.tr.length ct] := by rw [hw2]; exact box2 _ _ _ _ _
  have HC2 : Hid (Below w.heap.size w w2) := hB.bel
  have HY2 : Hid (Blk 24 w2 (w.heap.size) [.int .i64 r.st, .string RS, .slice af r.fs.length cf, .string BD] ∧ Blk 27 w2 (w.heap.size + 1) [.string ME, .bool m.cl, .bool m.old, .bool m.ch, .slice sa m.sz.length cs, .slice ta m.tr.length ct]) := ⟨hB.resp, hB.man⟩
  have HW2 : Hid (w2 = _) := hw2
  clear hB hw2
  have HX : Hid (∀ W, Below w2.heap.size w2 W → (W.cell? ⟨w.heap.size, 0, none⟩ = some (.int .i64 r.st) ∧ W.cell? ⟨w.heap.size, 1, none⟩ = some (.string RS) ∧ W.cell? ⟨w.heap.size, 2, none⟩ = some (.slice af r.fs.length cf) ∧ W.cell? ⟨w.heap.size, 3, none⟩ = some (.string BD)) ∧ (W.cell? ⟨w.heap.size + 1, 0, none⟩ = some (.string ME) ∧ W.cell? ⟨w.heap.size + 1, 1, none⟩ = some (.bool m.cl) ∧ W.cell? ⟨w.heap.size + 1, 2, none⟩ = some (.bool m.old) ∧ W.cell? ⟨w.heap.size + 1, 3, none⟩ = some (.bool m.ch) ∧ W.cell? ⟨w.heap.size + 1, 4, none⟩ = some (.slice sa m.sz.length cs) ∧ W.cell? ⟨w.heap.size + 1, 5, none⟩ = some (.slice ta m.tr.length ct))) := fun W hW => by
    have h1 := HY2.out.1.below hW
    have h2 := HY2.out.2.below hW
    exact ⟨⟨h1.cell 0 rfl, h1.cell 1 rfl, h1.cell 2 rfl, h1.cell 3 rfl⟩, h2.cell 0 rfl, h2.cell 1 rfl, h2.cell 2 rfl, h2.cell 3 rfl, h2.cell 4 rfl, h2.cell 5 rfl⟩
  have HBz : Hid (Below w2.heap.size w2 w2) := Below.refl _ _
  have HIw : Hid (∀ W, Below w2.heap.size w2 W → RdF (.slice af r.fs.length cf) r.fs W ∧ RdF (.slice ta m.tr.length ct) m.tr W ∧ RdI W (.slice sa m.sz.length cs) m.sz) := fun W hW => by
    have hb := HC2.out.trans (hW.mono HC2.out.size)
    exact ⟨HF.out.below hb, HT.out.below hb, HI.out.below hb⟩
  obtain ⟨⟨p0, p1, p2, p3⟩, ⟨q0, q1, q2, q3, q4, q5⟩⟩ := HX.out _ HBz.out
  obtain ⟨⟨s0, s1, s2, s3⟩, ⟨t0, t1, t2, t3, t4, t5⟩⟩ := HX.out _ HBz.out.drew
  go_enter Tryz.func23, Tryz.ntmps23
  go_wp2_with fail
  rw [← HW2.out]
  have HK : Hid (∀ W, SB w2 W → (W.cell? ⟨w.heap.size, 0, none⟩ = some (.int .i64 r.st) ∧ W.cell? ⟨w.heap.size, 1, none⟩ = some (.string RS) ∧ W.cell? ⟨w.heap.size, 2, none⟩ = some (.slice af r.fs.length cf) ∧ W.cell? ⟨w.heap.size, 3, none⟩ = some (.string BD)) ∧ (W.cell? ⟨w.heap.size + 1, 0, none⟩ = some (.string ME) ∧ W.cell? ⟨w.heap.size + 1, 1, none⟩ = some (.bool m.cl) ∧ W.cell? ⟨w.heap.size + 1, 2, none⟩ = some (.bool m.old) ∧ W.cell? ⟨w.heap.size + 1, 3, none⟩ = some (.bool m.ch) ∧ W.cell? ⟨w.heap.size + 1, 4, none⟩ = some (.slice sa m.sz.length cs) ∧ W.cell? ⟨w.heap.size + 1, 5, none⟩ = some (.slice ta m.tr.length ct)) ∧ SB w2 W) := fun W hW => ⟨(HX.out W hW).1, (HX.out W hW).2, hW⟩
  have HBn : Hid (SB w2 w2) := SB.refl w2
  go_region_held3 (fun W => (W.cell? ⟨w.heap.size, 0, none⟩ = some (.int .i64 r.st) ∧ W.cell? ⟨w.heap.size, 1, none⟩ = some (.string RS) ∧ W.cell? ⟨w.heap.size, 2, none⟩ = some (.slice af r.fs.length cf) ∧ W.cell? ⟨w.heap.size, 3, none⟩ = some (.string BD)) ∧ (W.cell? ⟨w.heap.size + 1, 0, none⟩ = some (.string ME) ∧ W.cell? ⟨w.heap.size + 1, 1, none⟩ = some (.bool m.cl) ∧ W.cell? ⟨w.heap.size + 1, 2, none⟩ = some (.bool m.old) ∧ W.cell? ⟨w.heap.size + 1, 3, none⟩ = some (.bool m.ch) ∧ W.cell? ⟨w.heap.size + 1, 4, none⟩ = some (.slice sa m.sz.length cs) ∧ W.cell? ⟨w.heap.size + 1, 5, none⟩ = some (.slice ta m.tr.length ct)) ∧ SB w2 W)
    ((refine HK.out _ ?_; first | with_reducible exact HBn.out | with_reducible exact SB.drew HBn.out))
    (first
      | (go_at_call 12; refine (HRp.out _ (HIw.out _ (And.right (And.right (by assumption : _ ∧ _ ∧ SB w2 _)))).1).mono ?_; rintro e w4 ⟨v4, rfl, ho4, hb4⟩; have HBn : Hid (SB w2 w4) := SB.on (And.right (And.right (by assumption : _ ∧ _ ∧ SB w2 _))) hb4; have HO4 : Hid (InF v4 r.fs w4) := (OwnF.inF ho4 : InF _ _ _); clear ho4 hb4)
      | (go_at_call 13; refine (HMn.out _ (HIw.out _ (And.right (And.right (by assumption : _ ∧ _ ∧ SB w2 _)))).2.2 (HIw.out _ (And.right (And.right (by assumption : _ ∧ _ ∧ SB w2 _)))).2.1).mono ?_; rintro e w5 ⟨v5, v6, rfl, ho5, ho6, hb5⟩; have HBn : Hid (SB w2 w5) := SB.on (And.right (And.right (by assumption : _ ∧ _ ∧ SB w2 _))) hb5; have HO4 : Hid (InF v4 r.fs w5) := InF.below HO4.out hb5; have HO5 : Hid (RdI w5 v5 m.sz) := (OwnI.rd ho5 HBd.out : RdI _ _ _); have HO6 : Hid (RdF v6 m.tr w5) := (OwnF.rd ho6 : RdF _ _ _); clear ho5 ho6 hb5)
      | (go_at_call 15; refine (HP.out _ _ _ _ HO4.out HO5.out HO6.out).mono ?_; rintro e w7 ⟨rfl, hb7⟩; have HBn : Hid (SB w2 w7) := SB.on HBn.out hb7; clear hb7))
  all_goals
    have HBw : Hid (Below w.heap.size w w7) := HC2.out.trans (HBn.out.mono HC2.out.size)
    clear HX HIw HP HRp HMn HY2 HK
    go_wp2
    go_ret
    exact ⟨rfl, HBw.out⟩
end Ms
end Go.Proofs.YtcelekfokbdmfaaGreatDoor
