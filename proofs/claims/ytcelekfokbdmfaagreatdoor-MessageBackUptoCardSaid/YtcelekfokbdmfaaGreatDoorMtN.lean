import Derived.Test.YtcelekfokbdmfaaGreatDoorMgF1
import Derived.Deep.Cut
import Derived.Deep.CutRange
set_option linter.unusedVariables false
set_option linter.unusedSimpArgs false
set_option maxRecDepth 100000
namespace Go.Proofs.YtcelekfokbdmfaaGreatDoor
open Go.RowKit Go.Shelf
namespace Ms
open Oc Tg _root_.Go.Proofs.YtcelekfokbdmfaaGreatDoor.Fd _root_.Go.Proofs.YtcelekfokbdmfaaGreatDoor.Ck
theorem blk_drew {T D : Nat} {w : World} {cs : List Value} (h : Blk T w D cs) : Blk T w.drew D cs := h
theorem blk_set4 {T D : Nat} {w : World} {a0 a1 a2 a3 : Value} (h : Blk T w D [a0, a1, a2, a3]) (b0 b1 b2 b3 : Value) : Blk T ((((w.setCell ⟨D, 0, none⟩ b0).setCell ⟨D, 1, none⟩ b1).setCell ⟨D, 2, none⟩ b2).setCell ⟨D, 3, none⟩ b3) D [b0, b1, b2, b3] := ((((h.set 0 b0).set 1 b1).set 2 b2).set 3 b3)
theorem but_set4 (w : World) (D : Nat) (b0 b1 b2 b3 : Value) : But [D] w ((((w.setCell ⟨D, 0, none⟩ b0).setCell ⟨D, 1, none⟩ b1).setCell ⟨D, 2, none⟩ b2).setCell ⟨D, 3, none⟩ b3) := (setD (setD (setD (setD (But.refl [D] w) 0 b0) 1 b1) 2 b2) 3 b3)
theorem own_set4 {T B SZ N D : Nat} {v : Value} {xs : List Value} {w : World} (h : w.ownsRow B T SZ v N xs) (hD : D < B) (b0 b1 b2 b3 : Value) : World.ownsRow ((((w.setCell ⟨D, 0, none⟩ b0).setCell ⟨D, 1, none⟩ b1).setCell ⟨D, 2, none⟩ b2).setCell ⟨D, 3, none⟩ b3) B T SZ v N xs := (own_low (own_low (own_low (own_low h (p := ⟨D, 0, none⟩) hD b0) (p := ⟨D, 1, none⟩) hD b1) (p := ⟨D, 2, none⟩) hD b2) (p := ⟨D, 3, none⟩) hD b3)
theorem bel_set4 {B D : Nat} {a w : World} (h : Below B a w) (hD : B ≤ D) (b0 b1 b2 b3 : Value) : Below B a ((((w.setCell ⟨D, 0, none⟩ b0).setCell ⟨D, 1, none⟩ b1).setCell ⟨D, 2, none⟩ b2).setCell ⟨D, 3, none⟩ b3) := (Below.setCell (Below.setCell (Below.setCell (Below.setCell h (p := ⟨D, 0, none⟩) hD b0) (p := ⟨D, 1, none⟩) hD b1) (p := ⟨D, 2, none⟩) hD b2) (p := ⟨D, 3, none⟩) hD b3)
theorem blk_set6 {T D : Nat} {w : World} {a0 a1 a2 a3 a4 a5 : Value} (h : Blk T w D [a0, a1, a2, a3, a4, a5]) (b0 b1 b2 b3 b4 b5 : Value) : Blk T ((((((w.setCell ⟨D, 0, none⟩ b0).setCell ⟨D, 1, none⟩ b1).setCell ⟨D, 2, none⟩ b2).setCell ⟨D, 3, none⟩ b3).setCell ⟨D, 4, none⟩ b4).setCell ⟨D, 5, none⟩ b5) D [b0, b1, b2, b3, b4, b5] := ((((((h.set 0 b0).set 1 b1).set 2 b2).set 3 b3).set 4 b4).set 5 b5)
theorem but_set6 (w : World) (D : Nat) (b0 b1 b2 b3 b4 b5 : Value) : But [D] w ((((((w.setCell ⟨D, 0, none⟩ b0).setCell ⟨D, 1, none⟩ b1).setCell ⟨D, 2, none⟩ b2).setCell ⟨D, 3, none⟩ b3).setCell ⟨D, 4, none⟩ b4).setCell ⟨D, 5, none⟩ b5) := (setD (setD (setD (setD (setD (setD (But.refl [D] w) 0 b0) 1 b1) 2 b2) 3 b3) 4 b4) 5 b5)
theorem own_set6 {T B SZ N D : Nat} {v : Value} {xs : List Value} {w : World} (h : w.ownsRow B T SZ v N xs) (hD : D < B) (b0 b1 b2 b3 b4 b5 : Value) : World.ownsRow ((((((w.setCell ⟨D, 0, none⟩ b0).setCell ⟨D, 1, none⟩ b1).setCell ⟨D, 2, none⟩ b2).setCell ⟨D, 3, none⟩ b3).setCell ⟨D, 4, none⟩ b4).setCell ⟨D, 5, none⟩ b5) B T SZ v N xs := (own_low (own_low (own_low (own_low (own_low (own_low h (p := ⟨D, 0, none⟩) hD b0) (p := ⟨D, 1, none⟩) hD b1) (p := ⟨D, 2, none⟩) hD b2) (p := ⟨D, 3, none⟩) hD b3) (p := ⟨D, 4, none⟩) hD b4) (p := ⟨D, 5, none⟩) hD b5)
theorem bel_set6 {B D : Nat} {a w : World} (h : Below B a w) (hD : B ≤ D) (b0 b1 b2 b3 b4 b5 : Value) : Below B a ((((((w.setCell ⟨D, 0, none⟩ b0).setCell ⟨D, 1, none⟩ b1).setCell ⟨D, 2, none⟩ b2).setCell ⟨D, 3, none⟩ b3).setCell ⟨D, 4, none⟩ b4).setCell ⟨D, 5, none⟩ b5) := (Below.setCell (Below.setCell (Below.setCell (Below.setCell (Below.setCell (Below.setCell h (p := ⟨D, 0, none⟩) hD b0) (p := ⟨D, 1, none⟩) hD b1) (p := ⟨D, 2, none⟩) hD b2) (p := ⟨D, 3, none⟩) hD b3) (p := ⟨D, 4, none⟩) hD b4) (p := ⟨D, 5, none⟩) hD b5)
theorem own_drew {T B S n : Nat} {v : Value} {xs : List Value} {w : World} (h : w.ownsRow B T S v n xs) : w.drew.ownsRow B T S v n xs := h
def CopR (r : Rs) (m : Mn) (RS BD ME : ByteArray) (w : World) (av : Option Addr) (cv : Nat) (wx : World) : Prop :=
  ∃ a4 c4 a5 c5, Blk 24 wx w.heap.size [.int .i64 r.st, .string RS, .slice av r.fs.length cv, .string BD] ∧ Blk 27 wx (w.heap.size + 1) [.string ME, .bool m.cl, .bool m.old, .bool m.ch, .slice a5 m.sz.length c5, .slice a4 m.tr.length c4] ∧ Blk 24 wx (w.heap.size + 2) [.int .i64 0, .string ⟨#[]⟩, .slice none 0 0, .string ⟨#[]⟩] ∧ Blk 27 wx (w.heap.size + 3) [.string ⟨#[]⟩, .bool false, .bool false, .bool false, .slice none 0 0, .slice none 0 0] ∧ OwnF 63 (w.heap.size + 4) (.slice a4 m.tr.length c4) m.tr wx ∧ OwnI (w.heap.size + 4) (.slice a5 m.sz.length c5) m.sz wx ∧ OwnF 63 (w.heap.size + 4) (.slice av r.fs.length cv) r.fs wx ∧ Below w.heap.size w wx
theorem cop_mk (r : Rs) (m : Mn) (RS BD ME : ByteArray) (w : World) (av : Option Addr) (cv : Nat) (sa ta a4 a5 : Option Addr) (cs ct c4 c5 : Nat) (X : World)
    (hA : Blk 24 X w.heap.size [.int .i64 r.st, .string RS, .slice av r.fs.length cv, .string BD]) (hM : Blk 27 X (w.heap.size + 1) [.string ME, .bool m.cl, .bool m.old, .bool m.ch, .slice sa m.sz.length cs, .slice ta m.tr.length ct]) (hC : Blk 24 X (w.heap.size + 2) [.int .i64 0, .string ⟨#[]⟩, .slice none 0 0, .string ⟨#[]⟩]) (hD : Blk 27 X (w.heap.size + 3) [.string ⟨#[]⟩, .bool false, .bool false, .bool false, .slice none 0 0, .slice none 0 0])
    (B : Nat) (hB : w.heap.size + 4 ≤ B) (o4 : OwnF 63 B (.slice a4 m.tr.length c4) m.tr X) (o5 : OwnI B (.slice a5 m.sz.length c5) m.sz X) (o1 : OwnF 63 (w.heap.size + 4) (.slice av r.fs.length cv) r.fs X) (hb : Below w.heap.size w X) :
    CopR r m RS BD ME w av cv ((X.setCell ⟨w.heap.size + 1, 4, none⟩ (.slice a5 m.sz.length c5)).setCell ⟨w.heap.size + 1, 5, none⟩ (.slice a4 m.tr.length c4)) ∧ CopR r m RS BD ME w av cv ((X.setCell ⟨w.heap.size + 1, 5, none⟩ (.slice a4 m.tr.length c4)).setCell ⟨w.heap.size + 1, 4, none⟩ (.slice a5 m.sz.length c5)) := by
  have hl : ∀ (i : Nat), (⟨w.heap.size + 1, i, none⟩ : Addr).block < w.heap.size + 4 := fun i => (by show w.heap.size + 1 < _; omega)
  have hg : ∀ (i : Nat), w.heap.size ≤ (⟨w.heap.size + 1, i, none⟩ : Addr).block := fun i => (by show _ ≤ w.heap.size + 1; omega)
  have k : ∀ (X : World) (i : Nat) (v : Value), But [w.heap.size + 1] X (X.setCell ⟨w.heap.size + 1, i, none⟩ v) := fun X i v => setD (But.refl _ _) _ _
  have p4 : OwnF 63 (w.heap.size + 4) (.slice a4 m.tr.length c4) m.tr X := own_up o4 hB
  have p5 : OwnI (w.heap.size + 4) (.slice a5 m.sz.length c5) m.sz X := own_up o5 hB
  constructor
  · exact ⟨a4, c4, a5, c5, ((hA.but (k _ _ _) (by simp)).but (k _ _ _) (by simp)), (hM.set 4 _).set 5 _, ((hC.but (k _ _ _) (by simp)).but (k _ _ _) (by simp)), ((hD.but (k _ _ _) (by simp)).but (k _ _ _) (by simp)), own_low (own_low p4 (hl _) _) (hl _) _, own_low (own_low p5 (hl _) _) (hl _) _, own_low (own_low o1 (hl _) _) (hl _) _, (hb.setCell (hg _) _).setCell (hg _) _⟩
  · exact ⟨a4, c4, a5, c5, ((hA.but (k _ _ _) (by simp)).but (k _ _ _) (by simp)), (hM.set 5 _).set 4 _, ((hC.but (k _ _ _) (by simp)).but (k _ _ _) (by simp)), ((hD.but (k _ _ _) (by simp)).but (k _ _ _) (by simp)), own_low (own_low p4 (hl _) _) (hl _) _, own_low (own_low p5 (hl _) _) (hl _) _, own_low (own_low o1 (hl _) _) (hl _) _, (hb.setCell (hg _) _).setCell (hg _) _⟩
set_option maxHeartbeats 8000000 in
theorem copied12_any (r : Rs) (m : Mn) (vf vs vt : Value) (w : World) (hf : InF vf r.fs w) (hs : RdI w vs m.sz) (hn : NilI vs m.sz) (ht : InF vt m.tr w) (hfl : r.fs.length ≤ 16777216) (hsl : m.sz.length ≤ 16777216) (htl : m.tr.length ≤ 16777216) :
    Calls Tryz.prog 9 #[.agg #[.int .i64 r.st, .string (str r.rs), vf, .string (str r.bd)], .agg #[.string (str m.me), .bool m.cl, .bool m.old, .bool m.ch, vs, vt]] w fun e w' => ∃ uf us ut, e = .returned (.tuple #[.agg #[.int .i64 r.st, .string (str r.rs), uf, .string (str r.bd)], .agg #[.string (str m.me), .bool m.cl, .bool m.old, .bool m.ch, us, ut]]) ∧ OwnF 63 w.heap.size uf r.fs w' ∧ OwnI w.heap.size us m.sz w' ∧ OwnF 63 w.heap.size ut m.tr w' ∧ Below w.heap.size w w' := by
  have HF : Hid (InF vf r.fs w) := hf
  have HT : Hid (InF vt m.tr w) := ht
  have HI : Hid (RdI w vs m.sz) := hs
  have HN : Hid (NilI vs m.sz) := hn
  obtain ⟨af, cf, rfl, _⟩ := hf.1
  obtain ⟨ta, ct, rfl, _⟩ := ht.1
  obtain ⟨sa, cs, rfl, _⟩ := id hs
  clear hf ht hs hn
  generalize str r.rs = RS at *
  generalize str r.bd = BD at *
  generalize str m.me = ME at *
  have hB := box2 24 27 w [.int .i64 r.st, .string RS, .slice af r.fs.length cf, .string BD] [.string ME, .bool m.cl, .bool m.old, .bool m.ch, .slice sa m.sz.length cs, .slice ta m.tr.length ct]
  obtain ⟨W1, hW1⟩ : ∃ W1, W1 = (w.alloc (.cells #[.int .i64 r.st, .string RS, .slice af r.fs.length cf, .string BD] 24)).alloc (.cells #[.string ME, .bool m.cl, .bool m.old, .bool m.ch, .slice sa m.sz.length cs, .slice ta m.tr.length ct] 27) := ⟨_, rfl⟩
  have hs1 : W1.heap.size = w.heap.size + 2 := by rw [hW1]; simp
  obtain ⟨W0, hW0⟩ : ∃ W0, W0 = (W1.alloc (.cells #[.int .i64 0, .string ⟨#[]⟩, .slice none 0 0, .string ⟨#[]⟩] 24)).alloc (.cells #[.string ⟨#[]⟩, .bool false, .bool false, .bool false, .slice none 0 0, .slice none 0 0] 27) := ⟨_, rfl⟩
  have hB1 : Box2 24 27 w W1 [.int .i64 r.st, .string RS, .slice af r.fs.length cf, .string BD] [.string ME, .bool m.cl, .bool m.old, .bool m.ch, .slice sa m.sz.length cs, .slice ta m.tr.length ct] := by rw [hW1]; exact hB
  have hB0 : Box2 24 27 W1 W0 [.int .i64 0, .string ⟨#[]⟩, .slice none 0 0, .string ⟨#[]⟩] [.string ⟨#[]⟩, .bool false, .bool false, .bool false, .slice none 0 0, .slice none 0 0] := by rw [hW0]; exact box2 _ _ _ _ _
  have hs0 : W0.heap.size = w.heap.size + 4 := by rw [hW0]; simp [hs1]
  rw [hW1] at hW0
  have HW0 : Hid (W0 = _) := hW0
  have HB0 : Hid (Below w.heap.size w W0) := (hB1.bel.trans (hB0.bel.mono (by omega)) : Below _ _ _)
  have HA0 : Hid (Blk 24 W0 (w.heap.size) [.int .i64 r.st, .string RS, .slice af r.fs.length cf, .string BD]) := hB1.resp.below hB0.bel
  have HA1 : Hid (Blk 27 W0 (w.heap.size + 1) [.string ME, .bool m.cl, .bool m.old, .bool m.ch, .slice sa m.sz.length cs, .slice ta m.tr.length ct]) := hB1.man.below hB0.bel
  have HA2 : Hid (Blk 24 W0 (w.heap.size + 2) [.int .i64 0, .string ⟨#[]⟩, .slice none 0 0, .string ⟨#[]⟩]) := (by have := hB0.resp; rw [hs1] at this; exact this : Blk _ _ _ _)
  have HA3 : Hid (Blk 27 W0 (w.heap.size + 3) [.string ⟨#[]⟩, .bool false, .bool false, .bool false, .slice none 0 0, .slice none 0 0]) := (by have := hB0.man; rw [hs1] at this; exact this : Blk _ _ _ _)
  have HS0 : Hid (W0.heap.size = w.heap.size + 4) := hs0
  clear hB hB1 hB0 hW0 hW1 hs0 hs1
  have HX : Hid (∀ W, Below W0.heap.size W0 W → (W.cell? ⟨w.heap.size, 0, none⟩ = some (.int .i64 r.st) ∧ W.cell? ⟨w.heap.size, 1, none⟩ = some (.string RS) ∧ W.cell? ⟨w.heap.size, 2, none⟩ = some (.slice af r.fs.length cf) ∧ W.cell? ⟨w.heap.size, 3, none⟩ = some (.string BD) ∧ W.frozen? ⟨w.heap.size, 2, none⟩ = false) ∧ (W.cell? ⟨w.heap.size + 1, 0, none⟩ = some (.string ME) ∧ W.cell? ⟨w.heap.size + 1, 1, none⟩ = some (.bool m.cl) ∧ W.cell? ⟨w.heap.size + 1, 2, none⟩ = some (.bool m.old) ∧ W.cell? ⟨w.heap.size + 1, 3, none⟩ = some (.bool m.ch) ∧ W.cell? ⟨w.heap.size + 1, 4, none⟩ = some (.slice sa m.sz.length cs) ∧ W.cell? ⟨w.heap.size + 1, 5, none⟩ = some (.slice ta m.tr.length ct) ∧ W.frozen? ⟨w.heap.size + 1, 4, none⟩ = false ∧ W.frozen? ⟨w.heap.size + 1, 5, none⟩ = false) ∧ (W.cell? ⟨w.heap.size + 2, 0, none⟩ = some (.int .i64 0) ∧ W.cell? ⟨w.heap.size + 2, 1, none⟩ = some (.string ⟨#[]⟩) ∧ W.cell? ⟨w.heap.size + 2, 2, none⟩ = some (.slice none 0 0) ∧ W.cell? ⟨w.heap.size + 2, 3, none⟩ = some (.string ⟨#[]⟩) ∧ W.frozen? ⟨w.heap.size + 2, 0, none⟩ = false ∧ W.frozen? ⟨w.heap.size + 2, 1, none⟩ = false ∧ W.frozen? ⟨w.heap.size + 2, 2, none⟩ = false ∧ W.frozen? ⟨w.heap.size + 2, 3, none⟩ = false) ∧ (W.cell? ⟨w.heap.size + 3, 0, none⟩ = some (.string ⟨#[]⟩) ∧ W.cell? ⟨w.heap.size + 3, 1, none⟩ = some (.bool false) ∧ W.cell? ⟨w.heap.size + 3, 2, none⟩ = some (.bool false) ∧ W.cell? ⟨w.heap.size + 3, 3, none⟩ = some (.bool false) ∧ W.cell? ⟨w.heap.size + 3, 4, none⟩ = some (.slice none 0 0) ∧ W.cell? ⟨w.heap.size + 3, 5, none⟩ = some (.slice none 0 0) ∧ W.frozen? ⟨w.heap.size + 3, 0, none⟩ = false ∧ W.frozen? ⟨w.heap.size + 3, 1, none⟩ = false ∧ W.frozen? ⟨w.heap.size + 3, 2, none⟩ = false ∧ W.frozen? ⟨w.heap.size + 3, 3, none⟩ = false ∧ W.frozen? ⟨w.heap.size + 3, 4, none⟩ = false ∧ W.frozen? ⟨w.heap.size + 3, 5, none⟩ = false)) := fun W hW => by
    have h1 := HA0.out.below hW
    have h2 := HA1.out.below hW
    have h3 := HA2.out.below hW
    have h4 := HA3.out.below hW
    exact ⟨⟨h1.cell 0 rfl, h1.cell 1 rfl, h1.cell 2 rfl, h1.cell 3 rfl, h1.free 2⟩, ⟨h2.cell 0 rfl, h2.cell 1 rfl, h2.cell 2 rfl, h2.cell 3 rfl, h2.cell 4 rfl, h2.cell 5 rfl, h2.free 4, h2.free 5⟩, ⟨h3.cell 0 rfl, h3.cell 1 rfl, h3.cell 2 rfl, h3.cell 3 rfl, h3.free 0, h3.free 1, h3.free 2, h3.free 3⟩, h4.cell 0 rfl, h4.cell 1 rfl, h4.cell 2 rfl, h4.cell 3 rfl, h4.cell 4 rfl, h4.cell 5 rfl, h4.free 0, h4.free 1, h4.free 2, h4.free 3, h4.free 4, h4.free 5⟩
  have HBz : Hid (Below W0.heap.size W0 W0) := Below.refl _ _
  obtain ⟨⟨pa0, pa1, pa2, pa3, pa4⟩, ⟨pb0, pb1, pb2, pb3, pb4, pb5, pb6, pb7⟩, ⟨pc0, pc1, pc2, pc3, pc4, pc5, pc6, pc7⟩, ⟨pd0, pd1, pd2, pd3, pd4, pd5, pd6, pd7, pd8, pd9, pd10, pd11⟩⟩ := HX.out _ HBz.out
  go_enter Tryz.func9, Tryz.ntmps9
  go_wp2_with fail
  rw [← HW0.out]
  refine (fields12_any _ r.fs _ (HF.out.below HB0.out) hfl).mono ?_
  rintro e w1 ⟨v1, rfl, ho1, hb1⟩
  obtain ⟨av, cv, rfl⟩ := ownF_form ho1
  have HO1 : Hid (OwnF 63 W0.heap.size (.slice av r.fs.length cv) r.fs w1) := ho1
  have HB1 : Hid (Below W0.heap.size W0 w1) := hb1
  clear ho1 hb1 pa0 pa1 pa2 pa3 pa4 pb0 pb1 pb2 pb3 pb4 pb5 pb6 pb7 pc0 pc1 pc2 pc3 pc4 pc5 pc6 pc7 pd0 pd1 pd2 pd3 pd4 pd5 pd6 pd7 pd8 pd9 pd10 pd11 HW0
  obtain ⟨⟨pa0, pa1, pa2, pa3, pa4⟩, ⟨pb0, pb1, pb2, pb3, pb4, pb5, pb6, pb7⟩, ⟨pc0, pc1, pc2, pc3, pc4, pc5, pc6, pc7⟩, ⟨pd0, pd1, pd2, pd3, pd4, pd5, pd6, pd7, pd8, pd9, pd10, pd11⟩⟩ := HX.out _ HB1.out
  obtain ⟨w2, hw2⟩ : ∃ w2, w2 = w1.setCell ⟨w.heap.size, 2, none⟩ (.slice av r.fs.length cv) := ⟨_, rfl⟩
  have HS2 : Hid (w2.heap.size = w1.heap.size ∧ w.heap.size + 4 ≤ w2.heap.size) := (by
    have e : w2.heap.size = w1.heap.size := by rw [hw2]; simp [World.setCell]
    have := HB1.out.size
    have := HS0.out
    exact ⟨e, by omega⟩ : _ ∧ _)
  have HO2 : Hid (OwnF 63 W0.heap.size (.slice av r.fs.length cv) r.fs w2) := (by rw [hw2]; exact own_low HO1.out (by have := HS0.out; show _ < _; simp; omega) _ : OwnF _ _ _ _ _)
  have HC2 : Hid (Below w.heap.size w w2) := (by rw [hw2]; exact (HB0.out.trans (HB1.out.mono HB0.out.size)).setCell (Nat.le_refl _) _ : Below _ _ _)
  have HY2 : Hid ((Blk 24 w2 (w.heap.size) [.int .i64 r.st, .string RS, .slice av r.fs.length cv, .string BD] ∧ Blk 27 w2 (w.heap.size + 1) [.string ME, .bool m.cl, .bool m.old, .bool m.ch, .slice sa m.sz.length cs, .slice ta m.tr.length ct]) ∧ Blk 24 w2 (w.heap.size + 2) [.int .i64 0, .string ⟨#[]⟩, .slice none 0 0, .string ⟨#[]⟩] ∧ Blk 27 w2 (w.heap.size + 3) [.string ⟨#[]⟩, .bool false, .bool false, .bool false, .slice none 0 0, .slice none 0 0]) := (by
    rw [hw2]
    have hb : But [w.heap.size] w1 (w1.setCell ⟨w.heap.size, 2, none⟩ (.slice av r.fs.length cv)) := setD (But.refl _ _) _ _
    exact ⟨⟨(HA0.out.below HB1.out).set 2 _, (HA1.out.below HB1.out).but hb (by simp)⟩, (HA2.out.below HB1.out).but hb (by simp), (HA3.out.below HB1.out).but hb (by simp)⟩ : (_ ∧ _) ∧ _ ∧ _)
  go_wp2_with fail
  rw [← hw2]
  have HW2 : Hid (w2 = _) := hw2
  clear hw2 pa0 pa1 pa2 pa3 pa4 pb0 pb1 pb2 pb3 pb4 pb5 pb6 pb7 pc0 pc1 pc2 pc3 pc4 pc5 pc6 pc7 pd0 pd1 pd2 pd3 pd4 pd5 pd6 pd7 pd8 pd9 pd10 pd11 HX HBz
  have HX : Hid (∀ W, Below w2.heap.size w2 W → (W.cell? ⟨w.heap.size, 0, none⟩ = some (.int .i64 r.st) ∧ W.cell? ⟨w.heap.size, 1, none⟩ = some (.string RS) ∧ W.cell? ⟨w.heap.size, 2, none⟩ = some (.slice av r.fs.length cv) ∧ W.cell? ⟨w.heap.size, 3, none⟩ = some (.string BD) ∧ W.frozen? ⟨w.heap.size, 2, none⟩ = false) ∧ (W.cell? ⟨w.heap.size + 1, 0, none⟩ = some (.string ME) ∧ W.cell? ⟨w.heap.size + 1, 1, none⟩ = some (.bool m.cl) ∧ W.cell? ⟨w.heap.size + 1, 2, none⟩ = some (.bool m.old) ∧ W.cell? ⟨w.heap.size + 1, 3, none⟩ = some (.bool m.ch) ∧ W.cell? ⟨w.heap.size + 1, 4, none⟩ = some (.slice sa m.sz.length cs) ∧ W.cell? ⟨w.heap.size + 1, 5, none⟩ = some (.slice ta m.tr.length ct) ∧ W.frozen? ⟨w.heap.size + 1, 4, none⟩ = false ∧ W.frozen? ⟨w.heap.size + 1, 5, none⟩ = false) ∧ (W.cell? ⟨w.heap.size + 2, 0, none⟩ = some (.int .i64 0) ∧ W.cell? ⟨w.heap.size + 2, 1, none⟩ = some (.string ⟨#[]⟩) ∧ W.cell? ⟨w.heap.size + 2, 2, none⟩ = some (.slice none 0 0) ∧ W.cell? ⟨w.heap.size + 2, 3, none⟩ = some (.string ⟨#[]⟩) ∧ W.frozen? ⟨w.heap.size + 2, 0, none⟩ = false ∧ W.frozen? ⟨w.heap.size + 2, 1, none⟩ = false ∧ W.frozen? ⟨w.heap.size + 2, 2, none⟩ = false ∧ W.frozen? ⟨w.heap.size + 2, 3, none⟩ = false) ∧ (W.cell? ⟨w.heap.size + 3, 0, none⟩ = some (.string ⟨#[]⟩) ∧ W.cell? ⟨w.heap.size + 3, 1, none⟩ = some (.bool false) ∧ W.cell? ⟨w.heap.size + 3, 2, none⟩ = some (.bool false) ∧ W.cell? ⟨w.heap.size + 3, 3, none⟩ = some (.bool false) ∧ W.cell? ⟨w.heap.size + 3, 4, none⟩ = some (.slice none 0 0) ∧ W.cell? ⟨w.heap.size + 3, 5, none⟩ = some (.slice none 0 0) ∧ W.frozen? ⟨w.heap.size + 3, 0, none⟩ = false ∧ W.frozen? ⟨w.heap.size + 3, 1, none⟩ = false ∧ W.frozen? ⟨w.heap.size + 3, 2, none⟩ = false ∧ W.frozen? ⟨w.heap.size + 3, 3, none⟩ = false ∧ W.frozen? ⟨w.heap.size + 3, 4, none⟩ = false ∧ W.frozen? ⟨w.heap.size + 3, 5, none⟩ = false)) := fun W hW => by
    have h1 := HY2.out.1.1.below hW
    have h2 := HY2.out.1.2.below hW
    have h3 := HY2.out.2.1.below hW
    have h4 := HY2.out.2.2.below hW
    exact ⟨⟨h1.cell 0 rfl, h1.cell 1 rfl, h1.cell 2 rfl, h1.cell 3 rfl, h1.free 2⟩, ⟨h2.cell 0 rfl, h2.cell 1 rfl, h2.cell 2 rfl, h2.cell 3 rfl, h2.cell 4 rfl, h2.cell 5 rfl, h2.free 4, h2.free 5⟩, ⟨h3.cell 0 rfl, h3.cell 1 rfl, h3.cell 2 rfl, h3.cell 3 rfl, h3.free 0, h3.free 1, h3.free 2, h3.free 3⟩, h4.cell 0 rfl, h4.cell 1 rfl, h4.cell 2 rfl, h4.cell 3 rfl, h4.cell 4 rfl, h4.cell 5 rfl, h4.free 0, h4.free 1, h4.free 2, h4.free 3, h4.free 4, h4.free 5⟩
  have HBz : Hid (Below w2.heap.size w2 w2) := Below.refl _ _
  have HBa : Hid (Below w2.heap.size w2 (w2.alloc (.cells #[] 3)).drew) := (HBz.out.alloc (Nat.le_refl _) _).drew
  have HGa : Hid (((w2.alloc (.cells #[] 3)).drew).heap[w2.heap.size]? = some (.cells #[] 3 (0, 0))) := heap_alloc_new w2 _
  have HIw : Hid (∀ W, Below w2.heap.size w2 W → InF (.slice ta m.tr.length ct) m.tr W ∧ RdI W (.slice sa m.sz.length cs) m.sz) := fun W hW => by
    have hb := HC2.out.trans (hW.mono HC2.out.size)
    exact ⟨HT.out.below hb, HI.out.below hb⟩
  have hlt0 : w.heap.size < w2.heap.size := by have := HS2.out.2; omega
  have hlt1 : w.heap.size + 1 < w2.heap.size := by have := HS2.out.2; omega
  obtain ⟨⟨pa0, pa1, pa2, pa3, pa4⟩, ⟨pb0, pb1, pb2, pb3, pb4, pb5, pb6, pb7⟩, ⟨pc0, pc1, pc2, pc3, pc4, pc5, pc6, pc7⟩, ⟨pd0, pd1, pd2, pd3, pd4, pd5, pd6, pd7, pd8, pd9, pd10, pd11⟩⟩ := HX.out _ HBz.out
  obtain ⟨⟨qa0, qa1, qa2, qa3, qa4⟩, ⟨qb0, qb1, qb2, qb3, qb4, qb5, qb6, qb7⟩, ⟨qc0, qc1, qc2, qc3, qc4, qc5, qc6, qc7⟩, ⟨qd0, qd1, qd2, qd3, qd4, qd5, qd6, qd7, qd8, qd9, qd10, qd11⟩⟩ := HX.out _ HBz.out.drew
  obtain ⟨⟨sa0, sa1, sa2, sa3, sa4⟩, ⟨sb0, sb1, sb2, sb3, sb4, sb5, sb6, sb7⟩, ⟨sc0, sc1, sc2, sc3, sc4, sc5, sc6, sc7⟩, ⟨sd0, sd1, sd2, sd3, sd4, sd5, sd6, sd7, sd8, sd9, sd10, sd11⟩⟩ := HX.out _ HBa.out
  have hsl2 : m.sz.length ≤ 2147483648 := by omega
  have HCop : Hid (∀ (a4 a5 : Option Addr) (c4 c5 : Nat) (X : World), Below w2.heap.size w2 X → OwnF 63 w2.heap.size (.slice a4 m.tr.length c4) m.tr X → OwnI w2.heap.size (.slice a5 m.sz.length c5) m.sz X → CopR r m RS BD ME w av cv ((X.setCell ⟨w.heap.size + 1, 4, none⟩ (.slice a5 m.sz.length c5)).setCell ⟨w.heap.size + 1, 5, none⟩ (.slice a4 m.tr.length c4)) ∧ CopR r m RS BD ME w av cv ((X.setCell ⟨w.heap.size + 1, 5, none⟩ (.slice a4 m.tr.length c4)).setCell ⟨w.heap.size + 1, 4, none⟩ (.slice a5 m.sz.length c5))) := fun a4 a5 c4 c5 X hX h4 h5 => cop_mk r m RS BD ME w av cv sa ta a4 a5 cs ct c4 c5 X (HY2.out.1.1.below hX) (HY2.out.1.2.below hX) (HY2.out.2.1.below hX) (HY2.out.2.2.below hX) w2.heap.size HS2.out.2 h4 h5 (OwnF.below (own_up HO2.out (by have := HS0.out; omega)) hX) (HC2.out.trans (hX.mono HC2.out.size))
  go_cut [] from 6 to 19 (fun wx => Hid (CopR r m RS BD ME w av cv wx))
  case first =>
    go_region_law (first
      | (go_simp; go_at_call 25; refine (fields12_any _ m.tr _ (HIw.out _ HB5.out).1 htl).mono ?_; rintro e w4 ⟨v4, rfl, ho4, hb4⟩; obtain ⟨a4, c4, rfl⟩ := ownF_form ho4; have HBn : Hid (Below w2.heap.size w2 w4) := bel_trans HB5.out hb4; have HO4 : Hid (OwnF 63 w2.heap.size (.slice a4 m.tr.length c4) m.tr w4) := own_up ho4 HB5.out.size; have HO5 : Hid (OwnI w2.heap.size (.slice a5 m.sz.length c5) m.sz w4) := OwnI.below HO5.out hb4; obtain ⟨⟨ta0, ta1, ta2, ta3, ta4⟩, ⟨tb0, tb1, tb2, tb3, tb4, tb5, tb6, tb7⟩, ⟨tc0, tc1, tc2, tc3, tc4, tc5, tc6, tc7⟩, ⟨td0, td1, td2, td3, td4, td5, td6, td7, td8, td9, td10, td11⟩⟩ := HX.out _ HBn.out; clear ho4 hb4; dsimp only)
      | (go_simp; go_at_call 25; (with_reducible refine (fields12_any _ m.tr (w2.alloc (.cells #[] 3)).drew (HIw.out _ HBa.out).1 htl).mono ?_); rintro e w4 ⟨v4, rfl, ho4, hb4⟩; obtain ⟨a4, c4, rfl⟩ := ownF_form ho4; have HB4 : Hid (Below w2.heap.size w2 w4) := bel_trans HBa.out hb4; have HO4 : Hid (OwnF 63 w2.heap.size (.slice a4 m.tr.length c4) m.tr w4) := own_up ho4 HBa.out.size; have HG4 : Hid (w4.heap[w2.heap.size]? = some (.cells #[] 3 (0, 0))) := Below.kept1 hb4 (by simp) HGa.out; have HI4 : Hid (RdI w4 (.slice sa m.sz.length cs) m.sz) := (HIw.out _ HB4.out).2; obtain ⟨⟨ta0, ta1, ta2, ta3, ta4⟩, ⟨tb0, tb1, tb2, tb3, tb4, tb5, tb6, tb7⟩, ⟨tc0, tc1, tc2, tc3, tc4, tc5, tc6, tc7⟩, ⟨td0, td1, td2, td3, td4, td5, td6, td7, td8, td9, td10, td11⟩⟩ := HX.out _ HB4.out; clear ho4 hb4; dsimp only)
      | (go_simp; go_at_call 25; (with_reducible refine (fields12_any _ m.tr w2.drew (HIw.out _ HBz.out.drew).1 htl).mono ?_); rintro e w4 ⟨v4, rfl, ho4, hb4⟩; obtain ⟨a4, c4, rfl⟩ := ownF_form ho4; have HB4 : Hid (Below w2.heap.size w2 w4) := bel_trans HBz.out.drew hb4; have HB4a : Hid (Below w2.heap.size w2 (w4.alloc (.cells #[] 3))) := HB4.out.alloc HB4.out.size _; have HO4 : Hid (OwnF 63 w2.heap.size (.slice a4 m.tr.length c4) m.tr (w4.alloc (.cells #[] 3))) := OwnF.below (own_up ho4 (Nat.le_refl _)) ((Below.refl _ w4).alloc (Nat.le_refl _) _); have HG4 : Hid ((w4.alloc (.cells #[] 3)).heap[w4.heap.size]? = some (.cells #[] 3 (0, 0))) := heap_alloc_new w4 _; have HI4 : Hid (RdI (w4.alloc (.cells #[] 3)) (.slice sa m.sz.length cs) m.sz) := (HIw.out _ HB4a.out).2; obtain ⟨⟨ta0, ta1, ta2, ta3, ta4⟩, ⟨tb0, tb1, tb2, tb3, tb4, tb5, tb6, tb7⟩, ⟨tc0, tc1, tc2, tc3, tc4, tc5, tc6, tc7⟩, ⟨td0, td1, td2, td3, td4, td5, td6, td7, td8, td9, td10, td11⟩⟩ := HX.out _ HB4.out; obtain ⟨⟨ua0, ua1, ua2, ua3, ua4⟩, ⟨ub0, ub1, ub2, ub3, ub4, ub5, ub6, ub7⟩, ⟨uc0, uc1, uc2, uc3, uc4, uc5, uc6, uc7⟩, ⟨ud0, ud1, ud2, ud3, ud4, ud5, ud6, ud7, ud8, ud9, ud10, ud11⟩⟩ := HX.out _ HB4a.out; have hlt4 : w.heap.size + 1 < w4.heap.size := Nat.lt_of_lt_of_le hlt1 HB4.out.size; clear ho4 hb4; dsimp only)
      | ((with_reducible refine at_world ((w2.alloc (.cells #[] 3)).drew) ?_); refine step_freshI rfl (.tmp 10) (.tmp 12) rfl w2.heap.size w2.heap.size (.slice sa m.sz.length cs) m.sz ((w2.alloc (.cells #[] 3)).drew) (by simp [Act.eval, Act.put]) (Nat.le_refl _) HGa.out (by simp [Act.eval, Act.put]) (HIw.out _ HBa.out).2 HN.out hsl2 ?_; intro v5 w5 HO5 hb5; obtain ⟨a5, c5, e5⟩ := HO5.out.form; subst e5; have HB5 : Hid (Below w2.heap.size w2 w5) := bel_trans HBa.out hb5.out; obtain ⟨⟨va0, va1, va2, va3, va4⟩, ⟨vb0, vb1, vb2, vb3, vb4, vb5, vb6, vb7⟩, ⟨vc0, vc1, vc2, vc3, vc4, vc5, vc6, vc7⟩, ⟨vd0, vd1, vd2, vd3, vd4, vd5, vd6, vd7, vd8, vd9, vd10, vd11⟩⟩ := HX.out _ HB5.out; clear hb5)
      | ((with_reducible refine at_world w4 ?_); refine step_freshI rfl (.tmp 10) (.tmp 12) rfl w2.heap.size w2.heap.size (.slice sa m.sz.length cs) m.sz w4 (by simp [Act.eval, Act.put]) (Nat.le_refl _) HG4.out (by simp [Act.eval, Act.put]) HI4.out HN.out hsl2 ?_; intro v5 w5 HO5 hb5; obtain ⟨a5, c5, e5⟩ := HO5.out.form; subst e5; have HBn : Hid (Below w2.heap.size w2 w5) := bel_trans HB4.out hb5.out; have HO4 : Hid (OwnF 63 w2.heap.size (.slice a4 m.tr.length c4) m.tr w5) := OwnF.below HO4.out hb5.out; obtain ⟨⟨va0, va1, va2, va3, va4⟩, ⟨vb0, vb1, vb2, vb3, vb4, vb5, vb6, vb7⟩, ⟨vc0, vc1, vc2, vc3, vc4, vc5, vc6, vc7⟩, ⟨vd0, vd1, vd2, vd3, vd4, vd5, vd6, vd7, vd8, vd9, vd10, vd11⟩⟩ := HX.out _ HBn.out; clear hb5)
      | ((with_reducible refine at_world (w4.alloc (.cells #[] 3)) ?_); refine step_freshI rfl (.tmp 10) (.tmp 12) rfl w2.heap.size w4.heap.size (.slice sa m.sz.length cs) m.sz (w4.alloc (.cells #[] 3)) (by simp [Act.eval, Act.put]) HB4.out.size HG4.out (by simp [Act.eval, Act.put]) HI4.out HN.out hsl2 ?_; intro v5 w5 HO5 hb5; obtain ⟨a5, c5, e5⟩ := HO5.out.form; subst e5; have HBn : Hid (Below w2.heap.size w2 w5) := bel_trans HB4a.out hb5.out; have HO4 : Hid (OwnF 63 w2.heap.size (.slice a4 m.tr.length c4) m.tr w5) := OwnF.below HO4.out hb5.out; obtain ⟨⟨va0, va1, va2, va3, va4⟩, ⟨vb0, vb1, vb2, vb3, vb4, vb5, vb6, vb7⟩, ⟨vc0, vc1, vc2, vc3, vc4, vc5, vc6, vc7⟩, ⟨vd0, vd1, vd2, vd3, vd4, vd5, vd6, vd7, vd8, vd9, vd10, vd11⟩⟩ := HX.out _ HBn.out; clear hb5))
    all_goals
      go_wp2_with fail
      go_meet
      exact (HCop.out _ _ _ _ _ HBn.out HO4.out HO5.out).1
  case rest =>
  obtain ⟨a4, c4, a5, c5, hA, hM, hC, hD, o4, o5, o1, hb⟩ := hcut.out
  have HA : Hid (Blk 24 wc w.heap.size [.int .i64 r.st, .string RS, .slice av r.fs.length cv, .string BD]) := hA
  have HM : Hid (Blk 27 wc (w.heap.size + 1) [.string ME, .bool m.cl, .bool m.old, .bool m.ch, .slice a5 m.sz.length c5, .slice a4 m.tr.length c4]) := hM
  have HO4 : Hid (OwnF 63 (w.heap.size + 4) (.slice a4 m.tr.length c4) m.tr wc) := o4
  have HO5 : Hid (OwnI (w.heap.size + 4) (.slice a5 m.sz.length c5) m.sz wc) := o5
  have HO1 : Hid (OwnF 63 (w.heap.size + 4) (.slice av r.fs.length cv) r.fs wc) := o1
  have HBc : Hid (Below w.heap.size w wc) := hb
  have HK : Hid (∀ W, Below (w.heap.size + 2) wc W → (W.cell? ⟨w.heap.size, 0, none⟩ = some (.int .i64 r.st) ∧ W.cell? ⟨w.heap.size, 1, none⟩ = some (.string RS) ∧ W.cell? ⟨w.heap.size, 2, none⟩ = some (.slice av r.fs.length cv) ∧ W.cell? ⟨w.heap.size, 3, none⟩ = some (.string BD)) ∧ (W.cell? ⟨w.heap.size + 1, 0, none⟩ = some (.string ME) ∧ W.cell? ⟨w.heap.size + 1, 1, none⟩ = some (.bool m.cl) ∧ W.cell? ⟨w.heap.size + 1, 2, none⟩ = some (.bool m.old) ∧ W.cell? ⟨w.heap.size + 1, 3, none⟩ = some (.bool m.ch) ∧ W.cell? ⟨w.heap.size + 1, 4, none⟩ = some (.slice a5 m.sz.length c5) ∧ W.cell? ⟨w.heap.size + 1, 5, none⟩ = some (.slice a4 m.tr.length c4)) ∧ Below (w.heap.size + 2) wc W) := fun W hW => by
    have h1 : Blk 24 W w.heap.size [.int .i64 r.st, .string RS, .slice av r.fs.length cv, .string BD] := (hW.block _ (by omega)).trans HA.out
    have h2 : Blk 27 W (w.heap.size + 1) [.string ME, .bool m.cl, .bool m.old, .bool m.ch, .slice a5 m.sz.length c5, .slice a4 m.tr.length c4] := (hW.block _ (by omega)).trans HM.out
    exact ⟨⟨h1.cell 0 rfl, h1.cell 1 rfl, h1.cell 2 rfl, h1.cell 3 rfl⟩, ⟨h2.cell 0 rfl, h2.cell 1 rfl, h2.cell 2 rfl, h2.cell 3 rfl, h2.cell 4 rfl, h2.cell 5 rfl⟩, hW⟩
  have HC : Hid (Blk 24 wc (w.heap.size + 1 + 1) [.int .i64 0, .string ⟨#[]⟩, .slice none 0 0, .string ⟨#[]⟩]) := hC
  have HD : Hid (Blk 27 wc (w.heap.size + 1 + 1 + 1) [.string ⟨#[]⟩, .bool false, .bool false, .bool false, .slice none 0 0, .slice none 0 0]) := hD
  have HBm : Hid (Below (w.heap.size + 2) wc wc) := Below.refl _ _
  have x0 := HC.out.cell 0 rfl
  have x1 := HC.out.cell 1 rfl
  have x2 := HC.out.cell 2 rfl
  have x3 := HC.out.cell 3 rfl
  have y0 := HD.out.cell 0 rfl
  have y1 := HD.out.cell 1 rfl
  have y2 := HD.out.cell 2 rfl
  have y3 := HD.out.cell 3 rfl
  have y4 := HD.out.cell 4 rfl
  have y5 := HD.out.cell 5 rfl
  have f0 := HC.out.free 0
  have f1 := HC.out.free 1
  have f2 := HC.out.free 2
  have f3 := HC.out.free 3
  have e0 := HD.out.free 0
  have e1 := HD.out.free 1
  have e2 := HD.out.free 2
  have e3 := HD.out.free 3
  have e4 := HD.out.free 4
  have e5 := HD.out.free 5
  clear hA hM hC hD o4 o5 o1 hb hcut HX HCop HBz HBa HGa HIw HY2 HC2 HO2 HS2 HW2
  have la : w.heap.size < wc.heap.size := HA.out.lt
  have lb : w.heap.size + 1 < wc.heap.size := HM.out.lt
  have za0 := HA.out.cell 0 rfl
  have za1 := HA.out.cell 1 rfl
  have za2 := HA.out.cell 2 rfl
  have za3 := HA.out.cell 3 rfl
  have zb0 := HM.out.cell 0 rfl
  have zb1 := HM.out.cell 1 rfl
  have zb2 := HM.out.cell 2 rfl
  have zb3 := HM.out.cell 3 rfl
  have zb4 := HM.out.cell 4 rfl
  have zb5 := HM.out.cell 5 rfl
  obtain ⟨WF, hWF⟩ : ∃ WF, WF = ((((((((((wc.setCell ⟨w.heap.size + 1 + 1, 0, none⟩ (.int .i64 r.st)).setCell ⟨w.heap.size + 1 + 1, 1, none⟩ (.string RS)).setCell ⟨w.heap.size + 1 + 1, 2, none⟩ (.slice av r.fs.length cv)).setCell ⟨w.heap.size + 1 + 1, 3, none⟩ (.string BD)).setCell ⟨w.heap.size + 1 + 1 + 1, 0, none⟩ (.string ME)).setCell ⟨w.heap.size + 1 + 1 + 1, 1, none⟩ (.bool m.cl)).setCell ⟨w.heap.size + 1 + 1 + 1, 2, none⟩ (.bool m.old)).setCell ⟨w.heap.size + 1 + 1 + 1, 3, none⟩ (.bool m.ch)).setCell ⟨w.heap.size + 1 + 1 + 1, 4, none⟩ (.slice a5 m.sz.length c5)).setCell ⟨w.heap.size + 1 + 1 + 1, 5, none⟩ (.slice a4 m.tr.length c4)).drew := ⟨_, rfl⟩
  obtain ⟨W4, hW4⟩ : ∃ W4, W4 = ((((wc.setCell ⟨w.heap.size + 1 + 1, 0, none⟩ (.int .i64 r.st)).setCell ⟨w.heap.size + 1 + 1, 1, none⟩ (.string RS)).setCell ⟨w.heap.size + 1 + 1, 2, none⟩ (.slice av r.fs.length cv)).setCell ⟨w.heap.size + 1 + 1, 3, none⟩ (.string BD)) := ⟨_, rfl⟩
  have hC2 : Blk 24 W4 (w.heap.size + 1 + 1) [.int .i64 r.st, .string RS, .slice av r.fs.length cv, .string BD] := by rw [hW4]; exact blk_set4 HC.out (.int .i64 r.st) (.string RS) (.slice av r.fs.length cv) (.string BD)
  have hb4 : But [w.heap.size + 1 + 1] wc W4 := by rw [hW4]; exact but_set4 wc (w.heap.size + 1 + 1) (.int .i64 r.st) (.string RS) (.slice av r.fs.length cv) (.string BD)
  have hD1 : Blk 27 W4 (w.heap.size + 1 + 1 + 1) [.string ⟨#[]⟩, .bool false, .bool false, .bool false, .slice none 0 0, .slice none 0 0] := HD.out.but hb4 (by simp)
  have hO1 : OwnF 63 (w.heap.size + 4) (.slice av r.fs.length cv) r.fs W4 := by rw [hW4]; exact own_set4 HO1.out (by omega) (.int .i64 r.st) (.string RS) (.slice av r.fs.length cv) (.string BD)
  have hO5 : OwnI (w.heap.size + 4) (.slice a5 m.sz.length c5) m.sz W4 := by rw [hW4]; exact own_set4 HO5.out (by omega) (.int .i64 r.st) (.string RS) (.slice av r.fs.length cv) (.string BD)
  have hO4 : OwnF 63 (w.heap.size + 4) (.slice a4 m.tr.length c4) m.tr W4 := by rw [hW4]; exact own_set4 HO4.out (by omega) (.int .i64 r.st) (.string RS) (.slice av r.fs.length cv) (.string BD)
  have hBl : Below w.heap.size w W4 := by rw [hW4]; exact bel_set4 HBc.out (by omega) (.int .i64 r.st) (.string RS) (.slice av r.fs.length cv) (.string BD)
  rw [← hW4] at hWF
  have HCf : Hid (Blk 24 WF (w.heap.size + 1 + 1) [.int .i64 r.st, .string RS, .slice av r.fs.length cv, .string BD]) := (by rw [hWF]; exact blk_drew (hC2.but (but_set6 W4 (w.heap.size + 1 + 1 + 1) (.string ME) (.bool m.cl) (.bool m.old) (.bool m.ch) (.slice a5 m.sz.length c5) (.slice a4 m.tr.length c4)) (by simp)) : Blk _ _ _ _)
  have HDf : Hid (Blk 27 WF (w.heap.size + 1 + 1 + 1) [.string ME, .bool m.cl, .bool m.old, .bool m.ch, .slice a5 m.sz.length c5, .slice a4 m.tr.length c4]) := (by rw [hWF]; exact blk_drew (blk_set6 hD1 (.string ME) (.bool m.cl) (.bool m.old) (.bool m.ch) (.slice a5 m.sz.length c5) (.slice a4 m.tr.length c4)) : Blk _ _ _ _)
  have HP1 : Hid (OwnF 63 (w.heap.size + 4) (.slice av r.fs.length cv) r.fs WF ∧ OwnI (w.heap.size + 4) (.slice a5 m.sz.length c5) m.sz WF ∧ OwnF 63 (w.heap.size + 4) (.slice a4 m.tr.length c4) m.tr WF ∧ Below w.heap.size w WF) := (by
    rw [hWF]
    exact ⟨own_drew (own_set6 hO1 (by omega) (.string ME) (.bool m.cl) (.bool m.old) (.bool m.ch) (.slice a5 m.sz.length c5) (.slice a4 m.tr.length c4)), own_drew (own_set6 hO5 (by omega) (.string ME) (.bool m.cl) (.bool m.old) (.bool m.ch) (.slice a5 m.sz.length c5) (.slice a4 m.tr.length c4)), own_drew (own_set6 hO4 (by omega) (.string ME) (.bool m.cl) (.bool m.old) (.bool m.ch) (.slice a5 m.sz.length c5) (.slice a4 m.tr.length c4)), (bel_set6 hBl (by omega) (.string ME) (.bool m.cl) (.bool m.old) (.bool m.ch) (.slice a5 m.sz.length c5) (.slice a4 m.tr.length c4)).drew⟩ : _ ∧ _ ∧ _ ∧ _)
  rw [hW4] at hWF
  clear hW4 hb4 hO1 hO5 hO4 hBl
  have HWF : Hid (WF = _) := hWF
  clear hWF hC2 hD1 HK HBm HO1 HO4 HO5 HBc HA HM
  go_wp2_with fail
  go_region
  rw [← HWF.out]
  have q0 := HCf.out.cell 0 rfl
  have q1 := HCf.out.cell 1 rfl
  have q2 := HCf.out.cell 2 rfl
  have q3 := HCf.out.cell 3 rfl
  have s0 := HDf.out.cell 0 rfl
  have s1 := HDf.out.cell 1 rfl
  have s2 := HDf.out.cell 2 rfl
  have s3 := HDf.out.cell 3 rfl
  have s4 := HDf.out.cell 4 rfl
  have s5 := HDf.out.cell 5 rfl
  clear x0 x1 x2 x3 y0 y1 y2 y3 y4 y5 f0 f1 f2 f3 e0 e1 e2 e3 e4 e5 za0 za1 za2 za3 zb0 zb1 zb2 zb3 zb4 zb5 HWF HC HD
  go_wp2
  refine bodyPost_ret (v := .tuple #[.agg #[.int .i64 r.st, .string RS, .slice av r.fs.length cv, .string BD], .agg #[.string ME, .bool m.cl, .bool m.old, .bool m.ch, .slice a5 m.sz.length c5, .slice a4 m.tr.length c4]]) (by simp [results, Tryz.results9, go_sem, q0, q1, q2, q3, s0, s1, s2, s3, s4, s5]) rfl ?_
  exact ⟨_, _, _, rfl, own_up HP1.out.1 (by omega), own_up HP1.out.2.1 (by omega), own_up HP1.out.2.2.1 (by omega), HP1.out.2.2.2⟩
end Ms
end Go.Proofs.YtcelekfokbdmfaaGreatDoor
