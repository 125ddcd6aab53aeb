/-
  The queue of pairs: Pop of one that waits.
-/
import Derived.Test.YtiecfidkoficnaaQPr2
set_option maxRecDepth 100000
set_option linter.unusedVariables false
set_option linter.unusedSimpArgs false
namespace Go.Proofs.Ytiecfidkoficnaa
open Go.RowKit
namespace Rg

theorem But.setNew {bs : List Nat} {a w : World} (h : But bs a w) {p : Addr} (hp : a.heap.size ≤ p.block) (u : Value) : But bs a (w.setCell p u) := by
  have k : But [p.block] w (w.setCell p u) := (But.refl _ w).setCell (by simp) u
  exact ⟨k.os.trans h.os, k.tape.trans h.tape, k.output.trans h.output, Nat.le_trans h.size k.size, fun i hi hn => (k.block i (Nat.lt_of_lt_of_le hi h.size) (by simp; omega)).trans (h.block i hi hn)⟩

set_option maxHeartbeats 8000000 in
theorem qPop_P {w : World} {p : Option Addr} {bs : List Nat} {cap : Nat} {rest : List (List Value)} (x : Int) (y : ByteArray) (HQ : QP w 68 2 102 p bs cap ([.int .i64 x, .string y] :: rest)) : Calls Try.prog 30 #[.pointer p] w fun e w' => e = .returned (.tuple #[.agg #[.int .i64 x, .string y], .int .i64 0]) ∧ QP w' 68 2 102 p bs cap rest ∧ But bs w w' := by
  have HB0 : Hid (Below w.heap.size w (w.alloc (.cells #[.int .i64 0, .string ⟨#[]⟩] 68))) := (Below.refl _ w).alloc (Nat.le_refl _) _
  have HH0 : Hid (Calls Try.prog 53 #[.pointer p] (w.alloc (.cells #[.int .i64 0, .string ⟨#[]⟩] 68)) fun e w' => e = .returned (.tuple #[.agg #[.int .i64 x, .string y], .bool true]) ∧ Below (w.alloc (.cells #[.int .i64 0, .string ⟨#[]⟩] 68)).heap.size (w.alloc (.cells #[.int .i64 0, .string ⟨#[]⟩] 68)) w') := qFirst_P (HQ.below HB0.out) x y rfl
  have HR0 : Hid ((w.alloc (.cells #[.int .i64 0, .string ⟨#[]⟩] 68)).heap[w.heap.size]? = some (.cells #[.int .i64 0, .string ⟨#[]⟩] 68 (0, 0))) := heap_alloc_new _ _
  rcases HQ with ⟨rfl, _, _, e⟩ | ⟨qp, sv, head, n, cs, rfl, hbs, H, hxs⟩
  · cases e
  have HBS : Hid (bs = qp :: sv.ownBlock.toList) := hbs
  have HXS : Hid ([.int .i64 x, .string y] :: rest = wait cap head (rest.length + 1) 2 cs) := hxs
  have HN0 : 0 < n := by have := H.hc; simp at this; omega
  obtain ⟨g, c, rfl⟩ : ∃ g c, sv = .slice (some ⟨g, 0, none⟩) n c := by
    rcases H.own.2 with ⟨_, e⟩ | ⟨g, c, _, e, _⟩
    · omega
    · exact ⟨g, c, e⟩
  have hmn : n ≤ c := by
    rcases H.own.2 with ⟨e, _⟩ | ⟨g', c', _, e, _, _, h, _⟩
    · cases e
    · injection e with _ _ e3
      omega
  have hp : head < n := by
    have := H.pl_lt (i := 0) (by simp)
    have h3 := H.hh
    unfold pl at this
    split at this <;> omega
  have HH : Hid (IsQ w 68 2 102 qp (.slice (some ⟨g, 0, none⟩) n c) cap head (rest.length + 1) n cs) := H
  have hcap := H.cap2
  have hn := H.hn
  have hle : rest.length + 1 ≤ n := H.hc
  have hgq : g ≠ qp := H.sep g rfl
  have hqr : qp < w.heap.size := (Array.getElem?_eq_some_iff.1 H.str).1
  have hcl : cs.length = n * 2 := H.own.1
  have hgr : g < w.heap.size := by
    have hc : w.cell? ⟨g, 0, none⟩ = some cs[0] := by
      rw [H.own.cellAt 0 (by omega)]
      exact List.getElem?_eq_getElem (by omega)
    exact World.block_lt_of_cell? w _ hc
  clear H hxs hbs
  have hp' : ((head : Nat) : Int) < ((n : Nat) : Int) := by omega
  go_enter Try.func30, Try.ntmps30
  go_wp2_with fail
  refine HH0.out.mono ?_
  rintro e w1 ⟨rfl, hb⟩
  obtain ⟨wb, hwb⟩ : ∃ wb, wb = (w1.alloc (.cells #[.int .i64 x, .string y] 68)).alloc (.cells #[.int .i64 0, .string ⟨#[]⟩] 68) := ⟨_, rfl⟩
  have hbt : But [] w1 wb := by rw [hwb]; exact ((But.refl [] w1).alloc _).alloc _
  have HBb : Hid (Below w.heap.size w wb) := bel_trans (bel_trans HB0.out hb) hbt.to_below
  have H1 : Hid (IsQ wb 68 2 102 qp (.slice (some ⟨g, 0, none⟩) n c) cap head (rest.length + 1) n cs) := HH.out.below HBb.out
  have HRb : Hid (wb.heap[w.heap.size]? = some (.cells #[.int .i64 0, .string ⟨#[]⟩] 68 (0, 0))) := hbt.heap ((But.of_below hb).heap HR0.out (fun e => by cases e)) (fun e => by cases e)
  have HVb : Hid (wb.heap[w1.heap.size]? = some (.cells #[.int .i64 x, .string y] 68 (0, 0))) := (by rw [hwb]; exact ((But.refl [] _).alloc _).heap (heap_alloc_new _ _) (fun e => by cases e) : wb.heap[w1.heap.size]? = _)
  have HNb : Hid (wb.heap[w1.heap.size + 1]? = some (.cells #[.int .i64 0, .string ⟨#[]⟩] 68 (0, 0))) := (by
    rw [hwb, show w1.heap.size + 1 = (w1.alloc (.cells #[.int .i64 x, .string y] 68)).heap.size by simp]
    exact heap_alloc_new _ _ : wb.heap[w1.heap.size + 1]? = _)
  have hlt : w.heap.size < w1.heap.size := (Array.getElem?_eq_some_iff.1 ((But.of_below hb).heap HR0.out (fun e => by cases e))).1
  clear hb hbt
  obtain ⟨c0, c1, c2, c3, cf⟩ := row4q H1.out.str
  obtain ⟨n0, n1, nf⟩ := row2q HNb.out
  have f0 := H1.out.own.frozenAt (head * 2)
  have f1 := H1.out.own.frozenAt (head * 2 + 1)
  obtain ⟨u, hu⟩ : ∃ u, wb.cell? ⟨g, head * 2, none⟩ = some u := by
    rw [H1.out.own.cellAt (head * 2) (by omega)]
    exact ⟨_, List.getElem?_eq_getElem (by omega)⟩
  obtain ⟨v, hv⟩ : ∃ v, wb.cell? ⟨g, head * 2 + 1, none⟩ = some v := by
    rw [H1.out.own.cellAt (head * 2 + 1) (by omega)]
    exact ⟨_, List.getElem?_eq_getElem (by omega)⟩
  go_wp2_with fail
  rw [← hwb]
  clear hwb
  have hg1 : ¬ w1.heap.size = g := by omega
  have hg2 : ¬ w1.heap.size + 1 = g := by omega
  have hg3 : ¬ g = w1.heap.size + 1 := by omega
  generalize hvb : w1.heap.size = vb at *
  generalize hrb : w.heap.size = rb at *
  have HRB : Hid (w.heap.size = rb) := hrb
  clear hvb hrb HB0 HR0 HH0
  obtain ⟨w2, hw2⟩ : ∃ w2, w2 = ((wb.setCell ⟨g, head * 2, none⟩ (.int .i64 0)).setCell ⟨g, head * 2 + 1, none⟩ (.string ⟨#[]⟩)).drew := ⟨_, rfl⟩
  have B2 : Hid (But [g] wb w2) := (by rw [hw2]; exact (((But.refl _ wb).setCell (by simp) _).setCell (by simp) _).drew : But [g] wb w2)
  have H2 : Hid (IsQ w2 68 2 102 qp (.slice (some ⟨g, 0, none⟩) n c) cap head (rest.length + 1) n ((cs.set (head * 2) (.int .i64 0)).set (head * 2 + 1) (.string ⟨#[]⟩))) := ⟨B2.out.heap H1.out.str (by simpa using fun e => hgq e.symm), (by rw [hw2]; exact ((H1.out.own.stored (head * 2) _).1.stored (head * 2 + 1) _).1), H1.out.sep, H1.out.cap1, H1.out.cap2, H1.out.hn, H1.out.hc, H1.out.hh, H1.out.grow⟩
  go_region
  all_goals
    go_wp2_with fail
    rw [← hw2]
    clear hw2 c0 c1 c2 c3 cf f0 f1 hu hv n0 n1 nf
    refine (qPlace_P H2.out 1 (by omega)).mono ?_
    rintro e w3 ⟨rfl, hb3⟩
    have H3 : Hid (IsQ w3 68 2 102 qp (.slice (some ⟨g, 0, none⟩) n c) cap head (rest.length + 1) n ((cs.set (head * 2) (.int .i64 0)).set (head * 2 + 1) (.string ⟨#[]⟩))) := H2.out.below hb3
    have Bb3 : Hid (But [g] wb w3) := B2.out.trans (But.of_below hb3).nil
    have hrg : rb ∉ [g] := by simp; omega
    have hvg : vb ∉ [g] := by simp; omega
    obtain ⟨j0, j1, jf⟩ := row2q (Bb3.out.heap HRb.out hrg)
    obtain ⟨v0, v1, vf⟩ := row2q (Bb3.out.heap HVb.out hvg)
    clear hb3
    obtain ⟨h5, hh5⟩ : ∃ h5, h5 = pl cap head 1 := ⟨_, rfl⟩
    rw [← hh5]
    have HH5 : Hid (h5 = pl cap head 1) := hh5
    clear hh5
    obtain ⟨c0, c1, c2, c3, cf⟩ := row4q H3.out.str
    have z1 := heap_setCell_same w3 qp 2 _ _ (.int .i64 (h5 : Int)) H3.out.str
    have z2 := heap_setCell_same _ qp 3 _ _ (.int .i64 (rest.length : Int)) z1
    have Z2 : Hid (_ = _) := z2
    have BT : Hid (But [qp] w3 ((w3.setCell ⟨qp, 2, none⟩ (.int .i64 (h5 : Int))).setCell ⟨qp, 3, none⟩ (.int .i64 (rest.length : Int)))) := ((But.refl _ w3).setCell (by simp) _).setCell (by simp) _
    clear z1 z2
    have x1 : ¬ qp = rb := by omega
    have x2 : ¬ rb = qp := by omega
    have x3 : ¬ qp = vb := by omega
    have x4 : ¬ vb = qp := by omega
    have x5 : ¬ rb = vb := by omega
    have x6 : ¬ vb = rb := by omega
    go_wp2
    refine bodyPost_ret (v := .tuple #[.agg #[.int .i64 x, .string y], .int .i64 0]) (by simp [results, Try.results30, go_sem, *]) rfl ⟨rfl, ?_, ?_⟩
    · have k1 := H3.out.hh
      have k2 := H3.out.cap1
      have k3 := H3.out.grow
      have hr : rest = wait cap h5 rest.length 2 ((cs.set (head * 2) (.int .i64 0)).set (head * 2 + 1) (.string ⟨#[]⟩)) := by
        have := congrArg List.tail HXS.out
        rw [wait_pop2 (u := .int .i64 0) (v := .string ⟨#[]⟩) k1 (by omega)] at this
        rw [HH5.out]
        exact this
      have BR : But [rb] ((w3.setCell ⟨qp, 2, none⟩ (.int .i64 (h5 : Int))).setCell ⟨qp, 3, none⟩ (.int .i64 (rest.length : Int))) ((((w3.setCell ⟨qp, 2, none⟩ (.int .i64 (h5 : Int))).setCell ⟨qp, 3, none⟩ (.int .i64 (rest.length : Int))).setCell ⟨rb, 0, none⟩ (.int .i64 x)).setCell ⟨rb, 1, none⟩ (.string y)) := ((But.refl _ _).setCell (by simp) _).setCell (by simp) _
      refine .inr ⟨qp, .slice (some ⟨g, 0, none⟩) n c, h5, n, _, rfl, HBS.out, ⟨BR.heap Z2.out (by simp; omega), BR.owns (BT.out.owns H3.out.own (fun y hy => by have := H3.out.sep y hy; simpa using this)) (fun y hy => by
        have e : g = y := by simpa [Value.ownBlock] using hy
        simp
        omega), H3.out.sep, k2, H3.out.cap2, H3.out.hn, by omega, ?_, ?_⟩, hr⟩
      · rw [HH5.out]
        exact pl_lt cap head 1 k1 k2
      · intro hlt'
        have := k3 hlt'
        rw [HH5.out]
        unfold pl
        split <;> omega
    · rw [HBS.out]
      have hb0 : But [] w wb := ⟨HBb.out.os, HBb.out.tape, HBb.out.output, HBb.out.size, fun k hk _ => HBb.out.block k (by have := HRB.out; omega)⟩
      have b1 : But (qp :: (Value.slice (some ⟨g, 0, none⟩) n c).ownBlock.toList) w w3 := hb0.nil.trans (Bb3.out.mono (by simp [Value.ownBlock]))
      have b2 : But (qp :: (Value.slice (some ⟨g, 0, none⟩) n c).ownBlock.toList) w ((w3.setCell ⟨qp, 2, none⟩ (.int .i64 (h5 : Int))).setCell ⟨qp, 3, none⟩ (.int .i64 (rest.length : Int))) := b1.trans (BT.out.mono (by simp))
      exact (b2.setNew (p := ⟨rb, 0, none⟩) (by have := HRB.out; show w.heap.size ≤ rb; omega) _).setNew (p := ⟨rb, 1, none⟩) (by have := HRB.out; show w.heap.size ≤ rb; omega) _

end Rg
end Go.Proofs.Ytiecfidkoficnaa
