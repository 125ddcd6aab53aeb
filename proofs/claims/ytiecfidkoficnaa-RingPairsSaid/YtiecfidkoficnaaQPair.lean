/-
  The queue of pairs: At.
-/
import Derived.Test.YtiecfidkoficnaaQFull
set_option maxRecDepth 100000
set_option linter.unusedVariables false
set_option linter.unusedSimpArgs false
namespace Go.Proofs.Ytiecfidkoficnaa
open Go.RowKit
namespace Rg

theorem row2q {W : World} {b T : Nat} {x y : Value} (h : W.heap[b]? = some (.cells #[x, y] T (0, 0))) : W.cell? ⟨b, 0, none⟩ = some x ∧ W.cell? ⟨b, 1, none⟩ = some y ∧ ∀ i, W.frozen? ⟨b, i, none⟩ = false := by
  refine ⟨?_, ?_, fun i => frozen_of_row W b i _ _ h⟩ <;> rw [cell_of_row W b _ _ _ _ h] <;> rfl

set_option maxHeartbeats 4000000 in
theorem qAt_P {w : World} {p : Option Addr} {bs : List Nat} {cap : Nat} {xs : List (List Value)} (HQ : QP w 68 2 102 p bs cap xs) (i : Nat) (x : Int) (y : ByteArray) (hx : xs[i]? = some [.int .i64 x, .string y]) : Calls Try.prog 65 #[.pointer p, .int .i64 (i : Int)] w fun e w' => e = .returned (.tuple #[.agg #[.int .i64 x, .string y], .bool true]) ∧ Below w.heap.size w w' := by
  have HQ' : Hid (QP w 68 2 102 p bs cap xs) := HQ
  rcases HQ with ⟨rfl, _, _, rfl⟩ | ⟨qp, sv, head, n, cs, rfl, hbs, H, hxs⟩
  · simp at hx
  clear hbs
  rw [hxs] at hx
  obtain ⟨hi, hw⟩ := wait_get hx
  have hp := H.pl_lt hi
  obtain ⟨g, c, rfl⟩ : ∃ g c, sv = .slice (some ⟨g, 0, none⟩) n c := by
    rcases H.own.2 with ⟨_, e⟩ | ⟨g, c, _, e, _⟩
    · omega
    · exact ⟨g, c, e⟩
  obtain ⟨c0, c1, c2, c3, cf⟩ := row4q H.str
  have g0 : w.cell? ⟨g, pl cap head i * 2, none⟩ = some (.int .i64 x) := by rw [H.own.cellAt _ (by omega)]; simpa using take_drop_get hw (j := 0) (by simp)
  have g1 : w.cell? ⟨g, pl cap head i * 2 + 1, none⟩ = some (.string y) := by rw [H.own.cellAt _ (by omega)]; simpa using take_drop_get hw (j := 1) (by simp)
  have HH : Hid (IsQ w 68 2 102 qp (.slice (some ⟨g, 0, none⟩) n c) cap head xs.length n cs) := H
  have hcap := H.cap2
  have hle := H.hc
  have hn := H.hn
  have hmn : n ≤ c := by
    rcases H.own.2 with ⟨e, _⟩ | ⟨g', c', _, e, _, _, h, _⟩
    · cases e
    · injection e with _ _ e3
      omega
  have hqr : qp < w.heap.size := (Array.getElem?_eq_some_iff.1 H.str).1
  have hgr : g < w.heap.size := World.block_lt_of_cell? w _ g0
  clear H hx hxs hw
  obtain ⟨P, hP⟩ : ∃ P, P = pl cap head i := ⟨_, rfl⟩
  rw [← hP] at hp g0 g1
  have HPP : Hid (pl cap head i = P) := hP.symm
  clear hP
  obtain ⟨rb, hrb⟩ : ∃ rb, rb = w.heap.size := ⟨_, rfl⟩
  obtain ⟨w0, hw0⟩ : ∃ w0, w0 = w.alloc (.cells #[.int .i64 0, .string ⟨#[]⟩] 68) := ⟨_, rfl⟩
  have HB0 : Hid (Below w.heap.size w w0) := (by rw [hw0]; exact (Below.refl _ w).alloc (Nat.le_refl _) _ : Below w.heap.size w w0)
  have HR0 : Hid (w0.heap[rb]? = some (.cells #[.int .i64 0, .string ⟨#[]⟩] 68 (0, 0))) := (by rw [hw0, hrb]; exact heap_alloc_new _ _ : w0.heap[rb]? = _)
  have hr1 : ¬ rb = g := by omega
  have hr2 : ¬ rb = qp := by omega
  have hr3 : ¬ g = rb := by omega
  have hr4 : ¬ qp = rb := by omega
  have HRB : Hid (rb = w.heap.size) := hrb
  have hg1 : ¬ ((i : Nat) : Int) < 0 := by omega
  have hg2 : ((i : Nat) : Int) < ((xs.length : Nat) : Int) := by omega
  have hp' : ((P : Nat) : Int) < ((n : Nat) : Int) := by omega
  go_enter Try.func65, Try.ntmps65
  go_wp2_with fail
  rw [← hw0, ← hrb]
  clear hw0 hrb
  refine (qLen_P (HQ'.out.below HB0.out)).mono ?_
  rintro e w1 ⟨rfl, hb⟩
  have HB1 : Hid (Below w.heap.size w w1) := bel_trans HB0.out hb
  have HR1 : Hid (w1.heap[rb]? = some (.cells #[.int .i64 0, .string ⟨#[]⟩] 68 (0, 0))) := (But.of_below hb).heap HR0.out (fun e => by cases e)
  have k0 := (But.of_below HB1.out).cell c0 (fun e => by cases e)
  have hg0 := (But.of_below HB1.out).cell g0 (fun e => by cases e)
  have hgg1 := (But.of_below HB1.out).cell g1 (fun e => by cases e)
  clear hb c0 c1 c2 c3 cf g0 g1 hqr hgr
  go_wp2_with fail
  have HBd : Hid (Below w1.heap.size w1 w1.drew) := (Below.refl _ _).drew
  have d0 : w1.drew.cell? ⟨qp, 0, none⟩ = some (.slice (some ⟨g, 0, none⟩) n c) := k0
  have dg0 : w1.drew.cell? ⟨g, P * 2, none⟩ = some (.int .i64 x) := hg0
  have dg1 : w1.drew.cell? ⟨g, P * 2 + 1, none⟩ = some (.string y) := hgg1
  go_region_held3 (fun W => W.cell? ⟨qp, 0, none⟩ = some (.slice (some ⟨g, 0, none⟩) n c) ∧ W.cell? ⟨g, P * 2, none⟩ = some (.int .i64 x) ∧ W.cell? ⟨g, P * 2 + 1, none⟩ = some (.string y)) (first | exact ⟨d0, dg0, dg1⟩ | exact ⟨m0, mg0, mg1⟩ | go_keep) (first | (go_at_call 52; refine (qPlace_P ((HH.out.below HB1.out).below HBd.out) i (by omega)).mono ?_; rintro e w2 ⟨rfl, hb2⟩; rw [HPP.out]; have HB2 : Hid (Below w1.heap.size w1 w2) := bel_trans HBd.out hb2; clear hb2; have m0 := (But.of_below HB2.out).cell k0 (fun e => by cases e); have mg0 := (But.of_below HB2.out).cell hg0 (fun e => by cases e); have mg1 := (But.of_below HB2.out).cell hgg1 (fun e => by cases e); obtain ⟨j0, j1, jf⟩ := row2q ((But.of_below HB2.out).heap HR1.out (fun e => by cases e))))
  all_goals
    go_wp2
    refine bodyPost_ret (v := .tuple #[.agg #[.int .i64 x, .string y], .bool true]) (by simp [results, Try.results65, go_sem, j0, j1]) rfl ⟨rfl, ?_⟩
    have BT : But [rb] w2 ((w2.setCell ⟨rb, 0, none⟩ (.int .i64 x)).setCell ⟨rb, 1, none⟩ (.string y)) := ((But.refl _ w2).setCell (by simp) _).setCell (by simp) _
    exact (bel_trans HB1.out HB2.out).trans (BT.below (bel_trans HB1.out HB2.out).size (by simp; have := HRB.out; omega))

set_option maxHeartbeats 4000000 in
theorem qFirst_P {w : World} {p : Option Addr} {bs : List Nat} {cap : Nat} {xs : List (List Value)} (HQ : QP w 68 2 102 p bs cap xs) (x : Int) (y : ByteArray) (hx : xs[0]? = some [.int .i64 x, .string y]) : Calls Try.prog 53 #[.pointer p] w fun e w' => e = .returned (.tuple #[.agg #[.int .i64 x, .string y], .bool true]) ∧ Below w.heap.size w w' := by
  have HQ' : Hid (QP w 68 2 102 p bs cap xs) := HQ
  have HX : Hid (xs[0]? = some [.int .i64 x, .string y]) := hx
  clear HQ hx
  obtain ⟨rb, hrb⟩ : ∃ rb, rb = w.heap.size := ⟨_, rfl⟩
  obtain ⟨w0, hw0⟩ : ∃ w0, w0 = w.alloc (.cells #[.int .i64 0, .string ⟨#[]⟩] 68) := ⟨_, rfl⟩
  have HB0 : Hid (Below w.heap.size w w0) := (by rw [hw0]; exact (Below.refl _ w).alloc (Nat.le_refl _) _ : Below w.heap.size w w0)
  have HR0 : Hid (w0.heap[rb]? = some (.cells #[.int .i64 0, .string ⟨#[]⟩] 68 (0, 0))) := (by rw [hw0, hrb]; exact heap_alloc_new _ _ : w0.heap[rb]? = _)
  have HRB : Hid (rb = w.heap.size) := hrb
  go_enter Try.func53, Try.ntmps53
  go_wp2_with fail
  rw [← hw0, ← hrb]
  clear hw0 hrb
  refine (qAt_P (HQ'.out.below HB0.out) 0 x y HX.out).mono ?_
  rintro e w2 ⟨rfl, hb⟩
  have HB2 : Hid (Below w.heap.size w w2) := bel_trans HB0.out hb
  obtain ⟨j0, j1, jf⟩ := row2q ((But.of_below hb).heap HR0.out (fun e => by cases e))
  clear hb
  go_wp2
  refine bodyPost_ret (v := .tuple #[.agg #[.int .i64 x, .string y], .bool true]) (by simp [results, Try.results53, go_sem, j0, j1]) rfl ⟨rfl, ?_⟩
  have BT : But [rb] w2 ((w2.setCell ⟨rb, 0, none⟩ (.int .i64 x)).setCell ⟨rb, 1, none⟩ (.string y)) := ((But.refl _ w2).setCell (by simp) _).setCell (by simp) _
  exact HB2.out.trans (BT.below HB2.out.size (by simp; have := HRB.out; omega))

end Rg
end Go.Proofs.Ytiecfidkoficnaa
