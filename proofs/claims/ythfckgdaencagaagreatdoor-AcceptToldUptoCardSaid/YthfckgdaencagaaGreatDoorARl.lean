/-
  The document's Liking.
-/
import Derived.Test.YthfckgdaencagaaGreatDoorMgX
import Derived.Deep.RegionWith
import Derived.Test.YthfckgdaencagaaGreatDoorQBel
set_option maxRecDepth 100000
set_option linter.unusedVariables false
set_option linter.unusedSimpArgs false
namespace Go.Proofs.YthfckgdaencagaaGreatDoor
open Go.RowKit Go.Shelf
namespace Ac
open Oc Tg

set_option maxHeartbeats 4000000 in
theorem rLiking_any (v u : Value) (t : List Rng) (m : Md) (ht : ∀ r ∈ t, OkMd r.md) (hm : OkMd m) (hl : t.length ≤ 16777216) (w : World) (hv : RdRg v t w) (hu : RdP u m.ps w) :
    Calls Tryz.prog 25 #[v, .agg #[.string m.ty, .string m.sub, u]] w fun e w' => e = .returned (.int .i64 (rlk t m)) ∧ Below w.heap.size w w' := by
  have HT : Hid (RdRg v t w) := hv
  have HU : Hid (RdP u m.ps w) := hu
  have HOk : Hid (∀ r ∈ t, OkMd r.md) := ht
  have HOm : Hid (OkMd m) := hm
  obtain ⟨va, vc, rfl, hv⟩ := hv
  obtain ⟨ua, uc, rfl, _⟩ := hu
  clear ht hm
  by_cases hz : t = []
  · subst hz
    have e : rlk [] m = 1000 := rfl
    rw [e]
    go_enter Tryz.func25, Tryz.ntmps25
    go_wp2
    go_ret
    exact ⟨rfl, (Below.refl _ w).alloc (Nat.le_refl _) _⟩
  have hpos : 0 < t.length := List.length_pos_iff.2 hz
  have hpi : ¬ ((t.length : Int) = 0) := by omega
  have hpb : ((t.length : Int) == 0) = false := by rw [beq_eq_false_iff_ne]; exact hpi
  have HV : Hid (rlk t m = (rst (mets t m)).2) := (by unfold rlk; rw [if_neg hz] : rlk t m = _)
  clear hz
  obtain ⟨w2, hw2⟩ : ∃ w2, w2 = w.alloc (.cells #[.string m.ty, .string m.sub, .slice ua m.ps.length uc] 40) := ⟨_, rfl⟩
  have HB2 : Hid (Below w.heap.size w w2) := (by rw [hw2]; exact (Below.refl _ w).alloc (Nat.le_refl _) _ : Below _ _ _)
  have R1 : Hid (w2.heap[w.heap.size]? = some (.cells #[.string m.ty, .string m.sub, .slice ua m.ps.length uc] 40 (0, 0))) := (by
    rw [hw2]
    exact heap_alloc_new w _ : _ = _)
  have hz2 : w.heap.size < w2.heap.size := by rw [hw2]; simp
  generalize rlk t m = V at *
  go_enter Tryz.func25, Tryz.ntmps25
  go_wp2
  rw [← hw2]
  clear hw2
  go_loopw [5, 6, 7] (fun b q i wr => ∃ (k : Nat), k ≤ t.length ∧ b = .int .i64 (rst (mets (t.take k) m)).1 ∧ q = .int .i64 (rst (mets (t.take k) m)).2 ∧ i = .int .i64 k ∧ Hid (Below w2.heap.size w2 wr)) (fun _ _ i _ => t.length - (intOf i).toNat)
  case atStart => exact ⟨0, Nat.zero_le _, rfl, rfl, rfl, Below.refl _ _⟩
  case round =>
    obtain ⟨k, hk, rfl, rfl, rfl, hbl⟩ := hrel
    have HBw : Hid (Below w.heap.size w wr) := bel_trans HB2.out hbl.out
    by_cases hlt : k < t.length
    · obtain ⟨a', c', e', hcs⟩ := HT.out.below HBw.out
      injection e' with e1 _ e2
      subst e1 e2
      rcases hcs with h | ⟨g, o, rfl, hlc, hcell⟩
      · rw [h] at hlt; simp at hlt
      obtain ⟨⟨⟨p0, p1, u', p2, hrp, _⟩, p3⟩, hq⟩ := hcell k hlt
      have HRp : Hid (RdP u' (nthR t k).md.ps wr) := hrp
      obtain ⟨ra, rc, rfl, _⟩ := hrp
      have hok := OkRg.at HOk.out hlt
      have HUr : Hid (RdP (.slice ua m.ps.length uc) m.ps wr) := HU.out.below HBw.out
      have HC : Hid (∀ W, Below wr.heap.size wr W → Calls Tryz.prog 47 #[.agg #[.string (nthR t k).md.ty, .string (nthR t k).md.sub, .slice ra (nthR t k).md.ps.length rc], .agg #[.string m.ty, .string m.sub, .slice ua m.ps.length uc]] W fun e w' => e = .returned (.bool (metR m (nthR t k))) ∧ Below (World.heap W).size W w') := fun W b => rMeets_any _ _ _ _ _ _ _ _ hok.1 hok.2.1 HOm.out.1 HOm.out.2.1 hok.2.2.1 HOm.out.2.2.1 hok.2.2.2 HOm.out.2.2.2 W (HRp.out.below b) (HUr.out.below b)
      have HNa : Hid (∀ W, Calls Tryz.prog 48 #[.agg #[.string (nthR t k).md.ty, .string (nthR t k).md.sub, .slice ra (nthR t k).md.ps.length rc]] W fun e w' => e = .returned (.int .i64 (narrowR (nthR t k).md.ty (nthR t k).md.sub (nthR t k).md.ps.length)) ∧ Below (World.heap W).size W w') := fun W => rnarrow_any _ _ _ _ _ (by have := hok.2.2.2; omega) W
      have TT : metR m (nthR t k) = true → Hid (rst (mets (t.take (k + 1)) m) = if (rst (mets (t.take k) m)).1 < narrowR (nthR t k).md.ty (nthR t k).md.sub (nthR t k).md.ps.length then (narrowR (nthR t k).md.ty (nthR t k).md.sub (nthR t k).md.ps.length, (nthR t k).q) else rst (mets (t.take k) m)) := fun h => (by rw [mets_snoc_yes hlt h, rst_snoc]; rfl : _ = _)
      have FF : metR m (nthR t k) = false → Hid (rst (mets (t.take (k + 1)) m) = rst (mets (t.take k) m)) := fun h => (by rw [mets_snoc_no hlt h] : _ = _)
      clear hcell hok hq HRp HUr
      generalize metR m (nthR t k) = b at HC TT FF
      generalize narrowR (nthR t k).md.ty (nthR t k).md.sub (nthR t k).md.ps.length = NR at *
      generalize (nthR t k).md.ty = N1 at *
      generalize (nthR t k).md.sub = N2 at *
      generalize (nthR t k).md.ps.length = rn at *
      generalize (nthR t k).q = q at *
      generalize hrs : rst (mets (t.take k) m) = S at *
      obtain ⟨sb, sq⟩ := S
      have HRs : Hid (rst (mets (t.take k) m) = (sb, sq)) := hrs
      clear hrs
      have m0 := (hbl.out.cell (p := ⟨w.heap.size, 0, none⟩) hz2).trans (Lib.cell_of_heap R1.out 0)
      have m1 := (hbl.out.cell (p := ⟨w.heap.size, 1, none⟩) hz2).trans (Lib.cell_of_heap R1.out 1)
      have m2 := (hbl.out.cell (p := ⟨w.heap.size, 2, none⟩) hz2).trans (Lib.cell_of_heap R1.out 2)
      simp only [List.getElem?_toArray, List.getElem?_cons_zero, List.getElem?_cons_succ] at m0 m1 m2
      have hki : (k : Int) < (t.length : Int) := by omega
      have HCell : Hid (∀ W, Below wr.heap.size wr W → (W.cell? ⟨g, o + k * 4, none⟩ = some (.string N1) ∧ W.cell? ⟨g, o + k * 4 + 1, none⟩ = some (.string N2) ∧ W.cell? ⟨g, o + k * 4 + 2, none⟩ = some (.slice ra rn rc) ∧ W.cell? ⟨g, o + k * 4 + 3, none⟩ = some (.int .i64 q)) ∧ (W.cell? ⟨w.heap.size, 0, none⟩ = some (.string m.ty) ∧ W.cell? ⟨w.heap.size, 1, none⟩ = some (.string m.sub) ∧ W.cell? ⟨w.heap.size, 2, none⟩ = some (.slice ua m.ps.length uc))) := fun W b => ⟨⟨(b.cell (World.block_lt_of_cell? wr _ p0)).trans p0, (b.cell (World.block_lt_of_cell? wr _ p1)).trans p1, (b.cell (World.block_lt_of_cell? wr _ p2)).trans p2, (b.cell (World.block_lt_of_cell? wr _ p3)).trans p3⟩, (b.cell (World.block_lt_of_cell? wr _ m0)).trans m0, (b.cell (World.block_lt_of_cell? wr _ m1)).trans m1, (b.cell (World.block_lt_of_cell? wr _ m2)).trans m2⟩
      clear p0 p1 p2 p3 m0 m1 m2
      have hk0 : (0 : Int) ≤ (k : Int) := by omega
      have kx0 : ∀ p : BelBy wr, p.to.cell? ⟨g, o + k * 4, none⟩ = some (.string N1) := fun p => (HCell.out _ p.bel).1.1
      have kx1 : ∀ p : BelBy wr, p.to.cell? ⟨g, o + k * 4 + 1, none⟩ = some (.string N2) := fun p => (HCell.out _ p.bel).1.2.1
      have kx2 : ∀ p : BelBy wr, p.to.cell? ⟨g, o + k * 4 + 2, none⟩ = some (.slice ra rn rc) := fun p => (HCell.out _ p.bel).1.2.2.1
      have kx3 : ∀ p : BelBy wr, p.to.cell? ⟨g, o + k * 4 + 3, none⟩ = some (.int .i64 q) := fun p => (HCell.out _ p.bel).1.2.2.2
      have kb0 : ∀ p : BelBy wr, p.to.cell? ⟨w.heap.size, 0, none⟩ = some (.string m.ty) := fun p => (HCell.out _ p.bel).2.1
      have kb1 : ∀ p : BelBy wr, p.to.cell? ⟨w.heap.size, 1, none⟩ = some (.string m.sub) := fun p => (HCell.out _ p.bel).2.2.1
      have kb2 : ∀ p : BelBy wr, p.to.cell? ⟨w.heap.size, 2, none⟩ = some (.slice ua m.ps.length uc) := fun p => (HCell.out _ p.bel).2.2.2
      have inh : Nonempty (BelBy wr) := ⟨⟨wr, Below.refl _ wr⟩⟩
      cases b with
      | false =>
        have ff := FF rfl
        clear TT FF
        go_wp2_with fail
        refine wp_region_bel mixB (by kernel_rfl) ?_
        iterate 7 (quiet_step (first | (go_at_call 47; exact Calls.bel_of (HC.out _ (by assumption))) | (go_at_call 47; exact Calls.bel_of (HC.out _ (BelBy.bel _))) | (go_at_call 48; exact Calls.bel_of (HNa.out _))))
        iterate 10 (with_reducible (refine wpQuiet_step (fun K hK => ?_)); go_simp; (with_reducible refine hK _ ?_); clear hK K)
        refine wpQuiet_nil ?_
        rintro _ ⟨pq, rfl⟩
        have HB4 : Hid (Below wr.heap.size wr pq.to) := pq.bel
        generalize pq.to = w4 at *
        clear kx0 kx1 kx2 kx3 kb0 kb1 kb2 inh
        go_wp2
        go_roundw
        case rel => exact ⟨k + 1, by omega, by rw [ff.out], by rw [ff.out], by go_num, bel_trans hbl.out HB4.out⟩
        case measure => simp [intOf]; omega
      | true =>
        have tt := TT rfl
        clear TT FF
        by_cases hn : sb < NR
        · rw [if_pos hn] at tt
          go_wp2_with fail
          refine wp_region_bel mixB (by kernel_rfl) ?_
          iterate 17 (quiet_step (first | (go_at_call 47; exact Calls.bel_of (HC.out _ (by assumption))) | (go_at_call 47; exact Calls.bel_of (HC.out _ (BelBy.bel _))) | (go_at_call 48; exact Calls.bel_of (HNa.out _))))
          refine wpQuiet_nil ?_
          rintro _ ⟨pq, rfl⟩
          have HB4 : Hid (Below wr.heap.size wr pq.to) := pq.bel
          generalize pq.to = w4 at *
          clear kx0 kx1 kx2 kx3 kb0 kb1 kb2 inh
          have kx0 : ∀ p : BelBy w4, p.to.cell? ⟨g, o + k * 4, none⟩ = some (.string N1) := fun p => (HCell.out _ (bel_trans HB4.out p.bel)).1.1
          have kx1 : ∀ p : BelBy w4, p.to.cell? ⟨g, o + k * 4 + 1, none⟩ = some (.string N2) := fun p => (HCell.out _ (bel_trans HB4.out p.bel)).1.2.1
          have kx2 : ∀ p : BelBy w4, p.to.cell? ⟨g, o + k * 4 + 2, none⟩ = some (.slice ra rn rc) := fun p => (HCell.out _ (bel_trans HB4.out p.bel)).1.2.2.1
          have kx3 : ∀ p : BelBy w4, p.to.cell? ⟨g, o + k * 4 + 3, none⟩ = some (.int .i64 q) := fun p => (HCell.out _ (bel_trans HB4.out p.bel)).1.2.2.2
          have kb0 : ∀ p : BelBy w4, p.to.cell? ⟨w.heap.size, 0, none⟩ = some (.string m.ty) := fun p => (HCell.out _ (bel_trans HB4.out p.bel)).2.1
          have kb1 : ∀ p : BelBy w4, p.to.cell? ⟨w.heap.size, 1, none⟩ = some (.string m.sub) := fun p => (HCell.out _ (bel_trans HB4.out p.bel)).2.2.1
          have kb2 : ∀ p : BelBy w4, p.to.cell? ⟨w.heap.size, 2, none⟩ = some (.slice ua m.ps.length uc) := fun p => (HCell.out _ (bel_trans HB4.out p.bel)).2.2.2
          have inh : Nonempty (BelBy w4) := ⟨⟨w4, Below.refl _ w4⟩⟩
          go_wp2_with fail
          refine wp_region_bel mixB (by kernel_rfl) ?_
          iterate 13 (quiet_step (first | (go_at_call 47; exact Calls.bel_of (HC.out _ (by assumption))) | (go_at_call 47; exact Calls.bel_of (HC.out _ (BelBy.bel _))) | (go_at_call 48; exact Calls.bel_of (HNa.out _))))
          refine wpQuiet_nil ?_
          rintro _ ⟨pq, rfl⟩
          have HB5 : Hid (Below wr.heap.size wr pq.to) := bel_trans HB4.out pq.bel
          generalize pq.to = w5 at *
          clear kx0 kx1 kx2 kx3 kb0 kb1 kb2 inh
          go_wp2
          go_roundw
          case rel => exact ⟨k + 1, by omega, by rw [tt.out], by rw [tt.out], by go_num, bel_trans hbl.out HB5.out⟩
          case measure => simp [intOf]; omega
        · rw [if_neg hn] at tt
          go_wp2_with fail
          refine wp_region_bel mixB (by kernel_rfl) ?_
          iterate 17 (quiet_step (first | (go_at_call 47; exact Calls.bel_of (HC.out _ (by assumption))) | (go_at_call 47; exact Calls.bel_of (HC.out _ (BelBy.bel _))) | (go_at_call 48; exact Calls.bel_of (HNa.out _))))
          refine wpQuiet_nil ?_
          rintro _ ⟨pq, rfl⟩
          have HB4 : Hid (Below wr.heap.size wr pq.to) := pq.bel
          generalize pq.to = w4 at *
          clear kx0 kx1 kx2 kx3 kb0 kb1 kb2 inh
          go_wp2
          go_roundw
          case rel => exact ⟨k + 1, by omega, by rw [tt.out], by rw [tt.out], by go_num, bel_trans hbl.out HB4.out⟩
          case measure => simp [intOf]; omega
    · obtain rfl : k = t.length := by omega
      rw [List.take_length]
      rw [← HV.out]
      go_wp2
      go_ret
      exact ⟨rfl, HBw.out⟩

end Ac
end Go.Proofs.YthfckgdaencagaaGreatDoor
