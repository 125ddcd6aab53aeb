/-
  The law TagPrints.
-/
import Derived.Test.YtgdecgagdacipaaGreatDoorTSm
import Derived.Deep.RegionHeld3
set_option linter.unusedVariables false
set_option linter.unusedSimpArgs false
namespace Go.Proofs.YtgdecgagdacipaaGreatDoor
open Go.RowKit Go.Shelf
namespace Tt
open Oc Tg

set_option maxRecDepth 100000 in
set_option maxHeartbeats 1000000 in
theorem rAlike_any (t u : Tg1) (w : World) :
    Calls Tryz.prog 15 #[.agg #[.bool t.1, .string (str t.2)], .agg #[.bool u.1, .string (str u.2)]] w fun e w' => e = .returned (.bool (lkA t u)) ∧ Below w.heap.size w w' := by
  have HE : Hid (_ = lkA t u) := same_text t.2 u.2
  obtain ⟨tb, tl⟩ := t
  obtain ⟨ub, ul⟩ := u
  dsimp only at *
  generalize str tl = X at *
  generalize str ul = Y at *
  go_enter Tryz.func15, Tryz.ntmps15
  go_wp2
  go_ret
  refine ⟨ret_bool HE.out, ?_⟩
  repeat (first | exact Below.refl _ _ | refine Below.alloc ?_ (by simp) _)

set_option maxRecDepth 100000 in
set_option maxHeartbeats 1000000 in
theorem rStrong_any (t u : Tg1) (w : World) :
    Calls Tryz.prog 13 #[.agg #[.bool t.1, .string (str t.2)], .agg #[.bool u.1, .string (str u.2)]] w fun e w' => e = .returned (.bool (lkS t u)) ∧ Below w.heap.size w w' := by
  have HE : Hid (lkS t u = (!t.1 && (!u.1 && decide (t.2 = u.2)))) := (rfl : _ = _)
  have HQ : Hid (_ = _) := same_text t.2 u.2
  have HB : Hid (∀ a b, Below w.heap.size w ((w.alloc a).alloc b)) := fun a b => ((Below.refl _ w).alloc (Nat.le_refl _) _).alloc (by simp) _
  generalize lkS t u = y at *
  obtain ⟨tb, tl⟩ := t
  obtain ⟨ub, ul⟩ := u
  dsimp only at *
  generalize decide (tl = ul) = q at *
  generalize str tl = X at *
  generalize str ul = Y at *
  cases tb with
  | true =>
    go_enter Tryz.func13, Tryz.ntmps13
    go_wp2
    go_ret
    exact ⟨ret_bool HE.out.symm, HB.out _ _⟩
  | false =>
    cases ub with
    | true =>
      go_enter Tryz.func13, Tryz.ntmps13
      go_wp2
      go_ret
      exact ⟨ret_bool HE.out.symm, HB.out _ _⟩
    | false =>
      go_enter Tryz.func13, Tryz.ntmps13
      go_wp2
      go_ret
      exact ⟨ret_bool (by rw [HE.out, HQ.out]; simp), HB.out _ _⟩

set_option maxRecDepth 100000 in
set_option maxHeartbeats 4000000 in
theorem walk_TagPrints (ab : Bool) (ax : ByteArray) (ha : ax.size ≤ 1048576) (bb : Bool) (bx : ByteArray) (hb : bx.size ≤ 1048576) (w : World) (hw : Fd.ML w) :
    Calls Tryz.prog 3 #[.agg #[.bool ab, .string ax], .agg #[.bool bb, .string bx]] w fun e w' => e = .returned (.bool true) ∧ Below w.heap.size w w' := by
  obtain ⟨w1, hw1⟩ : ∃ w1, w1 = (w.alloc (.cells #[.bool ab, .string ax] 23)).alloc (.cells #[.bool bb, .string bx] 23) := ⟨_, rfl⟩
  have hb1 : Below w.heap.size w w1 := by rw [hw1]; exact ((Below.refl _ w).alloc (Nat.le_refl _) _).alloc (by simp) _
  have HB1 : Hid (Below w.heap.size w w1) := hb1
  have k0 : w1.cell? ⟨w.heap.size, 0, none⟩ = some (.bool ab) := by rw [hw1]; simp
  have k1 : w1.cell? ⟨w.heap.size, 1, none⟩ = some (.string ax) := by rw [hw1]; simp
  have k2 : w1.cell? ⟨w.heap.size + 1, 0, none⟩ = some (.bool bb) := by rw [hw1]; simp
  have k3 : w1.cell? ⟨w.heap.size + 1, 1, none⟩ = some (.string bx) := by rw [hw1]; simp
  have HK : Hid (∀ W, Below w1.heap.size w1 W → W.cell? ⟨w.heap.size, 0, none⟩ = some (.bool ab) ∧ W.cell? ⟨w.heap.size, 1, none⟩ = some (.string ax) ∧ W.cell? ⟨w.heap.size + 1, 0, none⟩ = some (.bool bb) ∧ W.cell? ⟨w.heap.size + 1, 1, none⟩ = some (.string bx)) := fun W hB =>
    ⟨by rw [hB.cell (World.block_lt_of_cell? w1 _ k0)]; exact k0, by rw [hB.cell (World.block_lt_of_cell? w1 _ k1)]; exact k1, by rw [hB.cell (World.block_lt_of_cell? w1 _ k2)]; exact k2, by rw [hB.cell (World.block_lt_of_cell? w1 _ k3)]; exact k3⟩
  have HA : Hid (Calls _ _ _ _ _) := awake_any w1 (hw.below hb1)
  have HP : Hid (∀ W, Calls _ _ _ W _) := fun W => Print_any ab ax (by omega) W
  have HQ : Hid (∀ W, Calls _ _ _ W _) := fun W => rPrint_any ab ax (by omega) W
  have HRf : Hid (∀ b x w, Calls _ _ _ w _) := fun b x w => ref_any b x w
  have HST : Hid (∀ W, Calls Tryz.prog 12 #[.agg #[.bool ab, .string ax], .agg #[.bool bb, .string bx]] W fun e w' => e = .returned (.bool (lkS (ab, ax.data.toList) (bb, bx.data.toList))) ∧ Below W.heap.size W w') := fun W => by
    have h := Strong_any (ab, ax.data.toList) (bb, bx.data.toList) W
    dsimp only at h
    rw [str_self, str_self] at h
    exact h
  have HRS : Hid (∀ W, Calls Tryz.prog 13 #[.agg #[.bool ab, .string ax], .agg #[.bool bb, .string bx]] W fun e w' => e = .returned (.bool (lkS (ab, ax.data.toList) (bb, bx.data.toList))) ∧ Below W.heap.size W w') := fun W => by
    have h := rStrong_any (ab, ax.data.toList) (bb, bx.data.toList) W
    dsimp only at h
    rw [str_self, str_self] at h
    exact h
  have HAL : Hid (∀ W, Calls Tryz.prog 14 #[.agg #[.bool ab, .string ax], .agg #[.bool bb, .string bx]] W fun e w' => e = .returned (.bool (lkA (ab, ax.data.toList) (bb, bx.data.toList))) ∧ Below W.heap.size W w') := fun W => by
    have h := Alike_any (ab, ax.data.toList) (bb, bx.data.toList) W
    dsimp only at h
    rw [str_self, str_self] at h
    exact h
  have HRA : Hid (∀ W, Calls Tryz.prog 15 #[.agg #[.bool ab, .string ax], .agg #[.bool bb, .string bx]] W fun e w' => e = .returned (.bool (lkA (ab, ax.data.toList) (bb, bx.data.toList))) ∧ Below W.heap.size W w') := fun W => by
    have h := rAlike_any (ab, ax.data.toList) (bb, bx.data.toList) W
    dsimp only at h
    rw [str_self, str_self] at h
    exact h
  generalize lkS (ab, ax.data.toList) (bb, bx.data.toList) = z1 at *
  generalize lkA (ab, ax.data.toList) (bb, bx.data.toList) = z2 at *
  generalize printT (ab, ax.data.toList) = PT at *
  obtain ⟨pl, pe⟩ := PT
  dsimp only at *
  generalize str pl = PL at *
  clear hw hb1 k0 k1 k2 k3
  go_enter Tryz.func3, Tryz.ntmps3
  go_wp2_with fail
  rw [← hw1]
  clear hw1
  refine HA.out.mono ?_
  rintro e w2 ⟨rfl, hb2⟩
  obtain ⟨k0, k1, k2, k3⟩ := HK.out _ hb2
  have HB2 : Hid (Below w1.heap.size w1 w2) := hb2
  clear hb2
  go_wp2_with fail
  refine (HP.out _).mono ?_
  rintro e w3 ⟨rfl, hb3⟩
  have HB3 : Hid (Below w1.heap.size w1 w3) := bel_trans HB2.out hb3
  clear k0 k1 k2 k3 hb3
  obtain ⟨k0, k1, k2, k3⟩ := HK.out _ HB3.out
  go_wp2_with fail
  refine (HRf.out _ _ _).mono ?_
  rintro e w4 ⟨rfl, hb4⟩
  have HB4 : Hid (Below w1.heap.size w1 w4) := bel_trans HB3.out hb4
  clear k0 k1 k2 k3 hb4
  go_wp2_with fail
  refine (HQ.out _).mono ?_
  rintro e w5 ⟨rfl, hb5⟩
  have HB5 : Hid (Below w1.heap.size w1 w5) := bel_trans HB4.out hb5
  have HBd : Hid (Below w1.heap.size w1 w5.drew) := bel_trans HB5.out ⟨rfl, rfl, rfl, Nat.le_refl _, fun _ _ => rfl⟩
  clear hb5
  obtain ⟨k0, k1, k2, k3⟩ := HK.out _ HBd.out
  go_wp2_with fail
  go_region_held3 (fun W => W.cell? ⟨w.heap.size, 0, none⟩ = some (.bool ab) ∧ W.cell? ⟨w.heap.size, 1, none⟩ = some (.string ax) ∧ W.cell? ⟨w.heap.size + 1, 0, none⟩ = some (.bool bb) ∧ W.cell? ⟨w.heap.size + 1, 1, none⟩ = some (.string bx)) (first | exact HK.out _ HBn.out | exact HK.out _ HBd.out) (first | (go_at_call 12; refine (HST.out _).mono ?_; rintro e wn ⟨rfl, hbn⟩; have HBn : Hid (Below w1.heap.size w1 wn) := (by first | exact bel_trans HBn.out hbn | exact bel_trans HBd.out hbn : Below w1.heap.size w1 wn); clear hbn) | (go_at_call 11; refine (HRf.out _ _ _).mono ?_; rintro e wn ⟨rfl, hbn⟩; have HBn : Hid (Below w1.heap.size w1 wn) := (by first | exact bel_trans HBn.out hbn | exact bel_trans HBd.out hbn : Below w1.heap.size w1 wn); clear hbn) | (go_at_call 13; refine (HRS.out _).mono ?_; rintro e wn ⟨rfl, hbn⟩; have HBn : Hid (Below w1.heap.size w1 wn) := (by first | exact bel_trans HBn.out hbn | exact bel_trans HBd.out hbn : Below w1.heap.size w1 wn); clear hbn) | (go_at_call 14; refine (HAL.out _).mono ?_; rintro e wn ⟨rfl, hbn⟩; have HBn : Hid (Below w1.heap.size w1 wn) := (by first | exact bel_trans HBn.out hbn | exact bel_trans HBd.out hbn : Below w1.heap.size w1 wn); clear hbn) | (go_at_call 15; refine (HRA.out _).mono ?_; rintro e wn ⟨rfl, hbn⟩; have HBn : Hid (Below w1.heap.size w1 wn) := (by first | exact bel_trans HBn.out hbn | exact bel_trans HBd.out hbn : Below w1.heap.size w1 wn); clear hbn))
  all_goals
    go_wp2
    go_ret
    exact ⟨ret_bool (by simp), HB1.out.trans (HBn.out.mono HB1.out.size)⟩

end Tt
end Go.Proofs.YtgdecgagdacipaaGreatDoor
