/-
  The law's own ref, same.
-/
import Derived.Test.YtheeloaebilgiaaDoorTDg
import Derived.Deep.Cut
import Derived.Deep.CutRange
import Derived.Deep.RegionHeld3
set_option linter.unusedVariables false
set_option linter.unusedSimpArgs false
namespace Go.Proofs.YtheeloaebilgiaaDoor
open Go.RowKit Go.Shelf
namespace Tt
open Oc Tg

set_option maxRecDepth 100000 in
set_option maxHeartbeats 1000000 in
theorem ref_any (b : Bool) (x : ByteArray) (w : World) :
    Calls Tryd.prog 7 #[.agg #[.bool b, .string x]] w fun e w' => e = .returned (.agg #[.bool b, .string x]) ∧ Below w.heap.size w w' := by
  go_enter Tryd.func7, Tryd.ntmps7
  go_wp2
  refine bodyPost_ret (v := .agg #[.bool b, .string x]) (by simp [results, Tryd.results7, go_sem]) rfl ?_
  refine ⟨rfl, ?_⟩
  repeat (first | exact Below.refl _ _ | refine Below.setCell ?_ (by simp) _ | refine Below.alloc ?_ (by simp) _)

set_option maxRecDepth 100000 in
set_option maxHeartbeats 1000000 in
theorem walk_TagParses (s : ByteArray) (hs : s.size ≤ 1048576) (w : World) (hw : Fd.ML w) :
    Calls Tryd.prog 3 #[.string s] w fun e w' => e = .returned (.bool true) ∧ Below w.heap.size w w' := by
  have HA : Hid (Calls _ _ _ _ _) := awake_any w hw
  have HP : Hid (∀ W, Calls _ _ _ W _) := fun W => Parse_any s (by omega) W
  have HQ : Hid (∀ W, Calls _ _ _ W _) := fun W => rParse_any s (by omega) W
  have HRf : Hid (∀ b x w, Calls _ _ _ w _) := fun b x w => ref_any b x w
  clear hw
  generalize parseT s.data.toList = PT at *
  obtain ⟨⟨tb, tl⟩, pn, pe⟩ := PT
  dsimp only at *
  generalize str tl = TL at *
  go_enter Tryd.func3, Tryd.ntmps3
  go_wp2_with fail
  refine HA.out.mono ?_
  rintro e w1 ⟨rfl, hb1⟩
  have HB1 : Hid (Below w.heap.size w w1) := hb1
  clear hb1
  go_wp2_with fail
  refine (HP.out _).mono ?_
  rintro e w2 ⟨rfl, hb2⟩
  obtain ⟨W2, hW2⟩ : ∃ W2, W2 = w2.alloc (.cells #[.bool tb, .string TL] 24) := ⟨_, rfl⟩
  have HB2 : Hid (Below w.heap.size w W2) := (by rw [hW2]; exact (bel_trans HB1.out hb2).alloc (bel_trans HB1.out hb2).size _ : Below _ _ _)
  have m0 : W2.cell? ⟨w2.heap.size, 0, none⟩ = some (.bool tb) := by rw [hW2]; simp
  have m1 : W2.cell? ⟨w2.heap.size, 1, none⟩ = some (.string TL) := by rw [hW2]; simp
  have HM : Hid (∀ W, Below W2.heap.size W2 W → W.cell? ⟨w2.heap.size, 0, none⟩ = some (.bool tb) ∧ W.cell? ⟨w2.heap.size, 1, none⟩ = some (.string TL)) := fun W hB =>
    ⟨by rw [hB.cell (World.block_lt_of_cell? W2 _ m0)]; exact m0, by rw [hB.cell (World.block_lt_of_cell? W2 _ m1)]; exact m1⟩
  clear hb2 m0 m1
  go_wp2_with fail
  rw [← hW2]
  refine (HQ.out _).mono ?_
  rintro e w3 ⟨rfl, hb3⟩
  obtain ⟨W3, hW3⟩ : ∃ W3, W3 = w3.alloc (.cells #[.bool tb, .string TL] 28) := ⟨_, rfl⟩
  have HB23 : Hid (Below W2.heap.size W2 W3) := (by rw [hW3]; exact hb3.alloc hb3.size _ : Below _ _ _)
  have m0 : W3.cell? ⟨w3.heap.size, 0, none⟩ = some (.bool tb) := by rw [hW3]; simp
  have m1 : W3.cell? ⟨w3.heap.size, 1, none⟩ = some (.string TL) := by rw [hW3]; simp
  have HK : Hid (∀ W, Below W3.heap.size W3 W → W.cell? ⟨w2.heap.size, 0, none⟩ = some (.bool tb) ∧ W.cell? ⟨w2.heap.size, 1, none⟩ = some (.string TL) ∧ W.cell? ⟨w3.heap.size, 0, none⟩ = some (.bool tb) ∧ W.cell? ⟨w3.heap.size, 1, none⟩ = some (.string TL)) := fun W hB =>
    ⟨(HM.out W (bel_trans HB23.out hB)).1, (HM.out W (bel_trans HB23.out hB)).2, by rw [hB.cell (World.block_lt_of_cell? W3 _ m0)]; exact m0, by rw [hB.cell (World.block_lt_of_cell? W3 _ m1)]; exact m1⟩
  clear hb3 m0 m1 hW2
  have HBd : Hid (Below W3.heap.size W3 W3.drew) := ⟨rfl, rfl, rfl, Nat.le_refl _, fun _ _ => rfl⟩
  obtain ⟨k0, k1, k2, k3⟩ := HK.out _ HBd.out
  go_wp2_with fail
  rw [← hW3]
  clear hW3
  go_region_held3 (fun W => W.cell? ⟨w2.heap.size, 0, none⟩ = some (.bool tb) ∧ W.cell? ⟨w2.heap.size, 1, none⟩ = some (.string TL) ∧ W.cell? ⟨w3.heap.size, 0, none⟩ = some (.bool tb) ∧ W.cell? ⟨w3.heap.size, 1, none⟩ = some (.string TL)) (first | exact HK.out _ HBn.out | exact HK.out _ HBd.out) (first | (go_at_call 7; refine (HRf.out _ _ _).mono ?_; rintro e wn ⟨rfl, hbn⟩; have HBn : Hid (Below W3.heap.size W3 wn) := (by first | exact bel_trans HBn.out hbn | exact bel_trans HBd.out hbn : Below W3.heap.size W3 wn); clear hbn))
  all_goals
    go_wp2
    go_ret
    exact ⟨ret_bool (by simp), HB2.out.trans ((bel_trans HB23.out HBn.out).mono HB2.out.size)⟩

end Tt
end Go.Proofs.YtheeloaebilgiaaDoor
