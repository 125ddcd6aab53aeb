/-
  The law's own ref, same.
-/
import Derived.Test.YtheeloaebilgiabGreatDoorTDg
import Derived.Deep.Cut
import Derived.Deep.CutRange
import Derived.Deep.RegionHeld3
set_option linter.unusedVariables false
set_option linter.unusedSimpArgs false
namespace Go.Proofs.YtheeloaebilgiabGreatDoor
open Go.RowKit Go.Shelf
namespace Tt
open Oc Tg

set_option maxRecDepth 100000 in
set_option maxHeartbeats 1000000 in
theorem ref_any (b : Bool) (x : ByteArray) (w : World) :
    Calls Tryz.prog 9 #[.agg #[.bool b, .string x]] w fun e w' => e = .returned (.agg #[.bool b, .string x]) ∧ Below w.heap.size w w' := by
  go_enter Tryz.func9, Tryz.ntmps9
  go_wp2
  refine bodyPost_ret (v := .agg #[.bool b, .string x]) (by simp [results, Tryz.results9, go_sem]) rfl ?_
  refine ⟨rfl, ?_⟩
  repeat (first | exact Below.refl _ _ | refine Below.setCell ?_ (by simp) _ | refine Below.alloc ?_ (by simp) _)

set_option maxRecDepth 100000 in
set_option maxHeartbeats 2000000 in
theorem same_any (v1 v2 : Value) (t : List Tg1) (w : World) (h1 : RdT v1 t w) (h2 : RdT v2 t w) (hl : t.length ≤ 4294967296) :
    Calls Tryz.prog 11 #[v1, v2] w fun e w' => e = .returned (.bool true) ∧ Below w.heap.size w w' := by
  have H1 : Hid (RdT v1 t w) := h1
  have H2 : Hid (RdT v2 t w) := h2
  obtain ⟨a1, c1, rfl, _⟩ := h1
  obtain ⟨a2, c2, rfl, _⟩ := h2
  have hne : ((t.length : Int) != (t.length : Int)) = false := by simp
  have HRf : Hid (∀ b x w, Calls _ _ _ w _) := fun b x w => ref_any b x w
  go_enter Tryz.func11, Tryz.ntmps11
  go_wp2
  go_loopw [13] (fun i wr => ∃ k : Nat, k ≤ t.length ∧ i = .int .i64 k ∧ Hid (Below w.heap.size w wr)) (fun i _ => t.length - (intOf i).toNat)
  case atStart => exact ⟨0, Nat.zero_le _, rfl, Below.refl _ _⟩
  case round =>
    obtain ⟨k, hk, rfl, hb⟩ := hrel
    by_cases hlt : k < t.length
    · obtain ⟨a1', c1', e1', hcs1⟩ := H1.out.below hb.out
      injection e1' with e11 _ e12
      subst e11 e12
      rcases hcs1 with h | ⟨g1, o1, rfl, hlc1, hcell1⟩
      · rw [h] at hlt; simp at hlt
      obtain ⟨a2', c2', e2', hcs2⟩ := H2.out.below hb.out
      injection e2' with e21 _ e22
      subst e21 e22
      rcases hcs2 with h | ⟨g2, o2, rfl, hlc2, hcell2⟩
      · rw [h] at hlt; simp at hlt
      obtain ⟨p0, p1⟩ := hcell1 k hlt
      obtain ⟨q0, q1⟩ := hcell2 k hlt
      have HBd : Hid (Below wr.heap.size wr wr.drew) := ⟨rfl, rfl, rfl, Nat.le_refl _, fun _ _ => rfl⟩
      have HQ : Hid (∀ W, Below wr.heap.size wr W → W.cell? ⟨g2, o2 + k * 2, none⟩ = some (.bool (nth t k).1) ∧ W.cell? ⟨g2, o2 + k * 2 + 1, none⟩ = some (.string (str (nth t k).2))) := fun W hB =>
        ⟨by rw [hB.cell (World.block_lt_of_cell? wr _ q0)]; exact q0, by rw [hB.cell (World.block_lt_of_cell? wr _ q1)]; exact q1⟩
      have x0 : wr.drew.cell? _ = _ := p0
      have x1 : wr.drew.cell? _ = _ := p1
      have y0 : wr.drew.cell? _ = _ := q0
      have y1 : wr.drew.cell? _ = _ := q1
      clear hcell1 hcell2 p0 p1 q0 q1
      generalize str (nth t k).2 = Y at *
      generalize (nth t k).1 = X at *
      go_wp2_with fail
      go_cut [25] from 14 to 25 (fun sb wx => sb = .bool false ∧ Hid (Below w.heap.size w wx))
      case first =>
        go_region_with (go_at_call 9; refine (HRf.out _ _ _).mono ?_; rintro e w3 ⟨rfl, hb3⟩; have HB3 : Hid (Below wr.heap.size wr w3) := bel_trans HBd.out hb3; obtain ⟨z0, z1⟩ := HQ.out w3 HB3.out; clear hb3)
        all_goals
          go_wp2_with fail
          go_meet
          exact ⟨by simp, bel_trans hb.out HB3.out⟩
      case rest =>
        obtain ⟨rfl, HBc⟩ := hcut
        go_wp2
        go_roundw
        case rel => exact ⟨k + 1, by omega, by go_num, HBc⟩
        case measure => simp [intOf]; omega
    · go_wp2
      go_ret
      exact ⟨rfl, hb.out⟩

end Tt
end Go.Proofs.YtheeloaebilgiabGreatDoor
