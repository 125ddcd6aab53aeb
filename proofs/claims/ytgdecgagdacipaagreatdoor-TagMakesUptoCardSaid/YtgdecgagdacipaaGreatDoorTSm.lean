/-
  The law's own ref, same.
-/
import Derived.Test.YtgdecgagdacipaaGreatDoorTDg
import Derived.Deep.Cut
import Derived.Deep.CutRange
import Derived.Deep.RegionHeld3
set_option linter.unusedVariables false
set_option linter.unusedSimpArgs false
namespace Go.Proofs.YtgdecgagdacipaaGreatDoor
open Go.RowKit Go.Shelf
namespace Tt
open Oc Tg

set_option maxRecDepth 100000 in
set_option maxHeartbeats 1000000 in
theorem ref_any (b : Bool) (x : ByteArray) (w : World) :
    Calls Tryz.prog 11 #[.agg #[.bool b, .string x]] w fun e w' => e = .returned (.agg #[.bool b, .string x]) ∧ Below w.heap.size w w' := by
  go_enter Tryz.func11, Tryz.ntmps11
  go_wp2
  refine bodyPost_ret (v := .agg #[.bool b, .string x]) (by simp [results, Tryz.results11, go_sem]) rfl ?_
  refine ⟨rfl, ?_⟩
  repeat (first | exact Below.refl _ _ | refine Below.setCell ?_ (by simp) _ | refine Below.alloc ?_ (by simp) _)

set_option maxRecDepth 100000 in
set_option maxHeartbeats 2000000 in
theorem same_any (v1 v2 : Value) (t : List Tg1) (w : World) (h1 : RdT v1 t w) (h2 : RdT v2 t w) (hl : t.length ≤ 4294967296) :
    Calls Tryz.prog 18 #[v1, v2] w fun e w' => e = .returned (.bool true) ∧ Below w.heap.size w w' := by
  have H1 : Hid (RdT v1 t w) := h1
  have H2 : Hid (RdT v2 t w) := h2
  obtain ⟨a1, c1, rfl, _⟩ := h1
  obtain ⟨a2, c2, rfl, _⟩ := h2
  have hne : ((t.length : Int) != (t.length : Int)) = false := by simp
  have HRf : Hid (∀ b x w, Calls _ _ _ w _) := fun b x w => ref_any b x w
  go_enter Tryz.func18, Tryz.ntmps18
  go_wp2
  go_loopw [13] (fun i wr => ∃ k : Nat, k ≤ t.length ∧ i = .int .i64 k ∧ Hid (Below w.heap.size w wr)) (fun i _ => t.length - (intOf i).toNat)
  case atStart => exact ⟨0, Nat.zero_le _, rfl, Below.refl _ _⟩
  case round =>
    obtain ⟨k, hk, rfl, hb⟩ := hrel
    by_cases hlt : k < t.length
    · obtain ⟨a1', c1', e1', hcs1⟩ := H1.out.below hb.out
      injection e1' with e11 _ e12
      subst e11 e12
      rcases hcs1 with h | ⟨g1, o1, rfl, hlc1, hcell1⟩
      · rw [h] at hlt; simp at hlt
      obtain ⟨a2', c2', e2', hcs2⟩ := H2.out.below hb.out
      injection e2' with e21 _ e22
      subst e21 e22
      rcases hcs2 with h | ⟨g2, o2, rfl, hlc2, hcell2⟩
      · rw [h] at hlt; simp at hlt
      obtain ⟨p0, p1⟩ := hcell1 k hlt
      obtain ⟨q0, q1⟩ := hcell2 k hlt
      have HBd : Hid (Below wr.heap.size wr wr.drew) := ⟨rfl, rfl, rfl, Nat.le_refl _, fun _ _ => rfl⟩
      have HQ : Hid (∀ W, Below wr.heap.size wr W → W.cell? ⟨g2, o2 + k * 2, none⟩ = some (.bool (nth t k).1) ∧ W.cell? ⟨g2, o2 + k * 2 + 1, none⟩ = some (.string (str (nth t k).2))) := fun W hB =>
        ⟨by rw [hB.cell (World.block_lt_of_cell? wr _ q0)]; exact q0, by rw [hB.cell (World.block_lt_of_cell? wr _ q1)]; exact q1⟩
      have x0 : wr.drew.cell? _ = _ := p0
      have x1 : wr.drew.cell? _ = _ := p1
      have y0 : wr.drew.cell? _ = _ := q0
      have y1 : wr.drew.cell? _ = _ := q1
      clear hcell1 hcell2 p0 p1 q0 q1
      generalize str (nth t k).2 = Y at *
      generalize (nth t k).1 = X at *
      go_wp2_with fail
      go_cut [25] from 14 to 25 (fun sb wx => sb = .bool false ∧ Hid (Below w.heap.size w wx))
      case first =>
        go_region_with (go_at_call 11; refine (HRf.out _ _ _).mono ?_; rintro e w3 ⟨rfl, hb3⟩; have HB3 : Hid (Below wr.heap.size wr w3) := bel_trans HBd.out hb3; obtain ⟨z0, z1⟩ := HQ.out w3 HB3.out; clear hb3)
        all_goals
          go_wp2_with fail
          go_meet
          exact ⟨by simp, bel_trans hb.out HB3.out⟩
      case rest =>
        obtain ⟨rfl, HBc⟩ := hcut
        go_wp2
        go_roundw
        case rel => exact ⟨k + 1, by omega, by go_num, HBc⟩
        case measure => simp [intOf]; omega
    · go_wp2
      go_ret
      exact ⟨rfl, hb.out⟩

set_option maxRecDepth 100000 in
set_option maxHeartbeats 1000000 in
theorem walk_TagLists (s : ByteArray) (hs : s.size ≤ 1048576) (w : World) (hw : Fd.ML w) :
    Calls Tryz.prog 4 #[.string s] w fun e w' => e = .returned (.bool true) ∧ Below w.heap.size w w' := by
  have HA : Hid (Calls _ _ _ _ _) := awake_any w hw
  have HL : Hid (∀ W, Below w.heap.size w W → Calls _ _ _ W _) := fun W hb => List_any s (by omega) W (hw.below hb)
  have HR : Hid (∀ W, Calls _ _ _ W _) := fun W => rList_any s (by omega) W
  have HS : Hid (∀ v1 v2 W, RdT v1 (listT s.data.toList).1 W → RdT v2 (listT s.data.toList).1 W → Calls Tryz.prog 18 #[v1, v2] W fun e w' => e = .returned (.bool true) ∧ Below W.heap.size W w') := fun v1 v2 W h1 h2 => same_any v1 v2 _ W h1 h2 (by
    have := listT_len s.data.toList
    rw [size_list] at this
    omega)
  clear hw
  generalize listT s.data.toList = LT at *
  obtain ⟨Lt, Ls, Ln, Le⟩ := LT
  dsimp only at *
  go_enter Tryz.func4, Tryz.ntmps4
  go_wp2_with fail
  refine HA.out.mono ?_
  rintro e w1 ⟨rfl, hb1⟩
  have HB1 : Hid (Below w.heap.size w w1) := hb1
  clear hb1
  go_wp2_with fail
  refine (HL.out _ HB1.out).mono ?_
  rintro e w2 ⟨v2, rfl, ho2, hb2⟩
  have HB2 : Hid (Below w.heap.size w w2) := bel_trans HB1.out hb2
  have HR2 : Hid (RdT v2 Lt w2) := ho2.rd
  obtain ⟨a2, c2, rfl⟩ := ho2.form
  clear hb2 ho2
  go_wp2_with fail
  refine (HR.out _).mono ?_
  rintro e w3 ⟨v3, rfl, ho3, hb3⟩
  have HB3 : Hid (Below w.heap.size w w3) := bel_trans HB2.out hb3
  have HR3 : Hid (RdT v3 Lt w3) := ho3.rd
  have HR23 : Hid (RdT _ Lt w3) := HR2.out.below hb3
  obtain ⟨a3, c3, rfl⟩ := ho3.form
  clear hb3 ho3
  go_wp2_with fail
  refine (HS.out _ _ _ HR23.out HR3.out).mono ?_
  rintro e w4 ⟨rfl, hb4⟩
  have HB4 : Hid (Below w.heap.size w w4) := bel_trans HB3.out hb4
  clear hb4
  go_wp2
  go_ret
  exact ⟨ret_bool (by simp), HB4.out⟩

end Tt
end Go.Proofs.YtgdecgagdacipaaGreatDoor
