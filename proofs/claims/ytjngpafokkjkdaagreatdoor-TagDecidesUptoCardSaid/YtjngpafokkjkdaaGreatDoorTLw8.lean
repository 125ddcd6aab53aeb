/-
  The law's own plain and state (written by mktlw.py).
-/
import Derived.Test.YtjngpafokkjkdaaGreatDoorTRk8
import Derived.Test.YtjngpafokkjkdaaGreatDoorFOp
import Derived.Deep.RegionHeld3
set_option linter.unusedVariables false
set_option linter.unusedSimpArgs false
namespace Go.Proofs.YtjngpafokkjkdaaGreatDoor
open Go.RowKit Go.Shelf
namespace Fd
open Oc Tg

set_option maxRecDepth 100000 in
set_option maxHeartbeats 2000000 in
theorem plain8_any (v : Value) (t : List Fl) (w : World) (h : RdF v t w) (hl : t.length ≤ 16777216) :
    Calls Tryz.prog 8 #[v] w fun e w' => ∃ u, e = .returned u ∧ OwnF 56 w.heap.size u t w' ∧ Below w.heap.size w w' := by
  have HR : Hid (RdF v t w) := h
  obtain ⟨a, c, rfl, _⟩ := h
  go_enter Tryz.func8, Tryz.ntmps8
  go_wp2
  go_loopw [3, 8] (fun ov i wr => ∃ k : Nat, k ≤ t.length ∧ i = .int .i64 k ∧ Hid (OwnF 56 w.heap.size ov (t.take k) wr) ∧ Hid (Below w.heap.size w wr)) (fun _ i _ => t.length - (intOf i).toNat)
  case atStart => exact ⟨0, Nat.zero_le _, rfl, ownF_nil _ _ _, Below.refl _ _⟩
  case round =>
    obtain ⟨k, hk, rfl, hown, hbl⟩ := hrel
    have hsz := hbl.out.size
    by_cases hlt : k < t.length
    · obtain ⟨a', c', e', hcs⟩ := HR.out.below hbl.out
      injection e' with e1 _ e2
      subst e1 e2
      rcases hcs with h | ⟨g, o, rfl, hlc, hcell⟩
      · rw [h] at hlt; simp at hlt
      obtain ⟨p0, p1⟩ := hcell k hlt
      have HTk : Hid (t.take (k + 1) = t.take k ++ [nth t k]) := take_nth t k hlt
      have hlk : (t.take k).length + 1 ≤ 2147483648 := by rw [List.length_take]; omega
      generalize nth t k = p at *
      obtain ⟨pn, pv⟩ := p
      dsimp only at p0 p1
      generalize hn : str pn = N at p0
      generalize hv : str pv = V at p1
      have HN : Hid (N = str pn) := hn.symm
      have HV : Hid (V = str pv) := hv.symm
      have hb1 : Below wr.heap.size wr (wr.alloc (.cells #[.string N, .string V] 31)) := (Below.refl _ wr).alloc (Nat.le_refl _) _
      have HO1 : Hid (OwnF 56 w.heap.size _ (t.take k) (wr.alloc (.cells #[.string N, .string V] 31))) := hown.out.below hb1
      have HB1 : Hid (Below w.heap.size w (wr.alloc (.cells #[.string N, .string V] 31))) := bel_trans hbl.out hb1
      have hs1 : w.heap.size ≤ (wr.alloc (.cells #[.string N, .string V] 31)).heap.size := HB1.out.size
      clear hcell hn hv hb1
      go_wp2_with (at_builtin; go_must (refine wp_appF 56 34 infoF2 Tryz.underlying34 rfl (.tmp 12) (.tmp 18) rfl w.heap.size _ (t.take k) _ (pn, pv) _ _ HN.out HV.out rfl HO1.out _ rfl (by simp) hlk hs1 ?_); intro v6 w6 hown6 hb6)
      have HO6 : Hid (OwnF 56 w.heap.size v6 (t.take (k + 1)) w6) := (by rw [HTk.out]; exact hown6 : OwnF _ _ v6 (t.take (k + 1)) w6)
      have HB6 : Hid (Below w.heap.size w w6) := HB1.out.trans hb6
      clear hown6 hb6
      go_roundw
      case rel => exact ⟨k + 1, by omega, by go_num, HO6, HB6⟩
      case measure => simp [intOf]; omega
    · obtain rfl : k = t.length := by omega
      rw [List.take_length] at hown
      go_wp2
      go_ret
      exact ⟨_, rfl, hown.out, hbl.out⟩


end Fd

namespace Tt
open Oc Tg

set_option maxRecDepth 100000 in
set_option maxHeartbeats 4000000 in
theorem state8_any (s : St) (w : World) :
    Calls Tryz.prog 9 #[.agg #[.bool s.th, .bool s.own.1, .string (str s.own.2), .bool s.tg, .int .i64 s.tm, .bool s.td]] w fun e w' => e = .returned (.agg #[.bool s.th, .bool s.own.1, .string (str s.own.2), .bool s.tg, .int .i64 s.tm, .bool s.td]) ∧ Below w.heap.size w w' := by
  obtain ⟨th, own, tg, tm, td⟩ := s
  obtain ⟨ob, ot⟩ := own
  dsimp only
  generalize str ot = OT at *
  obtain ⟨w1, hw1⟩ : ∃ w1, w1 = w.alloc (.cells #[.bool th, .bool ob, .string OT, .bool tg, .int .i64 tm, .bool td] 28) := ⟨_, rfl⟩
  obtain ⟨w2, hw2⟩ : ∃ w2, w2 = w1.alloc (.cells #[.bool false, .bool false, .string ⟨#[]⟩, .bool false, .int .i64 0, .bool false] 38) := ⟨_, rfl⟩
  have z1 : w1.heap.size = w.heap.size + 1 := by rw [hw1]; simp
  have HB2 : Hid (Below w.heap.size w w2) := (by rw [hw2, hw1]; exact ((Below.refl _ w).alloc (Nat.le_refl _) _).alloc (by simp) _ : Below _ _ _)
  have R0 : w2.heap[w.heap.size]? = some (.cells #[.bool th, .bool ob, .string OT, .bool tg, .int .i64 tm, .bool td] 28 (0, 0)) := by
    rw [hw2, Lib.alloc_old w1 _ _ (by omega), hw1]; exact heap_alloc_new w _
  have R1 : w2.heap[w.heap.size + 1]? = some (.cells #[.bool false, .bool false, .string ⟨#[]⟩, .bool false, .int .i64 0, .bool false] 38 (0, 0)) := by
    rw [hw2, ← z1]; exact heap_alloc_new w1 _
  have HK : Hid (∀ W : World, Below w2.heap.size w2 W → (W.cell? ⟨w.heap.size, 0, none⟩ = some (.bool th) ∧ W.cell? ⟨w.heap.size, 1, none⟩ = some (.bool ob) ∧ W.cell? ⟨w.heap.size, 2, none⟩ = some (.string OT) ∧ W.cell? ⟨w.heap.size, 3, none⟩ = some (.bool tg) ∧ W.cell? ⟨w.heap.size, 4, none⟩ = some (.int .i64 tm) ∧ W.cell? ⟨w.heap.size, 5, none⟩ = some (.bool td))) := fun W hb => by
    have R := (hb.block _ (Array.getElem?_eq_some_iff.1 R0).1).trans R0
    exact ⟨by have := Lib.cell_of_heap R 0; simpa using this, by have := Lib.cell_of_heap R 1; simpa using this, by have := Lib.cell_of_heap R 2; simpa using this, by have := Lib.cell_of_heap R 3; simpa using this, by have := Lib.cell_of_heap R 4; simpa using this, by have := Lib.cell_of_heap R 5; simpa using this⟩
  have HR : Hid (∀ W : World, Below w2.heap.size w2 W → W.heap[w.heap.size + 1]? = some (.cells #[.bool false, .bool false, .string ⟨#[]⟩, .bool false, .int .i64 0, .bool false] 38 (0, 0))) := fun W hb => (hb.block _ (Array.getElem?_eq_some_iff.1 R1).1).trans R1
  have HKd : Hid (∀ W : World, (W.cell? ⟨w.heap.size, 0, none⟩ = some (.bool th) ∧ W.cell? ⟨w.heap.size, 1, none⟩ = some (.bool ob) ∧ W.cell? ⟨w.heap.size, 2, none⟩ = some (.string OT) ∧ W.cell? ⟨w.heap.size, 3, none⟩ = some (.bool tg) ∧ W.cell? ⟨w.heap.size, 4, none⟩ = some (.int .i64 tm) ∧ W.cell? ⟨w.heap.size, 5, none⟩ = some (.bool td)) → (W.drew.cell? ⟨w.heap.size, 0, none⟩ = some (.bool th) ∧ W.drew.cell? ⟨w.heap.size, 1, none⟩ = some (.bool ob) ∧ W.drew.cell? ⟨w.heap.size, 2, none⟩ = some (.string OT) ∧ W.drew.cell? ⟨w.heap.size, 3, none⟩ = some (.bool tg) ∧ W.drew.cell? ⟨w.heap.size, 4, none⟩ = some (.int .i64 tm) ∧ W.drew.cell? ⟨w.heap.size, 5, none⟩ = some (.bool td))) := fun W h => h
  have HKs : Hid (∀ (W : World) (i : Nat) (v : Value), (W.cell? ⟨w.heap.size, 0, none⟩ = some (.bool th) ∧ W.cell? ⟨w.heap.size, 1, none⟩ = some (.bool ob) ∧ W.cell? ⟨w.heap.size, 2, none⟩ = some (.string OT) ∧ W.cell? ⟨w.heap.size, 3, none⟩ = some (.bool tg) ∧ W.cell? ⟨w.heap.size, 4, none⟩ = some (.int .i64 tm) ∧ W.cell? ⟨w.heap.size, 5, none⟩ = some (.bool td)) → ((W.setCell ⟨w.heap.size + 1, i, none⟩ v).cell? ⟨w.heap.size, 0, none⟩ = some (.bool th) ∧ (W.setCell ⟨w.heap.size + 1, i, none⟩ v).cell? ⟨w.heap.size, 1, none⟩ = some (.bool ob) ∧ (W.setCell ⟨w.heap.size + 1, i, none⟩ v).cell? ⟨w.heap.size, 2, none⟩ = some (.string OT) ∧ (W.setCell ⟨w.heap.size + 1, i, none⟩ v).cell? ⟨w.heap.size, 3, none⟩ = some (.bool tg) ∧ (W.setCell ⟨w.heap.size + 1, i, none⟩ v).cell? ⟨w.heap.size, 4, none⟩ = some (.int .i64 tm) ∧ (W.setCell ⟨w.heap.size + 1, i, none⟩ v).cell? ⟨w.heap.size, 5, none⟩ = some (.bool td))) := fun W i v h => by
    obtain ⟨h0, h1, h2, h3, h4, h5⟩ := h
    refine ⟨?_, ?_, ?_, ?_, ?_, ?_⟩
    all_goals
      rw [World.cell?_of_block (w := W) (heap_setCell_other W _ _ _ (by simp))]
      assumption
  have HBn : Hid (Below w2.heap.size w2 w2) := Below.refl _ _
  have HRf : Hid (∀ W, _) := fun W => ref_any ob OT W
  have k0 := HK.out w2 (Below.refl _ _)
  have r1 := HR.out w2 (Below.refl _ _)
  have hbd : Hid (Below w2.heap.size w2 w2.drew) := ⟨rfl, rfl, rfl, Nat.le_refl _, fun _ _ => rfl⟩
  have d0 := HK.out w2.drew hbd.out
  have r2 := HR.out w2.drew hbd.out
  obtain ⟨k0, k1, k2, k3, k4, k5⟩ := k0
  obtain ⟨d0, d1, d2, d3, d4, d5⟩ := d0
  clear R0 R1
  go_enter Tryz.func9, Tryz.ntmps9
  go_wp2_with fail
  rw [← hw1, ← hw2]
  clear hw1 hw2
  go_region_held3 (fun W => (W.cell? ⟨w.heap.size, 0, none⟩ = some (.bool th) ∧ W.cell? ⟨w.heap.size, 1, none⟩ = some (.bool ob) ∧ W.cell? ⟨w.heap.size, 2, none⟩ = some (.string OT) ∧ W.cell? ⟨w.heap.size, 3, none⟩ = some (.bool tg) ∧ W.cell? ⟨w.heap.size, 4, none⟩ = some (.int .i64 tm) ∧ W.cell? ⟨w.heap.size, 5, none⟩ = some (.bool td))) (first | with_reducible exact HK.out _ HBn.out | with_reducible exact HK.out _ hbd.out | ((try with_reducible refine HKd.out _ ?_); (repeat (with_reducible refine HKs.out _ _ _ ?_)); with_reducible exact HK.out _ HBn.out)) (first | (go_at_call 17; refine (HRf.out _).mono ?_; rintro e wn ⟨rfl, hbn⟩; have HBn : Hid (Below w2.heap.size w2 wn) := bel_trans hbd.out hbn; have rn := HR.out _ HBn.out; have f0 := Lib.frozen_of_heap rn 0; have f1 := Lib.frozen_of_heap rn 1; have f2 := Lib.frozen_of_heap rn 2; have f3 := Lib.frozen_of_heap rn 3; have f4 := Lib.frozen_of_heap rn 4; have f5 := Lib.frozen_of_heap rn 5; have x0 := Lib.cell_of_heap rn 0; have x1 := Lib.cell_of_heap rn 1; have x2 := Lib.cell_of_heap rn 2; have x3 := Lib.cell_of_heap rn 3; have x4 := Lib.cell_of_heap rn 4; have x5 := Lib.cell_of_heap rn 5; simp at x0 x1 x2 x3 x4 x5; clear hbn rn))
  all_goals
    go_wp2
    refine bodyPost_ret (v := .agg #[.bool th, .bool ob, .string OT, .bool tg, .int .i64 tm, .bool td]) (by simp [results, Tryz.results9, go_sem, x0, x1, x2, x3, x4, x5]) rfl ?_
    refine ⟨rfl, ?_⟩
    have hbb : Below w.heap.size w wn := HB2.out.trans (HBn.out.mono HB2.out.size)
    (try (with_reducible refine Below.drew ?_))
    repeat (refine Below.setCell ?_ (by show w.heap.size ≤ w.heap.size + 1; omega) _)
    exact hbb

end Tt
end Go.Proofs.YtjngpafokkjkdaaGreatDoor
