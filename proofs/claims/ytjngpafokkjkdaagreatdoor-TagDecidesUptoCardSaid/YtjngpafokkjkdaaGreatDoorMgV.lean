/- Several texts as one. -/
import Derived.Test.YtjngpafokkjkdaaGreatDoorMgT
import Derived.Test.YtjngpafokkjkdaaGreatDoorMgU
import Derived.Test.YtjngpafokkjkdaaGreatDoorMgO
import Derived.Deep.RegionHeld3
/-
  Parse, whole.
-/
set_option linter.unusedVariables false
set_option linter.unusedSimpArgs false
namespace Go.Proofs.YtjngpafokkjkdaaGreatDoor
open Go.RowKit
namespace Bs

theorem takersC : TakersC := by
  intro form P w hf h
  rcases hf with rfl | rfl | rfl
  · exact takers_0 P w h
  · exact takers_1 P w h
  · exact takers_2 P w h
theorem Parse_any (l : List UInt8) (now : Int) (hl : l.length ≤ 140737488355328) (hn : I64 now) (w : World) (tb : Tb w) :
    Calls Tryz.prog 38 #[.string (str l), .int .i64 now] w fun e w' => e = .returned (.tuple #[.int .i64 (parseS l now).1, .int .i64 (parseS l now).2.1, .int .i64 (parseS l now).2.2.1, .int .i64 (parseS l now).2.2.2]) ∧ Below w.heap.size w w' := Parse_any0 takersC l now hl hn w tb

end Bs
end Go.Proofs.YtjngpafokkjkdaaGreatDoor

/-
  tag: the date of a name, where there is one and the resource has a time.
-/
set_option linter.unusedVariables false
set_option linter.unusedSimpArgs false
namespace Go.Proofs.YtjngpafokkjkdaaGreatDoor
open Go.RowKit Go.Shelf
namespace Tt
open Oc Tg

set_option maxRecDepth 100000 in
set_option maxHeartbeats 2000000 in
theorem date_yes (n : List UInt8) (hn : n.length ≤ 100) {g : Nat} {m : List UInt8} {fv : Value} {fs : List Fd.Fl} {s : St} {now : Int} {w : World} (h : Ask w g m fv fs s now) (v : List UInt8) (hv : Fd.vals n fs = [v]) (hth : s.th = true) (htd : s.td = true) (hnow : Bs.I64 now) (tb : Bs.Tb w) :
    Calls Tryz.prog 21 #[.pointer (some ⟨g, 0, none⟩), .string (str n)] w fun e w' => e = .returned (.tuple #[.int .i64 (Bs.parseS v now).1, .bool ((Bs.parseS v now).2.2.1 == 0)]) ∧ Below w.heap.size w w' := by
  have hlen := Fd.len_sumF fs
  have hsum := h.sum
  have HA : Hid (Calls _ _ _ _ _) := Fd.All_any fv fs n (by omega) ((Fd.each_sumF fs).mono hsum) (by omega) w h.rd
  have hvl : v.length ≤ 1048576 := by
    have h1 := Fd.sumV_filter n fs
    rw [hv] at h1
    simp [Fd.sumV] at h1
    omega
  rw [hv] at HA
  have c1 := h.ab.c1
  have HP : Hid (∀ W, Below w.heap.size w W → Calls Tryz.prog 38 #[.string (str v), .int .i64 now] W fun e w' => e = .returned (.tuple #[.int .i64 (Bs.parseS v now).1, .int .i64 (Bs.parseS v now).2.1, .int .i64 (Bs.parseS v now).2.2.1, .int .i64 (Bs.parseS v now).2.2.2]) ∧ Below W.heap.size W w') := fun W hb => Bs.Parse_any v now (by omega) hnow W (tb.bel hb)
  have HC : Hid (∀ W, Below w.heap.size w W → W.cell? ⟨g, 2, none⟩ = some (.bool true) ∧ W.cell? ⟨g, 7, none⟩ = some (.bool true) ∧ W.cell? ⟨g, 8, none⟩ = some (.int .i64 now)) := fun W hb => ⟨by have := (h.ab.below hb).c2; rwa [hth] at this, by have := (h.ab.below hb).c7; rwa [htd] at this, (h.ab.below hb).c8⟩
  clear h hsum hlen tb hv
  generalize Bs.parseS v now = P at *
  obtain ⟨P1, P2, P3, P4⟩ := P
  dsimp only at *
  generalize str n = N at *
  go_enter Tryz.func21, Tryz.ntmps21
  go_wp2_with fail
  refine HA.out.mono ?_
  rintro e w2 ⟨u, rfl, ho, hb2⟩
  have HB2 : Hid (Below w.heap.size w w2) := hb2
  obtain ⟨ua, uc, rfl, hcs⟩ := ho.rd
  rcases hcs with hh | ⟨g2, o2, rfl, hlc, hcell⟩
  · cases hh
  have q0 := hcell 0 (by simp)
  clear hcell hb2 ho
  simp only [Nat.add_zero] at q0
  rw [show ([v] : List (List UInt8)).getD 0 [] = v from rfl] at q0
  obtain ⟨k1, k2, k3⟩ := HC.out w2 HB2.out
  have HBd : Hid (Below w.heap.size w w2.drew) := bel_trans HB2.out ⟨rfl, rfl, rfl, Nat.le_refl _, fun _ _ => rfl⟩
  have d0 : w2.drew.cell? ⟨g2, o2, none⟩ = some (.string (str v)) := q0
  have d3 : w2.drew.cell? ⟨g, 8, none⟩ = some (.int .i64 now) := k3
  have HK : Hid (∀ W, Below w2.heap.size w2 W → W.cell? ⟨g2, o2, none⟩ = some (.string (str v)) ∧ W.cell? ⟨g, 8, none⟩ = some (.int .i64 now)) := fun W hB => ⟨by rw [hB.cell (World.block_lt_of_cell? w2 _ q0)]; exact q0, by rw [hB.cell (World.block_lt_of_cell? w2 _ k3)]; exact k3⟩
  have HBe : Hid (Below w2.heap.size w2 w2.drew) := ⟨rfl, rfl, rfl, Nat.le_refl _, fun _ _ => rfl⟩
  generalize str v = V at *
  have hl1 : ([v] : List (List UInt8)).length = 1 := rfl
  go_wp2_with fail
  go_region_held3 (fun W => W.cell? ⟨g2, o2, none⟩ = some (.string V) ∧ W.cell? ⟨g, 8, none⟩ = some (.int .i64 now)) (first | exact HK.out _ HBn.out | exact HK.out _ HBe.out) (first | (go_at_call 38; refine (HP.out _ HBd.out).mono ?_; rintro e wn ⟨rfl, hbn⟩; have HBn : Hid (Below w2.heap.size w2 wn) := bel_trans HBe.out hbn; clear hbn))
  all_goals
    go_wp2
    go_ret2
    exact ⟨rfl, HB2.out.trans (HBn.out.mono HB2.out.size)⟩

end Tt
end Go.Proofs.YtjngpafokkjkdaaGreatDoor
