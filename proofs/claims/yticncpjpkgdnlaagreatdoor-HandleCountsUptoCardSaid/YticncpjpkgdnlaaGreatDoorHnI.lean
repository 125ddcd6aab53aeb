/-
  handle: the law's awake (written by mkhni.py)
-/
import Derived.Test.YticncpjpkgdnlaaGreatDoorHnG
set_option linter.unusedVariables false
set_option linter.unusedSimpArgs false
set_option maxRecDepth 100000
namespace Go.Proofs.YticncpjpkgdnlaaGreatDoor
open Go.RowKit Go.Shelf
namespace Hn
open Oc Tg _root_.Go.Proofs.YticncpjpkgdnlaaGreatDoor.Fd _root_.Go.Proofs.YticncpjpkgdnlaaGreatDoor.Ck _root_.Go.Proofs.YticncpjpkgdnlaaGreatDoor.Ms

set_option maxHeartbeats 4000000 in
theorem awake_any (w : World) : Calls Tryz.prog 4 #[] w fun e w' => e = .returned (.bool true) ∧ Below w.heap.size w w' := by
  have HA : Hid (Calls _ _ _ _ _) := Answer_text w
  have HE : Hid (∀ W, Calls Tryz.prog 7 #[.agg #[.int .i64 4, .string ⟨#[]⟩, .string ⟨#[]⟩, .string ⟨#[]⟩, .int .i64 0, .int .i64 0], .agg #[.string ⟨#[71, 69, 84]⟩, .string ⟨#[47, 120]⟩, .int .i64 0, .int .i64 0, .slice none 0 0, .string ⟨#[]⟩, .slice none 0 0, .int .i64 0, .string ⟨#[]⟩, .int .i64 0, .string ⟨#[]⟩, .string ⟨#[]⟩, .bool false, .slice none 0 0, .int .i64 0], .pointer none] W _) := fun W => Answer_echo W
  go_enter Tryz.func4, Tryz.ntmps4
  go_wp2_with fail
  refine HA.out.mono ?_
  rintro e w2 ⟨a, c, rfl, ho, hb2⟩
  have HB2 : Hid (Below w.heap.size w w2) := hb2
  have HO2 : Hid (OwnF 26 w.heap.size (.slice a 1 c) [(nCT, [97, 47, 98])] w2) := ho
  have hb3 : Below w2.heap.size w2 (w2.alloc (.cells #[.int .i64 200, .string ⟨#[]⟩, .slice a 1 c, .string ⟨#[104, 105]⟩] 36)) := (Below.refl _ w2).alloc (Nat.le_refl _) _
  have HB3 : Hid (Below w.heap.size w (w2.alloc (.cells #[.int .i64 200, .string ⟨#[]⟩, .slice a 1 c, .string ⟨#[104, 105]⟩] 36))) := bel_tr hb2 hb3 hb2.size
  have HM3 : Hid (Blk 36 (w2.alloc (.cells #[.int .i64 200, .string ⟨#[]⟩, .slice a 1 c, .string ⟨#[104, 105]⟩] 36)) w2.heap.size [.int .i64 200, .string ⟨#[]⟩, .slice a 1 c, .string ⟨#[104, 105]⟩]) := (heap_alloc_new w2 _ : Blk _ _ _ _)
  obtain ⟨a', c', e', hcs⟩ := (OwnF.rd (ho.below hb3) : RdF _ _ _)
  injection e' with e1 e0 e2
  clear e0
  subst e1 e2
  rcases hcs with h | ⟨g, o, rfl, hlc, hcell⟩
  · cases h
  obtain ⟨p0, p1⟩ := hcell 0 (by simp)
  have q1 : (w2.alloc (.cells #[.int .i64 200, .string ⟨#[]⟩, .slice (some ⟨g, o, none⟩) 1 c, .string ⟨#[104, 105]⟩] 36)).cell? ⟨g, o + 1, none⟩ = some (.string ⟨#[97, 47, 98]⟩) := p1
  have m0 := HM3.out.cell 0 rfl
  have m2 := HM3.out.cell 2 rfl
  have m3 := HM3.out.cell 3 rfl
  have HZ : Hid (Calls _ _ _ _ _) := HE.out (w2.alloc (.cells #[.int .i64 200, .string ⟨#[]⟩, .slice (some ⟨g, o, none⟩) 1 c, .string ⟨#[104, 105]⟩] 36))
  clear p0 p1 ho hlc hb2 HA HE HO2 hcell hb3
  go_wp2_with fail
  refine HZ.out.mono ?_
  rintro e w4 ⟨a4, c4, rfl, ho4, hb4⟩
  have HB4 : Hid (Below w.heap.size w w4) := bel_tr HB3.out hb4 HB3.out.size
  have HM4 : Hid (Blk 36 w4 w2.heap.size [.int .i64 200, .string ⟨#[]⟩, .slice (some ⟨g, o, none⟩) 1 c, .string ⟨#[104, 105]⟩]) := HM3.out.below hb4
  have hs4 : w.heap.size ≤ w2.heap.size := HB2.out.size
  clear hb4 ho4 HZ m0 m2 m3 q1 HM3 HB3
  generalize hg0 : w2.heap.size = g0 at *
  have r0 := HM4.out.cell 0 rfl
  have r1 := HM4.out.cell 1 rfl
  have r2 := HM4.out.cell 2 rfl
  have r3 := HM4.out.cell 3 rfl
  have rf := HM4.out.free
  have hD4 := HM4.out.lt
  go_wp2
  have h9 := set4_but w4 g0 (.int .i64 200) (.string ⟨#[]⟩) (.slice a4 1 c4) (.string ⟨#[71, 69, 84, 32, 47, 120, 10, 10]⟩)
  refine bodyPost_ret (v := .bool true) (by simp [results, Tryz.results4, go_sem]) rfl ⟨rfl, HB4.out.trans (h9.below (by omega) (fun x hx => by simp at hx; omega))⟩

end Hn
end Go.Proofs.YticncpjpkgdnlaaGreatDoor
