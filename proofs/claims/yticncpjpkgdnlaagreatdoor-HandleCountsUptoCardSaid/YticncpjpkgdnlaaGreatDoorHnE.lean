/-
  handle: takes (written by mkhne.py)
-/
import Derived.Test.YticncpjpkgdnlaaGreatDoorMgK
import Derived.BigQuiet
import Derived.Deep.RegionHeld3
set_option linter.unusedVariables false
set_option linter.unusedSimpArgs false
set_option maxRecDepth 100000
namespace Go.Proofs.YticncpjpkgdnlaaGreatDoor
open Go.RowKit Go.Shelf
namespace Hn
open Oc Tg _root_.Go.Proofs.YticncpjpkgdnlaaGreatDoor.Fd _root_.Go.Proofs.YticncpjpkgdnlaaGreatDoor.Ck _root_.Go.Proofs.YticncpjpkgdnlaaGreatDoor.Ms

def SBh (w W : World) : Prop := Below w.heap.size w W
theorem SBh.refl (w : World) : SBh w w := Below.refl _ w
theorem SBh.drew {w W : World} (h : SBh w W) : SBh w W.drew := Below.drew h
theorem equalIn_func (d n : Nat) (W : World) : (Op.equalIn (d + 1) 37 (.func (.func n) #[] #[]) .nilFunc).run Tryz.prog W = .ok false W := by
  simp [Op.equalIn, run_underlying Tryz.underlying37]
theorem equal_func (n : Nat) (W : World) : (Op.equal 37 (.func (.func n) #[] #[]) .nilFunc).run Tryz.prog W = .ok false W := equalIn_func 9999 n W
theorem neq_func (n : Nat) (W : World) : (binOp .neq 37 (.func (.func n) #[] #[]) .nilFunc).run Tryz.prog W = .ok (.bool true) W := by
  simp only [binOp]
  simp [equal_func n W]
theorem SBh.on {w a b : World} (h : SBh w a) (k : Below a.heap.size a b) : SBh w b := bel_tr h k h.size

set_option maxHeartbeats 4000000 in
theorem takes_text (w : World) : Calls Tryz.prog 10 #[.agg #[.func (.func 14) #[] #[], .func (.func 15) #[] #[], .func (.func 16) #[] #[]], .agg #[.int .i64 1, .string ⟨#[]⟩, .string ⟨#[104, 105]⟩, .string ⟨#[97, 47, 98]⟩, .int .i64 200, .int .i64 0]] w fun e w' => e = .returned (.bool true) ∧ Below w.heap.size w w' := by
  obtain ⟨w1, hw1⟩ : ∃ w1, w1 = w.alloc (.cells #[.func (.func 14) #[] #[], .func (.func 15) #[] #[], .func (.func 16) #[] #[]] 47) := ⟨_, rfl⟩
  have hb1 : Below w.heap.size w w1 := by rw [hw1]; exact (Below.refl _ w).alloc (Nat.le_refl _) _
  have hs1 : w1.heap.size = w.heap.size + 1 := by rw [hw1]; simp
  have hK1 : Blk 47 w1 w.heap.size [.func (.func 14) #[] #[], .func (.func 15) #[] #[], .func (.func 16) #[] #[]] := by rw [hw1]; exact heap_alloc_new w _
  obtain ⟨w2, hw2⟩ : ∃ w2, w2 = w1.alloc (.cells #[.int .i64 1, .string ⟨#[]⟩, .string ⟨#[104, 105]⟩, .string ⟨#[97, 47, 98]⟩, .int .i64 200, .int .i64 0] 39) := ⟨_, rfl⟩
  have hb2 : Below w1.heap.size w1 w2 := by rw [hw2]; exact (Below.refl _ w1).alloc (Nat.le_refl _) _
  have hH2 : Blk 39 w2 (w.heap.size + 1) [.int .i64 1, .string ⟨#[]⟩, .string ⟨#[104, 105]⟩, .string ⟨#[97, 47, 98]⟩, .int .i64 200, .int .i64 0] := by rw [hw2, ← hs1]; exact heap_alloc_new w1 _
  have hK2 : Blk 47 w2 w.heap.size [.func (.func 14) #[] #[], .func (.func 15) #[] #[], .func (.func 16) #[] #[]] := hK1.below hb2
  have HB2 : Hid (Below w.heap.size w w2) := bel_tr hb1 hb2 (by omega)
  have HW2 : Hid (w2 = (w.alloc (.cells #[.func (.func 14) #[] #[], .func (.func 15) #[] #[], .func (.func 16) #[] #[]] 47)).alloc (.cells #[.int .i64 1, .string ⟨#[]⟩, .string ⟨#[104, 105]⟩, .string ⟨#[97, 47, 98]⟩, .int .i64 200, .int .i64 0] 39)) := (by rw [hw2, hw1] : _ = _)
  have HK : Hid (∀ W, SBh w2 W → (W.cell? ⟨w.heap.size, 0, none⟩ = some (.func (.func 14) #[] #[]) ∧ W.cell? ⟨w.heap.size, 1, none⟩ = some (.func (.func 15) #[] #[]) ∧ W.cell? ⟨w.heap.size, 2, none⟩ = some (.func (.func 16) #[] #[]) ∧ W.cell? ⟨w.heap.size + 1, 0, none⟩ = some (.int .i64 1) ∧ W.cell? ⟨w.heap.size + 1, 1, none⟩ = some (.string ⟨#[]⟩) ∧ W.cell? ⟨w.heap.size + 1, 2, none⟩ = some (.string ⟨#[104, 105]⟩) ∧ W.cell? ⟨w.heap.size + 1, 3, none⟩ = some (.string ⟨#[97, 47, 98]⟩) ∧ W.cell? ⟨w.heap.size + 1, 4, none⟩ = some (.int .i64 200) ∧ W.cell? ⟨w.heap.size + 1, 5, none⟩ = some (.int .i64 0)) ∧ SBh w2 W) := fun W hW => by
    have a := hK2.below hW
    have b := hH2.below hW
    exact ⟨⟨a.cell 0 rfl, a.cell 1 rfl, a.cell 2 rfl, b.cell 0 rfl, b.cell 1 rfl, b.cell 2 rfl, b.cell 3 rfl, b.cell 4 rfl, b.cell 5 rfl⟩, hW⟩
  have HU : Hid (∀ W, Calls Tryz.prog 14 #[.agg #[.int .i64 1, .string ⟨#[]⟩, .string ⟨#[104, 105]⟩, .string ⟨#[97, 47, 98]⟩, .int .i64 200, .int .i64 0]] W fun e w' => e = .returned (.agg #[.int .i64 1, .string ⟨#[]⟩, .string ⟨#[104, 105]⟩, .string ⟨#[97, 47, 98]⟩, .int .i64 200, .int .i64 0]) ∧ Below W.heap.size W w') := fun W => usedByText_any 1 200 0 ⟨#[]⟩ ⟨#[104, 105]⟩ ⟨#[97, 47, 98]⟩ W
  have HR : Hid (∀ W, Calls Tryz.prog 15 #[.agg #[.int .i64 1, .string ⟨#[]⟩, .string ⟨#[104, 105]⟩, .string ⟨#[97, 47, 98]⟩, .int .i64 200, .int .i64 0]] W fun e w' => e = .returned (.bool true) ∧ Below W.heap.size W w') := fun W => isText_ab W 1 0 ⟨#[]⟩ ⟨#[104, 105]⟩
  have hnf := fun W => neq_func 16 W
  have HBn : Hid (SBh w2 w2) := SBh.refl w2
  clear hw1 hw2 hb1 hb2 hs1 hK1 hK2 hH2
  go_enter Tryz.func10, Tryz.ntmps10
  go_wp2_with fail
  rw [← HW2.out]
  go_region_held3 (fun W => (W.cell? ⟨w.heap.size, 0, none⟩ = some (.func (.func 14) #[] #[]) ∧ W.cell? ⟨w.heap.size, 1, none⟩ = some (.func (.func 15) #[] #[]) ∧ W.cell? ⟨w.heap.size, 2, none⟩ = some (.func (.func 16) #[] #[]) ∧ W.cell? ⟨w.heap.size + 1, 0, none⟩ = some (.int .i64 1) ∧ W.cell? ⟨w.heap.size + 1, 1, none⟩ = some (.string ⟨#[]⟩) ∧ W.cell? ⟨w.heap.size + 1, 2, none⟩ = some (.string ⟨#[104, 105]⟩) ∧ W.cell? ⟨w.heap.size + 1, 3, none⟩ = some (.string ⟨#[97, 47, 98]⟩) ∧ W.cell? ⟨w.heap.size + 1, 4, none⟩ = some (.int .i64 200) ∧ W.cell? ⟨w.heap.size + 1, 5, none⟩ = some (.int .i64 0)) ∧ SBh w2 W)
    ((refine HK.out _ ?_; first | with_reducible exact HBn.out | with_reducible exact SBh.drew HBn.out))
    (first
      | (go_at_call 14; refine (HU.out _).mono ?_; rintro e wS ⟨rfl, hbS⟩; have HBn : Hid (SBh w2 wS) := SBh.on (And.right (by assumption)) hbS; clear hbS)
      | (go_at_call 15; refine (HR.out _).mono ?_; rintro e wT ⟨rfl, hbT⟩; have HBn : Hid (SBh w2 wT) := SBh.on (And.right (by assumption)) hbT; clear hbT))
  all_goals
    have HBf := HBn.out
    have HB9 : Hid (Below w.heap.size w wT) := bel_tr HB2.out HBf HB2.out.size
    clear HBf HBn HK HU HR
    go_wp2
    refine bodyPost_ret (v := .bool true) (by simp [results, Tryz.results10, go_sem]) rfl ⟨rfl, HB9.out⟩

set_option maxHeartbeats 4000000 in
theorem takes_echo (w : World) : Calls Tryz.prog 10 #[.agg #[.func (.func 23) #[] #[], .func (.func 24) #[] #[], .func (.func 25) #[] #[]], .agg #[.int .i64 4, .string ⟨#[]⟩, .string ⟨#[]⟩, .string ⟨#[]⟩, .int .i64 0, .int .i64 0]] w fun e w' => e = .returned (.bool true) ∧ Below w.heap.size w w' := by
  obtain ⟨w1, hw1⟩ : ∃ w1, w1 = w.alloc (.cells #[.func (.func 23) #[] #[], .func (.func 24) #[] #[], .func (.func 25) #[] #[]] 47) := ⟨_, rfl⟩
  have hb1 : Below w.heap.size w w1 := by rw [hw1]; exact (Below.refl _ w).alloc (Nat.le_refl _) _
  have hs1 : w1.heap.size = w.heap.size + 1 := by rw [hw1]; simp
  have hK1 : Blk 47 w1 w.heap.size [.func (.func 23) #[] #[], .func (.func 24) #[] #[], .func (.func 25) #[] #[]] := by rw [hw1]; exact heap_alloc_new w _
  obtain ⟨w2, hw2⟩ : ∃ w2, w2 = w1.alloc (.cells #[.int .i64 4, .string ⟨#[]⟩, .string ⟨#[]⟩, .string ⟨#[]⟩, .int .i64 0, .int .i64 0] 39) := ⟨_, rfl⟩
  have hb2 : Below w1.heap.size w1 w2 := by rw [hw2]; exact (Below.refl _ w1).alloc (Nat.le_refl _) _
  have hH2 : Blk 39 w2 (w.heap.size + 1) [.int .i64 4, .string ⟨#[]⟩, .string ⟨#[]⟩, .string ⟨#[]⟩, .int .i64 0, .int .i64 0] := by rw [hw2, ← hs1]; exact heap_alloc_new w1 _
  have hK2 : Blk 47 w2 w.heap.size [.func (.func 23) #[] #[], .func (.func 24) #[] #[], .func (.func 25) #[] #[]] := hK1.below hb2
  have HB2 : Hid (Below w.heap.size w w2) := bel_tr hb1 hb2 (by omega)
  have HW2 : Hid (w2 = (w.alloc (.cells #[.func (.func 23) #[] #[], .func (.func 24) #[] #[], .func (.func 25) #[] #[]] 47)).alloc (.cells #[.int .i64 4, .string ⟨#[]⟩, .string ⟨#[]⟩, .string ⟨#[]⟩, .int .i64 0, .int .i64 0] 39)) := (by rw [hw2, hw1] : _ = _)
  have HK : Hid (∀ W, SBh w2 W → (W.cell? ⟨w.heap.size, 0, none⟩ = some (.func (.func 23) #[] #[]) ∧ W.cell? ⟨w.heap.size, 1, none⟩ = some (.func (.func 24) #[] #[]) ∧ W.cell? ⟨w.heap.size, 2, none⟩ = some (.func (.func 25) #[] #[]) ∧ W.cell? ⟨w.heap.size + 1, 0, none⟩ = some (.int .i64 4) ∧ W.cell? ⟨w.heap.size + 1, 1, none⟩ = some (.string ⟨#[]⟩) ∧ W.cell? ⟨w.heap.size + 1, 2, none⟩ = some (.string ⟨#[]⟩) ∧ W.cell? ⟨w.heap.size + 1, 3, none⟩ = some (.string ⟨#[]⟩) ∧ W.cell? ⟨w.heap.size + 1, 4, none⟩ = some (.int .i64 0) ∧ W.cell? ⟨w.heap.size + 1, 5, none⟩ = some (.int .i64 0)) ∧ SBh w2 W) := fun W hW => by
    have a := hK2.below hW
    have b := hH2.below hW
    exact ⟨⟨a.cell 0 rfl, a.cell 1 rfl, a.cell 2 rfl, b.cell 0 rfl, b.cell 1 rfl, b.cell 2 rfl, b.cell 3 rfl, b.cell 4 rfl, b.cell 5 rfl⟩, hW⟩
  have HU : Hid (∀ W, Calls Tryz.prog 23 #[.agg #[.int .i64 4, .string ⟨#[]⟩, .string ⟨#[]⟩, .string ⟨#[]⟩, .int .i64 0, .int .i64 0]] W fun e w' => e = .returned (.agg #[.int .i64 4, .string ⟨#[]⟩, .string ⟨#[]⟩, .string ⟨#[]⟩, .int .i64 0, .int .i64 0]) ∧ Below W.heap.size W w') := fun W => usedByNone_any 4 0 0 ⟨#[]⟩ ⟨#[]⟩ ⟨#[]⟩ W
  have HR : Hid (∀ W, Calls Tryz.prog 24 #[.agg #[.int .i64 4, .string ⟨#[]⟩, .string ⟨#[]⟩, .string ⟨#[]⟩, .int .i64 0, .int .i64 0]] W fun e w' => e = .returned (.bool true) ∧ Below W.heap.size W w') := fun W => isAny_any W 4 0 0 ⟨#[]⟩ ⟨#[]⟩ ⟨#[]⟩
  have hnf := fun W => neq_func 25 W
  have HBn : Hid (SBh w2 w2) := SBh.refl w2
  clear hw1 hw2 hb1 hb2 hs1 hK1 hK2 hH2
  go_enter Tryz.func10, Tryz.ntmps10
  go_wp2_with fail
  rw [← HW2.out]
  go_region_held3 (fun W => (W.cell? ⟨w.heap.size, 0, none⟩ = some (.func (.func 23) #[] #[]) ∧ W.cell? ⟨w.heap.size, 1, none⟩ = some (.func (.func 24) #[] #[]) ∧ W.cell? ⟨w.heap.size, 2, none⟩ = some (.func (.func 25) #[] #[]) ∧ W.cell? ⟨w.heap.size + 1, 0, none⟩ = some (.int .i64 4) ∧ W.cell? ⟨w.heap.size + 1, 1, none⟩ = some (.string ⟨#[]⟩) ∧ W.cell? ⟨w.heap.size + 1, 2, none⟩ = some (.string ⟨#[]⟩) ∧ W.cell? ⟨w.heap.size + 1, 3, none⟩ = some (.string ⟨#[]⟩) ∧ W.cell? ⟨w.heap.size + 1, 4, none⟩ = some (.int .i64 0) ∧ W.cell? ⟨w.heap.size + 1, 5, none⟩ = some (.int .i64 0)) ∧ SBh w2 W)
    ((refine HK.out _ ?_; first | with_reducible exact HBn.out | with_reducible exact SBh.drew HBn.out))
    (first
      | (go_at_call 23; refine (HU.out _).mono ?_; rintro e wS ⟨rfl, hbS⟩; have HBn : Hid (SBh w2 wS) := SBh.on (And.right (by assumption)) hbS; clear hbS)
      | (go_at_call 24; refine (HR.out _).mono ?_; rintro e wT ⟨rfl, hbT⟩; have HBn : Hid (SBh w2 wT) := SBh.on (And.right (by assumption)) hbT; clear hbT))
  all_goals
    have HBf := HBn.out
    have HB9 : Hid (Below w.heap.size w wT) := bel_tr HB2.out HBf HB2.out.size
    clear HBf HBn HK HU HR
    go_wp2
    refine bodyPost_ret (v := .bool true) (by simp [results, Tryz.results10, go_sem]) rfl ⟨rfl, HB9.out⟩

end Hn
end Go.Proofs.YticncpjpkgdnlaaGreatDoor
