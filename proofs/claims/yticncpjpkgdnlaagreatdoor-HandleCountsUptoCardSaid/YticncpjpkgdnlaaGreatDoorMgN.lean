/- Several texts as one. -/
import Derived.Test.YticncpjpkgdnlaaGreatDoorHnB
import Derived.BigQuiet
import Derived.Deep.RegionHeld3
import Derived.Test.YticncpjpkgdnlaaGreatDoorHnC
/-
  handle: what is used, what is right: by Text and Echo.
-/
set_option linter.unusedVariables false
set_option linter.unusedSimpArgs false
set_option maxRecDepth 100000
namespace Go.Proofs.YticncpjpkgdnlaaGreatDoor
open Go.RowKit Go.Shelf
namespace Hn
open Oc Tg _root_.Go.Proofs.YticncpjpkgdnlaaGreatDoor.Fd _root_.Go.Proofs.YticncpjpkgdnlaaGreatDoor.Ck _root_.Go.Proofs.YticncpjpkgdnlaaGreatDoor.Ms

set_option maxHeartbeats 1000000 in
theorem usedByText_any (k st n : Int) (nm tx md : ByteArray) (w : World) : Calls Tryz.prog 14 #[.agg #[.int .i64 k, .string nm, .string tx, .string md, .int .i64 st, .int .i64 n]] w fun e w' => e = .returned (.agg #[.int .i64 k, .string ⟨#[]⟩, .string tx, .string md, .int .i64 st, .int .i64 0]) ∧ Below w.heap.size w w' := by
  go_enter Tryz.func14, Tryz.ntmps14
  go_wp2
  refine bodyPost_ret (v := .agg #[.int .i64 k, .string ⟨#[]⟩, .string tx, .string md, .int .i64 st, .int .i64 0]) (by simp [results, Tryz.results14, go_sem]) rfl ⟨rfl, ?_⟩
  exact ((Below.refl _ w).alloc (Nat.le_refl _) _).alloc (by simp) _

set_option maxHeartbeats 1000000 in
theorem usedByNone_any (k st n : Int) (nm tx md : ByteArray) (w : World) : Calls Tryz.prog 23 #[.agg #[.int .i64 k, .string nm, .string tx, .string md, .int .i64 st, .int .i64 n]] w fun e w' => e = .returned (.agg #[.int .i64 k, .string ⟨#[]⟩, .string ⟨#[]⟩, .string ⟨#[]⟩, .int .i64 0, .int .i64 0]) ∧ Below w.heap.size w w' := by
  go_enter Tryz.func23, Tryz.ntmps23
  go_wp2
  refine bodyPost_ret (v := .agg #[.int .i64 k, .string ⟨#[]⟩, .string ⟨#[]⟩, .string ⟨#[]⟩, .int .i64 0, .int .i64 0]) (by simp [results, Tryz.results23, go_sem]) rfl ⟨rfl, ?_⟩
  exact ((Below.refl _ w).alloc (Nat.le_refl _) _).alloc (by simp) _

set_option maxHeartbeats 1000000 in
theorem isAny_any (w : World) (k st n : Int) (nm tx md : ByteArray) : Calls Tryz.prog 24 #[.agg #[.int .i64 k, .string nm, .string tx, .string md, .int .i64 st, .int .i64 n]] w fun e w' => e = .returned (.bool true) ∧ Below w.heap.size w w' := by
  go_enter Tryz.func24, Tryz.ntmps24
  go_wp2
  refine bodyPost_ret (v := .bool true) (by simp [results, Tryz.results24, go_sem]) rfl ⟨rfl, (Below.refl _ w).alloc (Nat.le_refl _) _⟩

set_option maxHeartbeats 1000000 in
theorem isStatus_200 (w : World) (k n : Int) (nm tx md : ByteArray) : Calls Tryz.prog 18 #[.agg #[.int .i64 k, .string nm, .string tx, .string md, .int .i64 200, .int .i64 n]] w fun e w' => e = .returned (.bool true) ∧ Below w.heap.size w w' := by
  go_enter Tryz.func18, Tryz.ntmps18
  go_wp2
  refine bodyPost_ret (v := .bool true) (by simp [results, Tryz.results18, go_sem]) rfl ⟨rfl, (Below.refl _ w).alloc (Nat.le_refl _) _⟩

theorem isBare_200 (w : World) : Calls Tryz.prog 40 #[.int .i64 200] w fun e w' => e = .returned (.bool false) ∧ w' = w := by
  go_enter Tryz.func40, Tryz.ntmps40
  go_wp2
  refine bodyPost_ret (v := .bool false) (by simp [results, Tryz.results40, go_sem]) rfl ⟨rfl, rfl⟩

theorem isMedia_ab (w : World) : Calls Tryz.prog 41 #[.string ⟨#[97, 47, 98]⟩] w fun e w' => e = .returned (.bool true) ∧ Below w.heap.size w w' := by
  have HI : Hid (Calls _ _ _ _ _) := IsValue_any ⟨#[97, 47, 98]⟩ (by decide) w
  go_enter Tryz.func41, Tryz.ntmps41
  go_wp2_with fail
  refine HI.out.mono ?_
  rintro e w' ⟨rfl, hb⟩
  have HB : Hid (Below w.heap.size w w') := hb
  rw [show isValue (⟨#[97, 47, 98]⟩ : ByteArray).data.toList = true by decide +kernel]
  clear hb HI
  go_wp2
  refine bodyPost_ret (v := .bool true) (by simp [results, Tryz.results41, go_sem]) rfl ⟨rfl, HB.out⟩

set_option maxHeartbeats 2000000 in
theorem isText_ab (w : World) (k n : Int) (nm tx : ByteArray) : Calls Tryz.prog 15 #[.agg #[.int .i64 k, .string nm, .string tx, .string ⟨#[97, 47, 98]⟩, .int .i64 200, .int .i64 n]] w fun e w' => e = .returned (.bool true) ∧ Below w.heap.size w w' := by
  obtain ⟨w1, hw1⟩ : ∃ w1, w1 = w.alloc (.cells #[.int .i64 k, .string nm, .string tx, .string ⟨#[97, 47, 98]⟩, .int .i64 200, .int .i64 n] 39) := ⟨_, rfl⟩
  have hb1 : Below w.heap.size w w1 := by rw [hw1]; exact (Below.refl _ w).alloc (Nat.le_refl _) _
  have hR1 : Blk 39 w1 w.heap.size [.int .i64 k, .string nm, .string tx, .string ⟨#[97, 47, 98]⟩, .int .i64 200, .int .i64 n] := by rw [hw1]; exact heap_alloc_new w _
  have HR1 : Hid (Blk 39 w1 w.heap.size [.int .i64 k, .string nm, .string tx, .string ⟨#[97, 47, 98]⟩, .int .i64 200, .int .i64 n]) := hR1
  have HB1 : Hid (Below w.heap.size w w1) := hb1
  have HW1 : Hid (w1 = _) := hw1
  have HS : Hid (Calls _ _ _ _ _) := isStatus_200 w1 k n nm tx ⟨#[97, 47, 98]⟩
  have HBr : Hid (∀ W, Calls _ _ _ W _) := fun W => isBare_200 W
  have HMd : Hid (∀ W, Calls _ _ _ W _) := fun W => isMedia_ab W
  clear hw1 hb1 hR1
  go_enter Tryz.func15, Tryz.ntmps15
  go_wp2_with fail
  rw [← HW1.out]
  refine HS.out.mono ?_
  rintro e w2 ⟨rfl, hb2⟩
  have HB2 : Hid (Below w.heap.size w w2) := bel_tr HB1.out hb2 HB1.out.size
  have HR2 : Hid (Blk 39 w2 w.heap.size [.int .i64 k, .string nm, .string tx, .string ⟨#[97, 47, 98]⟩, .int .i64 200, .int .i64 n]) := HR1.out.below hb2
  have r3 := HR2.out.cell 3 rfl
  have r4 := HR2.out.cell 4 rfl
  clear hb2 HW1 HS HR1 HB1
  go_wp2_with fail
  refine (HBr.out w2).mono ?_
  rintro e w3 ⟨rfl, hw3⟩
  rw [hw3]
  clear hw3
  go_wp2_with fail
  refine (HMd.out w2).mono ?_
  rintro e w4 ⟨rfl, hb4⟩
  have HB4 : Hid (Below w.heap.size w w4) := bel_tr HB2.out hb4 HB2.out.size
  clear hb4 r3 r4
  go_wp2
  refine bodyPost_ret (v := .bool true) (by simp [results, Tryz.results15, go_sem]) rfl ⟨rfl, HB4.out⟩

end Hn
end Go.Proofs.YticncpjpkgdnlaaGreatDoor

/-
  handle: takes (written by mkhne.py)
-/
set_option linter.unusedVariables false
set_option linter.unusedSimpArgs false
set_option maxRecDepth 100000
namespace Go.Proofs.YticncpjpkgdnlaaGreatDoor
open Go.RowKit Go.Shelf
namespace Hn
open Oc Tg _root_.Go.Proofs.YticncpjpkgdnlaaGreatDoor.Fd _root_.Go.Proofs.YticncpjpkgdnlaaGreatDoor.Ck _root_.Go.Proofs.YticncpjpkgdnlaaGreatDoor.Ms

def SBh (w W : World) : Prop := Below w.heap.size w W
theorem SBh.refl (w : World) : SBh w w := Below.refl _ w
theorem SBh.drew {w W : World} (h : SBh w W) : SBh w W.drew := Below.drew h
theorem equalIn_func (d n : Nat) (W : World) : (Op.equalIn (d + 1) 37 (.func (.func n) #[] #[]) .nilFunc).run Tryz.prog W = .ok false W := by
  simp [Op.equalIn, run_underlying Tryz.underlying37]
theorem equal_func (n : Nat) (W : World) : (Op.equal 37 (.func (.func n) #[] #[]) .nilFunc).run Tryz.prog W = .ok false W := equalIn_func 9999 n W
theorem neq_func (n : Nat) (W : World) : (binOp .neq 37 (.func (.func n) #[] #[]) .nilFunc).run Tryz.prog W = .ok (.bool true) W := by
  simp only [binOp]
  simp [equal_func n W]
theorem SBh.on {w a b : World} (h : SBh w a) (k : Below a.heap.size a b) : SBh w b := bel_tr h k h.size

set_option maxHeartbeats 4000000 in
theorem takes_text (w : World) : Calls Tryz.prog 10 #[.agg #[.func (.func 14) #[] #[], .func (.func 15) #[] #[], .func (.func 16) #[] #[]], .agg #[.int .i64 1, .string ⟨#[]⟩, .string ⟨#[104, 105]⟩, .string ⟨#[97, 47, 98]⟩, .int .i64 200, .int .i64 0]] w fun e w' => e = .returned (.bool true) ∧ Below w.heap.size w w' := by
  obtain ⟨w1, hw1⟩ : ∃ w1, w1 = w.alloc (.cells #[.func (.func 14) #[] #[], .func (.func 15) #[] #[], .func (.func 16) #[] #[]] 47) := ⟨_, rfl⟩
  have hb1 : Below w.heap.size w w1 := by rw [hw1]; exact (Below.refl _ w).alloc (Nat.le_refl _) _
  have hs1 : w1.heap.size = w.heap.size + 1 := by rw [hw1]; simp
  have hK1 : Blk 47 w1 w.heap.size [.func (.func 14) #[] #[], .func (.func 15) #[] #[], .func (.func 16) #[] #[]] := by rw [hw1]; exact heap_alloc_new w _
  obtain ⟨w2, hw2⟩ : ∃ w2, w2 = w1.alloc (.cells #[.int .i64 1, .string ⟨#[]⟩, .string ⟨#[104, 105]⟩, .string ⟨#[97, 47, 98]⟩, .int .i64 200, .int .i64 0] 39) := ⟨_, rfl⟩
  have hb2 : Below w1.heap.size w1 w2 := by rw [hw2]; exact (Below.refl _ w1).alloc (Nat.le_refl _) _
  have hH2 : Blk 39 w2 (w.heap.size + 1) [.int .i64 1, .string ⟨#[]⟩, .string ⟨#[104, 105]⟩, .string ⟨#[97, 47, 98]⟩, .int .i64 200, .int .i64 0] := by rw [hw2, ← hs1]; exact heap_alloc_new w1 _
  have hK2 : Blk 47 w2 w.heap.size [.func (.func 14) #[] #[], .func (.func 15) #[] #[], .func (.func 16) #[] #[]] := hK1.below hb2
  have HB2 : Hid (Below w.heap.size w w2) := bel_tr hb1 hb2 (by omega)
  have HW2 : Hid (w2 = (w.alloc (.cells #[.func (.func 14) #[] #[], .func (.func 15) #[] #[], .func (.func 16) #[] #[]] 47)).alloc (.cells #[.int .i64 1, .string ⟨#[]⟩, .string ⟨#[104, 105]⟩, .string ⟨#[97, 47, 98]⟩, .int .i64 200, .int .i64 0] 39)) := (by rw [hw2, hw1] : _ = _)
  have HK : Hid (∀ W, SBh w2 W → (W.cell? ⟨w.heap.size, 0, none⟩ = some (.func (.func 14) #[] #[]) ∧ W.cell? ⟨w.heap.size, 1, none⟩ = some (.func (.func 15) #[] #[]) ∧ W.cell? ⟨w.heap.size, 2, none⟩ = some (.func (.func 16) #[] #[]) ∧ W.cell? ⟨w.heap.size + 1, 0, none⟩ = some (.int .i64 1) ∧ W.cell? ⟨w.heap.size + 1, 1, none⟩ = some (.string ⟨#[]⟩) ∧ W.cell? ⟨w.heap.size + 1, 2, none⟩ = some (.string ⟨#[104, 105]⟩) ∧ W.cell? ⟨w.heap.size + 1, 3, none⟩ = some (.string ⟨#[97, 47, 98]⟩) ∧ W.cell? ⟨w.heap.size + 1, 4, none⟩ = some (.int .i64 200) ∧ W.cell? ⟨w.heap.size + 1, 5, none⟩ = some (.int .i64 0)) ∧ SBh w2 W) := fun W hW => by
    have a := hK2.below hW
    have b := hH2.below hW
    exact ⟨⟨a.cell 0 rfl, a.cell 1 rfl, a.cell 2 rfl, b.cell 0 rfl, b.cell 1 rfl, b.cell 2 rfl, b.cell 3 rfl, b.cell 4 rfl, b.cell 5 rfl⟩, hW⟩
  have HU : Hid (∀ W, Calls Tryz.prog 14 #[.agg #[.int .i64 1, .string ⟨#[]⟩, .string ⟨#[104, 105]⟩, .string ⟨#[97, 47, 98]⟩, .int .i64 200, .int .i64 0]] W fun e w' => e = .returned (.agg #[.int .i64 1, .string ⟨#[]⟩, .string ⟨#[104, 105]⟩, .string ⟨#[97, 47, 98]⟩, .int .i64 200, .int .i64 0]) ∧ Below W.heap.size W w') := fun W => usedByText_any 1 200 0 ⟨#[]⟩ ⟨#[104, 105]⟩ ⟨#[97, 47, 98]⟩ W
  have HR : Hid (∀ W, Calls Tryz.prog 15 #[.agg #[.int .i64 1, .string ⟨#[]⟩, .string ⟨#[104, 105]⟩, .string ⟨#[97, 47, 98]⟩, .int .i64 200, .int .i64 0]] W fun e w' => e = .returned (.bool true) ∧ Below W.heap.size W w') := fun W => isText_ab W 1 0 ⟨#[]⟩ ⟨#[104, 105]⟩
  have hnf := fun W => neq_func 16 W
  have HBn : Hid (SBh w2 w2) := SBh.refl w2
  clear hw1 hw2 hb1 hb2 hs1 hK1 hK2 hH2
  go_enter Tryz.func10, Tryz.ntmps10
  go_wp2_with fail
  rw [← HW2.out]
  go_region_held3 (fun W => (W.cell? ⟨w.heap.size, 0, none⟩ = some (.func (.func 14) #[] #[]) ∧ W.cell? ⟨w.heap.size, 1, none⟩ = some (.func (.func 15) #[] #[]) ∧ W.cell? ⟨w.heap.size, 2, none⟩ = some (.func (.func 16) #[] #[]) ∧ W.cell? ⟨w.heap.size + 1, 0, none⟩ = some (.int .i64 1) ∧ W.cell? ⟨w.heap.size + 1, 1, none⟩ = some (.string ⟨#[]⟩) ∧ W.cell? ⟨w.heap.size + 1, 2, none⟩ = some (.string ⟨#[104, 105]⟩) ∧ W.cell? ⟨w.heap.size + 1, 3, none⟩ = some (.string ⟨#[97, 47, 98]⟩) ∧ W.cell? ⟨w.heap.size + 1, 4, none⟩ = some (.int .i64 200) ∧ W.cell? ⟨w.heap.size + 1, 5, none⟩ = some (.int .i64 0)) ∧ SBh w2 W)
    ((refine HK.out _ ?_; first | with_reducible exact HBn.out | with_reducible exact SBh.drew HBn.out))
    (first
      | (go_at_call 14; refine (HU.out _).mono ?_; rintro e wS ⟨rfl, hbS⟩; have HBn : Hid (SBh w2 wS) := SBh.on (And.right (by assumption)) hbS; clear hbS)
      | (go_at_call 15; refine (HR.out _).mono ?_; rintro e wT ⟨rfl, hbT⟩; have HBn : Hid (SBh w2 wT) := SBh.on (And.right (by assumption)) hbT; clear hbT))
  all_goals
    have HBf := HBn.out
    have HB9 : Hid (Below w.heap.size w wT) := bel_tr HB2.out HBf HB2.out.size
    clear HBf HBn HK HU HR
    go_wp2
    refine bodyPost_ret (v := .bool true) (by simp [results, Tryz.results10, go_sem]) rfl ⟨rfl, HB9.out⟩

set_option maxHeartbeats 4000000 in
theorem takes_echo (w : World) : Calls Tryz.prog 10 #[.agg #[.func (.func 23) #[] #[], .func (.func 24) #[] #[], .func (.func 25) #[] #[]], .agg #[.int .i64 4, .string ⟨#[]⟩, .string ⟨#[]⟩, .string ⟨#[]⟩, .int .i64 0, .int .i64 0]] w fun e w' => e = .returned (.bool true) ∧ Below w.heap.size w w' := by
  obtain ⟨w1, hw1⟩ : ∃ w1, w1 = w.alloc (.cells #[.func (.func 23) #[] #[], .func (.func 24) #[] #[], .func (.func 25) #[] #[]] 47) := ⟨_, rfl⟩
  have hb1 : Below w.heap.size w w1 := by rw [hw1]; exact (Below.refl _ w).alloc (Nat.le_refl _) _
  have hs1 : w1.heap.size = w.heap.size + 1 := by rw [hw1]; simp
  have hK1 : Blk 47 w1 w.heap.size [.func (.func 23) #[] #[], .func (.func 24) #[] #[], .func (.func 25) #[] #[]] := by rw [hw1]; exact heap_alloc_new w _
  obtain ⟨w2, hw2⟩ : ∃ w2, w2 = w1.alloc (.cells #[.int .i64 4, .string ⟨#[]⟩, .string ⟨#[]⟩, .string ⟨#[]⟩, .int .i64 0, .int .i64 0] 39) := ⟨_, rfl⟩
  have hb2 : Below w1.heap.size w1 w2 := by rw [hw2]; exact (Below.refl _ w1).alloc (Nat.le_refl _) _
  have hH2 : Blk 39 w2 (w.heap.size + 1) [.int .i64 4, .string ⟨#[]⟩, .string ⟨#[]⟩, .string ⟨#[]⟩, .int .i64 0, .int .i64 0] := by rw [hw2, ← hs1]; exact heap_alloc_new w1 _
  have hK2 : Blk 47 w2 w.heap.size [.func (.func 23) #[] #[], .func (.func 24) #[] #[], .func (.func 25) #[] #[]] := hK1.below hb2
  have HB2 : Hid (Below w.heap.size w w2) := bel_tr hb1 hb2 (by omega)
  have HW2 : Hid (w2 = (w.alloc (.cells #[.func (.func 23) #[] #[], .func (.func 24) #[] #[], .func (.func 25) #[] #[]] 47)).alloc (.cells #[.int .i64 4, .string ⟨#[]⟩, .string ⟨#[]⟩, .string ⟨#[]⟩, .int .i64 0, .int .i64 0] 39)) := (by rw [hw2, hw1] : _ = _)
  have HK : Hid (∀ W, SBh w2 W → (W.cell? ⟨w.heap.size, 0, none⟩ = some (.func (.func 23) #[] #[]) ∧ W.cell? ⟨w.heap.size, 1, none⟩ = some (.func (.func 24) #[] #[]) ∧ W.cell? ⟨w.heap.size, 2, none⟩ = some (.func (.func 25) #[] #[]) ∧ W.cell? ⟨w.heap.size + 1, 0, none⟩ = some (.int .i64 4) ∧ W.cell? ⟨w.heap.size + 1, 1, none⟩ = some (.string ⟨#[]⟩) ∧ W.cell? ⟨w.heap.size + 1, 2, none⟩ = some (.string ⟨#[]⟩) ∧ W.cell? ⟨w.heap.size + 1, 3, none⟩ = some (.string ⟨#[]⟩) ∧ W.cell? ⟨w.heap.size + 1, 4, none⟩ = some (.int .i64 0) ∧ W.cell? ⟨w.heap.size + 1, 5, none⟩ = some (.int .i64 0)) ∧ SBh w2 W) := fun W hW => by
    have a := hK2.below hW
    have b := hH2.below hW
    exact ⟨⟨a.cell 0 rfl, a.cell 1 rfl, a.cell 2 rfl, b.cell 0 rfl, b.cell 1 rfl, b.cell 2 rfl, b.cell 3 rfl, b.cell 4 rfl, b.cell 5 rfl⟩, hW⟩
  have HU : Hid (∀ W, Calls Tryz.prog 23 #[.agg #[.int .i64 4, .string ⟨#[]⟩, .string ⟨#[]⟩, .string ⟨#[]⟩, .int .i64 0, .int .i64 0]] W fun e w' => e = .returned (.agg #[.int .i64 4, .string ⟨#[]⟩, .string ⟨#[]⟩, .string ⟨#[]⟩, .int .i64 0, .int .i64 0]) ∧ Below W.heap.size W w') := fun W => usedByNone_any 4 0 0 ⟨#[]⟩ ⟨#[]⟩ ⟨#[]⟩ W
  have HR : Hid (∀ W, Calls Tryz.prog 24 #[.agg #[.int .i64 4, .string ⟨#[]⟩, .string ⟨#[]⟩, .string ⟨#[]⟩, .int .i64 0, .int .i64 0]] W fun e w' => e = .returned (.bool true) ∧ Below W.heap.size W w') := fun W => isAny_any W 4 0 0 ⟨#[]⟩ ⟨#[]⟩ ⟨#[]⟩
  have hnf := fun W => neq_func 25 W
  have HBn : Hid (SBh w2 w2) := SBh.refl w2
  clear hw1 hw2 hb1 hb2 hs1 hK1 hK2 hH2
  go_enter Tryz.func10, Tryz.ntmps10
  go_wp2_with fail
  rw [← HW2.out]
  go_region_held3 (fun W => (W.cell? ⟨w.heap.size, 0, none⟩ = some (.func (.func 23) #[] #[]) ∧ W.cell? ⟨w.heap.size, 1, none⟩ = some (.func (.func 24) #[] #[]) ∧ W.cell? ⟨w.heap.size, 2, none⟩ = some (.func (.func 25) #[] #[]) ∧ W.cell? ⟨w.heap.size + 1, 0, none⟩ = some (.int .i64 4) ∧ W.cell? ⟨w.heap.size + 1, 1, none⟩ = some (.string ⟨#[]⟩) ∧ W.cell? ⟨w.heap.size + 1, 2, none⟩ = some (.string ⟨#[]⟩) ∧ W.cell? ⟨w.heap.size + 1, 3, none⟩ = some (.string ⟨#[]⟩) ∧ W.cell? ⟨w.heap.size + 1, 4, none⟩ = some (.int .i64 0) ∧ W.cell? ⟨w.heap.size + 1, 5, none⟩ = some (.int .i64 0)) ∧ SBh w2 W)
    ((refine HK.out _ ?_; first | with_reducible exact HBn.out | with_reducible exact SBh.drew HBn.out))
    (first
      | (go_at_call 23; refine (HU.out _).mono ?_; rintro e wS ⟨rfl, hbS⟩; have HBn : Hid (SBh w2 wS) := SBh.on (And.right (by assumption)) hbS; clear hbS)
      | (go_at_call 24; refine (HR.out _).mono ?_; rintro e wT ⟨rfl, hbT⟩; have HBn : Hid (SBh w2 wT) := SBh.on (And.right (by assumption)) hbT; clear hbT))
  all_goals
    have HBf := HBn.out
    have HB9 : Hid (Below w.heap.size w wT) := bel_tr HB2.out HBf HB2.out.size
    clear HBf HBn HK HU HR
    go_wp2
    refine bodyPost_ret (v := .bool true) (by simp [results, Tryz.results10, go_sem]) rfl ⟨rfl, HB9.out⟩

end Hn
end Go.Proofs.YticncpjpkgdnlaaGreatDoor

/-
  handle: answerText, Answer at Text (written by mkhnf.py)
-/
set_option linter.unusedVariables false
set_option linter.unusedSimpArgs false
set_option maxRecDepth 100000
namespace Go.Proofs.YticncpjpkgdnlaaGreatDoor
open Go.RowKit Go.Shelf
namespace Hn
open Oc Tg _root_.Go.Proofs.YticncpjpkgdnlaaGreatDoor.Fd _root_.Go.Proofs.YticncpjpkgdnlaaGreatDoor.Ck _root_.Go.Proofs.YticncpjpkgdnlaaGreatDoor.Ms

theorem inF_nil (w : World) : InF (.slice none 0 0) [] w := ⟨⟨none, 0, rfl, .inl rfl⟩, fun h => .inl rfl⟩

set_option maxHeartbeats 2000000 in
theorem answerText_hi (w : World) : Calls Tryz.prog 16 #[.agg #[.int .i64 1, .string ⟨#[]⟩, .string ⟨#[104, 105]⟩, .string ⟨#[97, 47, 98]⟩, .int .i64 200, .int .i64 0], .agg #[.string ⟨#[]⟩, .string ⟨#[]⟩, .int .i64 0, .int .i64 0, .slice none 0 0, .string ⟨#[]⟩, .slice none 0 0, .int .i64 0, .string ⟨#[]⟩, .int .i64 0, .string ⟨#[]⟩, .string ⟨#[]⟩, .bool false, .slice none 0 0, .int .i64 0], .pointer none] w fun e w' => ∃ a c, e = .returned (.agg #[.int .i64 200, .string ⟨#[]⟩, .slice a 1 c, .string ⟨#[104, 105]⟩]) ∧ OwnF 26 w.heap.size (.slice a 1 c) [(nCT, [97, 47, 98])] w' ∧ Below w.heap.size w w' := by
  obtain ⟨w1, hw1⟩ : ∃ w1, w1 = w.alloc (.cells #[.int .i64 1, .string ⟨#[]⟩, .string ⟨#[104, 105]⟩, .string ⟨#[97, 47, 98]⟩, .int .i64 200, .int .i64 0] 39) := ⟨_, rfl⟩
  have hb1 : Below w.heap.size w w1 := by rw [hw1]; exact (Below.refl _ w).alloc (Nat.le_refl _) _
  have hs1 : w1.heap.size = w.heap.size + 1 := by rw [hw1]; simp
  have hK1 : Blk 39 w1 w.heap.size [.int .i64 1, .string ⟨#[]⟩, .string ⟨#[104, 105]⟩, .string ⟨#[97, 47, 98]⟩, .int .i64 200, .int .i64 0] := by rw [hw1]; exact heap_alloc_new w _
  obtain ⟨w2, hw2⟩ : ∃ w2, w2 = w1.alloc (.cells #[.string ⟨#[]⟩, .string ⟨#[]⟩, .int .i64 0, .int .i64 0, .slice none 0 0, .string ⟨#[]⟩, .slice none 0 0, .int .i64 0, .string ⟨#[]⟩, .int .i64 0, .string ⟨#[]⟩, .string ⟨#[]⟩, .bool false, .slice none 0 0, .int .i64 0] 34) := ⟨_, rfl⟩
  have hb2 : Below w1.heap.size w1 w2 := by rw [hw2]; exact (Below.refl _ w1).alloc (Nat.le_refl _) _
  have hs2 : w2.heap.size = w.heap.size + 2 := by rw [hw2]; simp; omega
  obtain ⟨w3, hw3⟩ : ∃ w3, w3 = w2.alloc (.cells #[.int .i64 0, .string ⟨#[]⟩, .slice none 0 0, .string ⟨#[]⟩] 36) := ⟨_, rfl⟩
  have hb3 : Below w2.heap.size w2 w3 := by rw [hw3]; exact (Below.refl _ w2).alloc (Nat.le_refl _) _
  have hR3 : Blk 36 w3 (w.heap.size + 2) [.int .i64 0, .string ⟨#[]⟩, .slice none 0 0, .string ⟨#[]⟩] := by rw [hw3, ← hs2]; exact heap_alloc_new w2 _
  have hs3 : w3.heap.size = w.heap.size + 3 := by rw [hw3]; simp; omega
  have hK3 : Blk 39 w3 w.heap.size [.int .i64 1, .string ⟨#[]⟩, .string ⟨#[104, 105]⟩, .string ⟨#[97, 47, 98]⟩, .int .i64 200, .int .i64 0] := (hK1.below hb2).below hb3
  have HB3 : Hid (Below w.heap.size w w3) := (bel_tr (bel_tr hb1 hb2 (by omega)) hb3 (by omega) : Below _ _ _)
  have HW3 : Hid (w3 = _) := hw3
  have HW2 : Hid (w2 = _) := hw2
  have HW1 : Hid (w1 = _) := hw1
  have HR3 : Hid (Blk 36 w3 (w.heap.size + 2) [.int .i64 0, .string ⟨#[]⟩, .slice none 0 0, .string ⟨#[]⟩]) := hR3
  have k2 := hK3.cell 2 rfl
  have k3 := hK3.cell 3 rfl
  have k4 := hK3.cell 4 rfl
  have HC : Hid (Calls _ _ _ _ _) := written_any 200 ⟨#[97, 47, 98]⟩ ⟨#[104, 105]⟩ (.slice none 0 0) [] (by simp) w3 (inF_nil w3)
  clear hw1 hw2 hw3 hb1 hb2 hb3 hK1 hK3 hR3 hs1 hs2
  go_enter Tryz.func16, Tryz.ntmps16
  go_wp2_with fail
  rw [← HW1.out, ← HW2.out, ← HW3.out]
  refine HC.out.mono ?_
  rintro e w4 ⟨a, c, rfl, ho, hb4⟩
  have HO4 : Hid (OwnF 26 w.heap.size (.slice a 1 c) [(nCT, [97, 47, 98])] w4) := own_upF ho HB3.out.size
  have HB4 : Hid (Below w.heap.size w w4) := bel_tr HB3.out hb4 HB3.out.size
  have HR4 : Hid (Blk 36 w4 (w.heap.size + 2) [.int .i64 0, .string ⟨#[]⟩, .slice none 0 0, .string ⟨#[]⟩]) := HR3.out.below hb4
  rw [show ([] : List Fl).length + 1 = 1 from rfl]
  clear ho hb4 HC HB3 HR3 HW1 HW2 HW3 k2 k3 k4
  have r0 := HR4.out.cell 0 rfl
  have r1 := HR4.out.cell 1 rfl
  have r2 := HR4.out.cell 2 rfl
  have r3 := HR4.out.cell 3 rfl
  have rf := HR4.out.free
  have hD4 := HR4.out.lt
  have hb9 := set4_but w4 (w.heap.size + 2) (.int .i64 200) (.string ⟨#[]⟩) (.slice a 1 c) (.string ⟨#[104, 105]⟩)
  have hl9 : Below w.heap.size w4 (set4 w4 (w.heap.size + 2) (.int .i64 200) (.string ⟨#[]⟩) (.slice a 1 c) (.string ⟨#[104, 105]⟩)) := hb9.below (by omega) (fun x hx => by simp at hx; omega)
  obtain ⟨W9, hW9⟩ : ∃ W9, W9 = set4 w4 (w.heap.size + 2) (.int .i64 200) (.string ⟨#[]⟩) (.slice a 1 c) (.string ⟨#[104, 105]⟩) := ⟨_, rfl⟩
  have HL9 : Hid (Below w.heap.size w W9) := (by rw [hW9]; exact HB4.out.trans hl9 : Below _ _ _)
  have hB9 : Blk 36 W9 (w.heap.size + 2) [.int .i64 200, .string ⟨#[]⟩, .slice a 1 c, .string ⟨#[104, 105]⟩] := by rw [hW9]; exact set4_blk HR4.out (.int .i64 200) (.string ⟨#[]⟩) (.slice a 1 c) (.string ⟨#[104, 105]⟩)
  have HO9 : Hid (OwnF 26 w.heap.size (.slice a 1 c) [(nCT, [97, 47, 98])] W9) := (by rw [hW9]; exact HR4.out.keep HO4.out (by decide) hb9 : OwnF _ _ _ _ _)
  have HW9 : Hid (((((w4.setCell ⟨w.heap.size + 2, 0, none⟩ (.int .i64 200)).setCell ⟨w.heap.size + 2, 1, none⟩ (.string ⟨#[]⟩)).setCell ⟨w.heap.size + 2, 2, none⟩ (.slice a 1 c)).setCell ⟨w.heap.size + 2, 3, none⟩ (.string ⟨#[104, 105]⟩)) = W9) := hW9.symm
  clear hb9 hl9 hW9
  go_wp2
  rw [HW9.out]
  clear r0 r1 r2 r3 rf
  have q0 := hB9.cell 0 rfl
  have q1 := hB9.cell 1 rfl
  have q2 := hB9.cell 2 rfl
  have q3 := hB9.cell 3 rfl
  refine bodyPost_ret (v := .agg #[.int .i64 200, .string ⟨#[]⟩, .slice a 1 c, .string ⟨#[104, 105]⟩]) (by simp [results, Tryz.results16, go_sem, q0, q1, q2, q3]) rfl ?_
  exact ⟨a, c, rfl, HO9.out, HL9.out⟩

set_option maxHeartbeats 4000000 in
theorem Answer_text (w : World) : Calls Tryz.prog 7 #[.agg #[.int .i64 1, .string ⟨#[]⟩, .string ⟨#[104, 105]⟩, .string ⟨#[97, 47, 98]⟩, .int .i64 200, .int .i64 0], .agg #[.string ⟨#[]⟩, .string ⟨#[]⟩, .int .i64 0, .int .i64 0, .slice none 0 0, .string ⟨#[]⟩, .slice none 0 0, .int .i64 0, .string ⟨#[]⟩, .int .i64 0, .string ⟨#[]⟩, .string ⟨#[]⟩, .bool false, .slice none 0 0, .int .i64 0], .pointer none] w fun e w' => ∃ a c, e = .returned (.agg #[.int .i64 200, .string ⟨#[]⟩, .slice a 1 c, .string ⟨#[104, 105]⟩]) ∧ OwnF 26 w.heap.size (.slice a 1 c) [(nCT, [97, 47, 98])] w' ∧ Below w.heap.size w w' := by
  obtain ⟨w1, hw1⟩ : ∃ w1, w1 = w.alloc (.cells #[.int .i64 1, .string ⟨#[]⟩, .string ⟨#[104, 105]⟩, .string ⟨#[97, 47, 98]⟩, .int .i64 200, .int .i64 0] 39) := ⟨_, rfl⟩
  have hb1 : Below w.heap.size w w1 := by rw [hw1]; exact (Below.refl _ w).alloc (Nat.le_refl _) _
  have hs1 : w1.heap.size = w.heap.size + 1 := by rw [hw1]; simp
  have hK1 : Blk 39 w1 w.heap.size [.int .i64 1, .string ⟨#[]⟩, .string ⟨#[104, 105]⟩, .string ⟨#[97, 47, 98]⟩, .int .i64 200, .int .i64 0] := by rw [hw1]; exact heap_alloc_new w _
  obtain ⟨w2, hw2⟩ : ∃ w2, w2 = w1.alloc (.cells #[.string ⟨#[]⟩, .string ⟨#[]⟩, .int .i64 0, .int .i64 0, .slice none 0 0, .string ⟨#[]⟩, .slice none 0 0, .int .i64 0, .string ⟨#[]⟩, .int .i64 0, .string ⟨#[]⟩, .string ⟨#[]⟩, .bool false, .slice none 0 0, .int .i64 0] 34) := ⟨_, rfl⟩
  have hb2 : Below w1.heap.size w1 w2 := by rw [hw2]; exact (Below.refl _ w1).alloc (Nat.le_refl _) _
  have hs2 : w2.heap.size = w.heap.size + 2 := by rw [hw2]; simp; omega
  have hZ2 : Blk 34 w2 (w.heap.size + 1) [.string ⟨#[]⟩, .string ⟨#[]⟩, .int .i64 0, .int .i64 0, .slice none 0 0, .string ⟨#[]⟩, .slice none 0 0, .int .i64 0, .string ⟨#[]⟩, .int .i64 0, .string ⟨#[]⟩, .string ⟨#[]⟩, .bool false, .slice none 0 0, .int .i64 0] := by rw [hw2, ← hs1]; exact heap_alloc_new w1 _
  obtain ⟨w3, hw3⟩ : ∃ w3, w3 = w2.alloc (.cells #[.int .i64 0, .string ⟨#[]⟩, .slice none 0 0, .string ⟨#[]⟩] 36) := ⟨_, rfl⟩
  have hb3 : Below w2.heap.size w2 w3 := by rw [hw3]; exact (Below.refl _ w2).alloc (Nat.le_refl _) _
  have hR3 : Blk 36 w3 (w.heap.size + 2) [.int .i64 0, .string ⟨#[]⟩, .slice none 0 0, .string ⟨#[]⟩] := by rw [hw3, ← hs2]; exact heap_alloc_new w2 _
  have hs3 : w3.heap.size = w.heap.size + 3 := by rw [hw3]; simp; omega
  have HK3 : Hid (Blk 39 w3 w.heap.size [.int .i64 1, .string ⟨#[]⟩, .string ⟨#[104, 105]⟩, .string ⟨#[97, 47, 98]⟩, .int .i64 200, .int .i64 0]) := ((hK1.below hb2).below hb3 : Blk _ _ _ _)
  have HZ3 : Hid (Blk 34 w3 (w.heap.size + 1) [.string ⟨#[]⟩, .string ⟨#[]⟩, .int .i64 0, .int .i64 0, .slice none 0 0, .string ⟨#[]⟩, .slice none 0 0, .int .i64 0, .string ⟨#[]⟩, .int .i64 0, .string ⟨#[]⟩, .string ⟨#[]⟩, .bool false, .slice none 0 0, .int .i64 0]) := (hZ2.below hb3 : Blk _ _ _ _)
  have HB3 : Hid (Below w.heap.size w w3) := (bel_tr (bel_tr hb1 hb2 (by omega)) hb3 (by omega) : Below _ _ _)
  have HW3 : Hid (w3 = _) := hw3
  have HW2 : Hid (w2 = _) := hw2
  have HW1 : Hid (w1 = _) := hw1
  have HS3 : Hid (w3.heap.size = w.heap.size + 3) := hs3
  have HR3 : Hid (Blk 36 w3 (w.heap.size + 2) [.int .i64 0, .string ⟨#[]⟩, .slice none 0 0, .string ⟨#[]⟩]) := hR3
  have k0 := HK3.out.cell 0 rfl
  have HC : Hid (Calls _ _ _ _ _) := kindOf_1 w3
  clear hw1 hw2 hw3 hb1 hb2 hb3 hK1 hR3 hs1 hs2 hZ2 hs3
  go_enter Tryz.func7, Tryz.ntmps7
  go_wp2_with fail
  rw [← HW1.out, ← HW2.out, ← HW3.out]
  refine HC.out.mono ?_
  rintro e w4 ⟨rfl, hb4⟩
  have hb5 : Below w4.heap.size w4 (w4.alloc (.cells #[.func (.func 14) #[] #[], .func (.func 15) #[] #[], .func (.func 16) #[] #[]] 47)) := (Below.refl _ w4).alloc (Nat.le_refl _) _
  have HM5 : Hid (Blk 47 (w4.alloc (.cells #[.func (.func 14) #[] #[], .func (.func 15) #[] #[], .func (.func 16) #[] #[]] 47)) w4.heap.size [.func (.func 14) #[] #[], .func (.func 15) #[] #[], .func (.func 16) #[] #[]]) := (heap_alloc_new w4 _ : Blk _ _ _ _)
  have HH5 : Hid (Blk 39 (w4.alloc (.cells #[.func (.func 14) #[] #[], .func (.func 15) #[] #[], .func (.func 16) #[] #[]] 47)) w.heap.size [.int .i64 1, .string ⟨#[]⟩, .string ⟨#[104, 105]⟩, .string ⟨#[97, 47, 98]⟩, .int .i64 200, .int .i64 0]) := ((HK3.out.below hb4).below hb5 : Blk _ _ _ _)
  have HZ5 : Hid (Blk 34 (w4.alloc (.cells #[.func (.func 14) #[] #[], .func (.func 15) #[] #[], .func (.func 16) #[] #[]] 47)) (w.heap.size + 1) [.string ⟨#[]⟩, .string ⟨#[]⟩, .int .i64 0, .int .i64 0, .slice none 0 0, .string ⟨#[]⟩, .slice none 0 0, .int .i64 0, .string ⟨#[]⟩, .int .i64 0, .string ⟨#[]⟩, .string ⟨#[]⟩, .bool false, .slice none 0 0, .int .i64 0]) := ((HZ3.out.below hb4).below hb5 : Blk _ _ _ _)
  have HR5 : Hid (Blk 36 (w4.alloc (.cells #[.func (.func 14) #[] #[], .func (.func 15) #[] #[], .func (.func 16) #[] #[]] 47)) (w.heap.size + 2) [.int .i64 0, .string ⟨#[]⟩, .slice none 0 0, .string ⟨#[]⟩]) := ((HR3.out.below hb4).below hb5 : Blk _ _ _ _)
  have HB4 : Hid (Below w.heap.size w w4) := bel_tr HB3.out hb4 HB3.out.size
  have HB5 : Hid (Below w.heap.size w (w4.alloc (.cells #[.func (.func 14) #[] #[], .func (.func 15) #[] #[], .func (.func 16) #[] #[]] 47))) := bel_tr HB4.out hb5 HB4.out.size
  have h0 : (w4.alloc (.cells #[.func (.func 14) #[] #[], .func (.func 15) #[] #[], .func (.func 16) #[] #[]] 47)).cell? ⟨w.heap.size, 0, none⟩ = some (.int .i64 1) := HH5.out.cell 0 rfl
  have h1 : (w4.alloc (.cells #[.func (.func 14) #[] #[], .func (.func 15) #[] #[], .func (.func 16) #[] #[]] 47)).cell? ⟨w.heap.size, 1, none⟩ = some (.string ⟨#[]⟩) := HH5.out.cell 1 rfl
  have h2 : (w4.alloc (.cells #[.func (.func 14) #[] #[], .func (.func 15) #[] #[], .func (.func 16) #[] #[]] 47)).cell? ⟨w.heap.size, 2, none⟩ = some (.string ⟨#[104, 105]⟩) := HH5.out.cell 2 rfl
  have h3 : (w4.alloc (.cells #[.func (.func 14) #[] #[], .func (.func 15) #[] #[], .func (.func 16) #[] #[]] 47)).cell? ⟨w.heap.size, 3, none⟩ = some (.string ⟨#[97, 47, 98]⟩) := HH5.out.cell 3 rfl
  have h4 : (w4.alloc (.cells #[.func (.func 14) #[] #[], .func (.func 15) #[] #[], .func (.func 16) #[] #[]] 47)).cell? ⟨w.heap.size, 4, none⟩ = some (.int .i64 200) := HH5.out.cell 4 rfl
  have h5 : (w4.alloc (.cells #[.func (.func 14) #[] #[], .func (.func 15) #[] #[], .func (.func 16) #[] #[]] 47)).cell? ⟨w.heap.size, 5, none⟩ = some (.int .i64 0) := HH5.out.cell 5 rfl
  have m0 : (w4.alloc (.cells #[.func (.func 14) #[] #[], .func (.func 15) #[] #[], .func (.func 16) #[] #[]] 47)).cell? ⟨w4.heap.size, 0, none⟩ = some (.func (.func 14) #[] #[]) := HM5.out.cell 0 rfl
  have m1 : (w4.alloc (.cells #[.func (.func 14) #[] #[], .func (.func 15) #[] #[], .func (.func 16) #[] #[]] 47)).cell? ⟨w4.heap.size, 1, none⟩ = some (.func (.func 15) #[] #[]) := HM5.out.cell 1 rfl
  have m2 : (w4.alloc (.cells #[.func (.func 14) #[] #[], .func (.func 15) #[] #[], .func (.func 16) #[] #[]] 47)).cell? ⟨w4.heap.size, 2, none⟩ = some (.func (.func 16) #[] #[]) := HM5.out.cell 2 rfl
  have HT5 : Hid (Calls _ _ _ _ _) := takes_text (w4.alloc (.cells #[.func (.func 14) #[] #[], .func (.func 15) #[] #[], .func (.func 16) #[] #[]] 47))
  clear hb4 hb5 HC HB3 HR3 HK3 HZ3 HW1 HW2 HW3 k0
  go_wp2_with fail
  refine HT5.out.mono ?_
  rintro e w6 ⟨rfl, hb6⟩
  have HM6 : Hid (Blk 47 w6 w4.heap.size [.func (.func 14) #[] #[], .func (.func 15) #[] #[], .func (.func 16) #[] #[]]) := HM5.out.below hb6
  have HH6 : Hid (Blk 39 w6 w.heap.size [.int .i64 1, .string ⟨#[]⟩, .string ⟨#[104, 105]⟩, .string ⟨#[97, 47, 98]⟩, .int .i64 200, .int .i64 0]) := HH5.out.below hb6
  have HZ6 : Hid (Blk 34 w6 (w.heap.size + 1) [.string ⟨#[]⟩, .string ⟨#[]⟩, .int .i64 0, .int .i64 0, .slice none 0 0, .string ⟨#[]⟩, .slice none 0 0, .int .i64 0, .string ⟨#[]⟩, .int .i64 0, .string ⟨#[]⟩, .string ⟨#[]⟩, .bool false, .slice none 0 0, .int .i64 0]) := HZ5.out.below hb6
  have HR6 : Hid (Blk 36 w6 (w.heap.size + 2) [.int .i64 0, .string ⟨#[]⟩, .slice none 0 0, .string ⟨#[]⟩]) := HR5.out.below hb6
  have HB6 : Hid (Below w.heap.size w w6) := bel_tr HB5.out hb6 HB5.out.size
  clear h0 h1 h2 h3 h4 h5 m0 m1 m2 hb6 HT5 HM5 HH5 HZ5 HR5 HB5
  have h0 := HH6.out.cell 0 rfl
  have h1 := HH6.out.cell 1 rfl
  have h2 := HH6.out.cell 2 rfl
  have h3 := HH6.out.cell 3 rfl
  have h4 := HH6.out.cell 4 rfl
  have h5 := HH6.out.cell 5 rfl
  have z0 := HZ6.out.cell 0 rfl
  have z1 := HZ6.out.cell 1 rfl
  have z2 := HZ6.out.cell 2 rfl
  have z3 := HZ6.out.cell 3 rfl
  have z4 := HZ6.out.cell 4 rfl
  have z5 := HZ6.out.cell 5 rfl
  have z6 := HZ6.out.cell 6 rfl
  have z7 := HZ6.out.cell 7 rfl
  have z8 := HZ6.out.cell 8 rfl
  have z9 := HZ6.out.cell 9 rfl
  have z10 := HZ6.out.cell 10 rfl
  have z11 := HZ6.out.cell 11 rfl
  have z12 := HZ6.out.cell 12 rfl
  have z13 := HZ6.out.cell 13 rfl
  have z14 := HZ6.out.cell 14 rfl
  have m2 := HM6.out.cell 2 rfl
  have HA6 : Hid (Calls _ _ _ _ _) := answerText_hi w6
  go_wp2_with fail
  refine HA6.out.mono ?_
  rintro e w8 ⟨a, c, rfl, ho, hb8⟩
  have HO8 : Hid (OwnF 26 w.heap.size (.slice a 1 c) [(nCT, [97, 47, 98])] w8) := own_upF ho HB6.out.size
  have HB8 : Hid (Below w.heap.size w w8) := bel_tr HB6.out hb8 HB6.out.size
  have HR8 : Hid (Blk 36 w8 (w.heap.size + 2) [.int .i64 0, .string ⟨#[]⟩, .slice none 0 0, .string ⟨#[]⟩]) := HR6.out.below hb8
  clear ho hb8 HA6 HM6 HH6 HZ6 HR6 HB6 h0 h1 h2 h3 h4 h5 z0 z1 z2 z3 z4 z5 z6 z7 z8 z9 z10 z11 z12 z13 z14 m2 HB4
  have r0 := HR8.out.cell 0 rfl
  have r1 := HR8.out.cell 1 rfl
  have r2 := HR8.out.cell 2 rfl
  have r3 := HR8.out.cell 3 rfl
  have rf := HR8.out.free
  have hD8 := HR8.out.lt
  have hb9 := set4_but w8 (w.heap.size + 2) (.int .i64 200) (.string ⟨#[]⟩) (.slice a 1 c) (.string ⟨#[104, 105]⟩)
  have hl9 : Below w.heap.size w8 (set4 w8 (w.heap.size + 2) (.int .i64 200) (.string ⟨#[]⟩) (.slice a 1 c) (.string ⟨#[104, 105]⟩)) := hb9.below (by omega) (fun x hx => by simp at hx; omega)
  obtain ⟨W9, hW9⟩ : ∃ W9, W9 = set4 w8 (w.heap.size + 2) (.int .i64 200) (.string ⟨#[]⟩) (.slice a 1 c) (.string ⟨#[104, 105]⟩) := ⟨_, rfl⟩
  have HL9 : Hid (Below w.heap.size w W9) := (by rw [hW9]; exact HB8.out.trans hl9 : Below _ _ _)
  have hB9 : Blk 36 W9 (w.heap.size + 2) [.int .i64 200, .string ⟨#[]⟩, .slice a 1 c, .string ⟨#[104, 105]⟩] := by rw [hW9]; exact set4_blk HR8.out (.int .i64 200) (.string ⟨#[]⟩) (.slice a 1 c) (.string ⟨#[104, 105]⟩)
  have HO9 : Hid (OwnF 26 w.heap.size (.slice a 1 c) [(nCT, [97, 47, 98])] W9) := (by rw [hW9]; exact HR8.out.keep HO8.out (by decide) hb9 : OwnF _ _ _ _ _)
  have HW9 : Hid (((((w8.setCell ⟨w.heap.size + 2, 0, none⟩ (.int .i64 200)).setCell ⟨w.heap.size + 2, 1, none⟩ (.string ⟨#[]⟩)).setCell ⟨w.heap.size + 2, 2, none⟩ (.slice a 1 c)).setCell ⟨w.heap.size + 2, 3, none⟩ (.string ⟨#[104, 105]⟩)) = W9) := hW9.symm
  clear hb9 hl9 hW9
  go_wp2
  rw [HW9.out]
  clear r0 r1 r2 r3 rf
  have q0 := hB9.cell 0 rfl
  have q1 := hB9.cell 1 rfl
  have q2 := hB9.cell 2 rfl
  have q3 := hB9.cell 3 rfl
  refine bodyPost_ret (v := .agg #[.int .i64 200, .string ⟨#[]⟩, .slice a 1 c, .string ⟨#[104, 105]⟩]) (by simp [results, Tryz.results7, go_sem, q0, q1, q2, q3]) rfl ?_
  exact ⟨a, c, rfl, HO9.out, HL9.out⟩

end Hn
end Go.Proofs.YticncpjpkgdnlaaGreatDoor

/-
  handle: answerEcho, Answer at Echo (written by mkhng.py)
-/
set_option linter.unusedVariables false
set_option linter.unusedSimpArgs false
set_option maxRecDepth 100000
namespace Go.Proofs.YticncpjpkgdnlaaGreatDoor
open Go.RowKit Go.Shelf
namespace Hn
open Oc Tg _root_.Go.Proofs.YticncpjpkgdnlaaGreatDoor.Fd _root_.Go.Proofs.YticncpjpkgdnlaaGreatDoor.Ck _root_.Go.Proofs.YticncpjpkgdnlaaGreatDoor.Ms

set_option maxHeartbeats 4000000 in
theorem answerEcho_x (w : World) : Calls Tryz.prog 25 #[.agg #[.int .i64 4, .string ⟨#[]⟩, .string ⟨#[]⟩, .string ⟨#[]⟩, .int .i64 0, .int .i64 0], .agg #[.string ⟨#[71, 69, 84]⟩, .string ⟨#[47, 120]⟩, .int .i64 0, .int .i64 0, .slice none 0 0, .string ⟨#[]⟩, .slice none 0 0, .int .i64 0, .string ⟨#[]⟩, .int .i64 0, .string ⟨#[]⟩, .string ⟨#[]⟩, .bool false, .slice none 0 0, .int .i64 0], .pointer none] w fun e w' => ∃ a c, e = .returned (.agg #[.int .i64 200, .string ⟨#[]⟩, .slice a 1 c, .string ⟨#[71, 69, 84, 32, 47, 120, 10, 10]⟩]) ∧ OwnF 26 w.heap.size (.slice a 1 c) [(nCT, plT)] w' ∧ Below w.heap.size w w' := by
  obtain ⟨w1, hw1⟩ : ∃ w1, w1 = w.alloc (.cells #[.int .i64 4, .string ⟨#[]⟩, .string ⟨#[]⟩, .string ⟨#[]⟩, .int .i64 0, .int .i64 0] 39) := ⟨_, rfl⟩
  have hb1 : Below w.heap.size w w1 := by rw [hw1]; exact (Below.refl _ w).alloc (Nat.le_refl _) _
  have hs1 : w1.heap.size = w.heap.size + 1 := by rw [hw1]; simp
  obtain ⟨w2, hw2⟩ : ∃ w2, w2 = w1.alloc (.cells #[.string ⟨#[71, 69, 84]⟩, .string ⟨#[47, 120]⟩, .int .i64 0, .int .i64 0, .slice none 0 0, .string ⟨#[]⟩, .slice none 0 0, .int .i64 0, .string ⟨#[]⟩, .int .i64 0, .string ⟨#[]⟩, .string ⟨#[]⟩, .bool false, .slice none 0 0, .int .i64 0] 34) := ⟨_, rfl⟩
  have hb2 : Below w1.heap.size w1 w2 := by rw [hw2]; exact (Below.refl _ w1).alloc (Nat.le_refl _) _
  have hs2 : w2.heap.size = w.heap.size + 2 := by rw [hw2]; simp; omega
  have hZ2 : Blk 34 w2 (w.heap.size + 1) [.string ⟨#[71, 69, 84]⟩, .string ⟨#[47, 120]⟩, .int .i64 0, .int .i64 0, .slice none 0 0, .string ⟨#[]⟩, .slice none 0 0, .int .i64 0, .string ⟨#[]⟩, .int .i64 0, .string ⟨#[]⟩, .string ⟨#[]⟩, .bool false, .slice none 0 0, .int .i64 0] := by rw [hw2, ← hs1]; exact heap_alloc_new w1 _
  obtain ⟨w3, hw3⟩ : ∃ w3, w3 = w2.alloc (.cells #[.int .i64 0, .string ⟨#[]⟩, .slice none 0 0, .string ⟨#[]⟩] 36) := ⟨_, rfl⟩
  have hb3 : Below w2.heap.size w2 w3 := by rw [hw3]; exact (Below.refl _ w2).alloc (Nat.le_refl _) _
  have hR3 : Blk 36 w3 (w.heap.size + 2) [.int .i64 0, .string ⟨#[]⟩, .slice none 0 0, .string ⟨#[]⟩] := by rw [hw3, ← hs2]; exact heap_alloc_new w2 _
  have hs3 : w3.heap.size = w.heap.size + 3 := by rw [hw3]; simp; omega
  obtain ⟨w4, hw4⟩ : ∃ w4, w4 = w3.alloc (.cells #[.pointer none, .slice none 0 0] 58) := ⟨_, rfl⟩
  have hb4 : Below w3.heap.size w3 w4 := by rw [hw4]; exact (Below.refl _ w3).alloc (Nat.le_refl _) _
  have hs4 : w4.heap.size = w.heap.size + 4 := by rw [hw4]; simp; omega
  have hD4 : Bd (w.heap.size + 4) (w.heap.size + 3) [] w4 := by
    have := Bd.new w3 (w.heap.size + 4)
    rw [hs3] at this
    rw [hw4]
    exact this
  have HZ4 : Hid (Blk 34 w4 (w.heap.size + 1) [.string ⟨#[71, 69, 84]⟩, .string ⟨#[47, 120]⟩, .int .i64 0, .int .i64 0, .slice none 0 0, .string ⟨#[]⟩, .slice none 0 0, .int .i64 0, .string ⟨#[]⟩, .int .i64 0, .string ⟨#[]⟩, .string ⟨#[]⟩, .bool false, .slice none 0 0, .int .i64 0]) := ((hZ2.below hb3).below hb4 : Blk _ _ _ _)
  have HB4 : Hid (Below w.heap.size w w4) := (bel_tr (bel_tr (bel_tr hb1 hb2 (by omega)) hb3 (by omega)) hb4 (by omega) : Below _ _ _)
  have HW4 : Hid (w4 = _) := hw4
  have HW3 : Hid (w3 = _) := hw3
  have HW2 : Hid (w2 = _) := hw2
  have HW1 : Hid (w1 = _) := hw1
  have HS4 : Hid (w4.heap.size = w.heap.size + 4) := hs4
  have HR4 : Hid (Blk 36 w4 (w.heap.size + 2) [.int .i64 0, .string ⟨#[]⟩, .slice none 0 0, .string ⟨#[]⟩]) := (hR3.below hb4 : Blk _ _ _ _)
  have k0 := HZ4.out.cell 0 rfl
  have k1 := HZ4.out.cell 1 rfl
  have HC : Hid (Calls _ _ _ _ _) := WriteString_bd (w.heap.size + 4) (w.heap.size + 3) [] ⟨#[71, 69, 84, 32, 47, 120, 10]⟩ w4 hD4 (by decide) (by omega)
  have e1 : (⟨#[71, 69, 84]⟩ : ByteArray) ++ ⟨#[32]⟩ = ⟨#[71, 69, 84, 32]⟩ := by decide +kernel
  have e2 : (⟨#[71, 69, 84, 32]⟩ : ByteArray) ++ ⟨#[47, 120]⟩ = ⟨#[71, 69, 84, 32, 47, 120]⟩ := by decide +kernel
  have e3 : (⟨#[71, 69, 84, 32, 47, 120]⟩ : ByteArray) ++ ⟨#[10]⟩ = ⟨#[71, 69, 84, 32, 47, 120, 10]⟩ := by decide +kernel
  have e4 : (⟨#[10]⟩ : ByteArray) ++ ⟨#[]⟩ = ⟨#[10]⟩ := by decide +kernel
  clear hw1 hw2 hw3 hw4 hb1 hb2 hb3 hb4 hR3 hs1 hs2 hZ2 hs3 hs4 hD4
  go_enter Tryz.func25, Tryz.ntmps25
  go_wp2_with fail
  rw [← HW1.out, ← HW2.out, ← HW3.out, ← HW4.out]
  refine HC.out.mono ?_
  rintro e w5 ⟨rfl, hD5, hF5⟩
  rw [List.nil_append] at hD5
  have HD5 : Hid (Bd (w.heap.size + 4) (w.heap.size + 3) (Lib.strCells ⟨#[71, 69, 84, 32, 47, 120, 10]⟩) w5) := hD5
  have HZ5 : Hid (Blk 34 w5 (w.heap.size + 1) [.string ⟨#[71, 69, 84]⟩, .string ⟨#[47, 120]⟩, .int .i64 0, .int .i64 0, .slice none 0 0, .string ⟨#[]⟩, .slice none 0 0, .int .i64 0, .string ⟨#[]⟩, .int .i64 0, .string ⟨#[]⟩, .string ⟨#[]⟩, .bool false, .slice none 0 0, .int .i64 0]) := ((hF5.block _ (by omega) (by omega)).trans HZ4.out : Blk _ _ _ _)
  have HR5 : Hid (Blk 36 w5 (w.heap.size + 2) [.int .i64 0, .string ⟨#[]⟩, .slice none 0 0, .string ⟨#[]⟩]) := ((hF5.block _ (by omega) (by omega)).trans HR4.out : Blk _ _ _ _)
  have HB5 : Hid (Below w.heap.size w w5) := HB4.out.trans (hF5.below (by omega) (by omega))
  have hs5 : w.heap.size + 4 ≤ w5.heap.size := by have := hF5.size; have := HS4.out; omega
  have k4 := HZ5.out.cell 4 rfl
  have k5 := HZ5.out.cell 5 rfl
  have HC5 : Hid (Calls _ _ _ _ _) := WriteString_bd (w.heap.size + 4) (w.heap.size + 3) (Lib.strCells ⟨#[71, 69, 84, 32, 47, 120, 10]⟩) ⟨#[10]⟩ w5 hD5 (by decide) hs5
  clear hD5 hF5 HC HW1 HW2 HW3 HW4 HR4 HZ4 HB4 HS4 k0 k1 e1 e2 e3
  go_wp2_with fail
  go_loopw [24] (fun i wr => i = .int .i64 0 ∧ wr = w5) (fun i _ => 0)
  case atStart => exact ⟨rfl, rfl⟩
  case round =>
  obtain ⟨rfl, rfl⟩ := hrel
  go_wp2_with fail
  refine HC5.out.mono ?_
  rintro e w6 ⟨rfl, hD6, hF6⟩
  have HD6 : Hid (Bd (w.heap.size + 4) (w.heap.size + 3) (Lib.byteCells [71, 69, 84, 32, 47, 120, 10, 10]) w6) := (hD6 : Bd _ _ _ _)
  have HR6 : Hid (Blk 36 w6 (w.heap.size + 2) [.int .i64 0, .string ⟨#[]⟩, .slice none 0 0, .string ⟨#[]⟩]) := ((hF6.block _ (by omega) (by omega)).trans HR5.out : Blk _ _ _ _)
  have HB6 : Hid (Below w.heap.size w w6) := HB5.out.trans (hF6.below (by omega) (by omega))
  have hs6 : w.heap.size + 4 ≤ w6.heap.size := Nat.le_trans hs5 hF6.size
  have HC6 : Hid (Calls _ _ _ _ _) := String_bd (w.heap.size + 4) (w.heap.size + 3) [71, 69, 84, 32, 47, 120, 10, 10] w6 HD6.out hs6
  clear hD6 hF6 HC5 HR5 HZ5 HB5 HD5 k4 k5 hs5
  go_wp2_with fail
  refine HC6.out.mono ?_
  rintro e w7 ⟨rfl, hb7, _⟩
  have hb7' : Below (w.heap.size + 3) w6 w7 := hb7.mono (by omega)
  have HR7 : Hid (Blk 36 w7 (w.heap.size + 2) [.int .i64 0, .string ⟨#[]⟩, .slice none 0 0, .string ⟨#[]⟩]) := ((hb7'.block _ (by omega)).trans HR6.out : Blk _ _ _ _)
  have HB7 : Hid (Below w.heap.size w w7) := HB6.out.trans (hb7'.mono (by omega))
  rw [show str [71, 69, 84, 32, 47, 120, 10, 10] = ⟨#[71, 69, 84, 32, 47, 120, 10, 10]⟩ from rfl]
  have HC7 : Hid (Calls _ _ _ _ _) := texted_any ⟨#[71, 69, 84, 32, 47, 120, 10, 10]⟩ (.slice none 0 0) [] (by simp) w7 (inF_nil w7)
  clear hb7 hb7' HC6 HR6 HB6 HD6 hs6
  go_wp2_with fail
  refine HC7.out.mono ?_
  rintro e w8 ⟨a, c, rfl, ho, hb8⟩
  have HO8 : Hid (OwnF 26 w.heap.size (.slice a 1 c) [(nCT, plT)] w8) := own_upF ho HB7.out.size
  have HB8 : Hid (Below w.heap.size w w8) := bel_tr HB7.out hb8 HB7.out.size
  have HR8 : Hid (Blk 36 w8 (w.heap.size + 2) [.int .i64 0, .string ⟨#[]⟩, .slice none 0 0, .string ⟨#[]⟩]) := HR7.out.below hb8
  rw [show ([] : List Fl).length + 1 = 1 from rfl]
  clear ho hb8 HC7 HB7 HR7
  have r0 := HR8.out.cell 0 rfl
  have r1 := HR8.out.cell 1 rfl
  have r2 := HR8.out.cell 2 rfl
  have r3 := HR8.out.cell 3 rfl
  have rf := HR8.out.free
  have hD8 := HR8.out.lt
  have hb9 := set4_but w8 (w.heap.size + 2) (.int .i64 200) (.string ⟨#[]⟩) (.slice a 1 c) (.string ⟨#[71, 69, 84, 32, 47, 120, 10, 10]⟩)
  have hl9 : Below w.heap.size w8 (set4 w8 (w.heap.size + 2) (.int .i64 200) (.string ⟨#[]⟩) (.slice a 1 c) (.string ⟨#[71, 69, 84, 32, 47, 120, 10, 10]⟩)) := hb9.below (by omega) (fun x hx => by simp at hx; omega)
  obtain ⟨W9, hW9⟩ : ∃ W9, W9 = set4 w8 (w.heap.size + 2) (.int .i64 200) (.string ⟨#[]⟩) (.slice a 1 c) (.string ⟨#[71, 69, 84, 32, 47, 120, 10, 10]⟩) := ⟨_, rfl⟩
  have HL9 : Hid (Below w.heap.size w W9) := (by rw [hW9]; exact HB8.out.trans hl9 : Below _ _ _)
  have hB9 : Blk 36 W9 (w.heap.size + 2) [.int .i64 200, .string ⟨#[]⟩, .slice a 1 c, .string ⟨#[71, 69, 84, 32, 47, 120, 10, 10]⟩] := by rw [hW9]; exact set4_blk HR8.out (.int .i64 200) (.string ⟨#[]⟩) (.slice a 1 c) (.string ⟨#[71, 69, 84, 32, 47, 120, 10, 10]⟩)
  have HO9 : Hid (OwnF 26 w.heap.size (.slice a 1 c) [(nCT, plT)] W9) := (by rw [hW9]; exact HR8.out.keep HO8.out (by decide) hb9 : OwnF _ _ _ _ _)
  have HW9 : Hid (((((w8.setCell ⟨w.heap.size + 2, 0, none⟩ (.int .i64 200)).setCell ⟨w.heap.size + 2, 1, none⟩ (.string ⟨#[]⟩)).setCell ⟨w.heap.size + 2, 2, none⟩ (.slice a 1 c)).setCell ⟨w.heap.size + 2, 3, none⟩ (.string ⟨#[71, 69, 84, 32, 47, 120, 10, 10]⟩)) = W9) := hW9.symm
  clear hb9 hl9 hW9
  go_wp2
  rw [HW9.out]
  clear r0 r1 r2 r3 rf
  have q0 := hB9.cell 0 rfl
  have q1 := hB9.cell 1 rfl
  have q2 := hB9.cell 2 rfl
  have q3 := hB9.cell 3 rfl
  refine bodyPost_ret (v := .agg #[.int .i64 200, .string ⟨#[]⟩, .slice a 1 c, .string ⟨#[71, 69, 84, 32, 47, 120, 10, 10]⟩]) (by simp [results, Tryz.results25, go_sem, q0, q1, q2, q3]) rfl ?_
  exact ⟨a, c, rfl, HO9.out, HL9.out⟩


set_option maxHeartbeats 4000000 in
theorem Answer_echo (w : World) : Calls Tryz.prog 7 #[.agg #[.int .i64 4, .string ⟨#[]⟩, .string ⟨#[]⟩, .string ⟨#[]⟩, .int .i64 0, .int .i64 0], .agg #[.string ⟨#[71, 69, 84]⟩, .string ⟨#[47, 120]⟩, .int .i64 0, .int .i64 0, .slice none 0 0, .string ⟨#[]⟩, .slice none 0 0, .int .i64 0, .string ⟨#[]⟩, .int .i64 0, .string ⟨#[]⟩, .string ⟨#[]⟩, .bool false, .slice none 0 0, .int .i64 0], .pointer none] w fun e w' => ∃ a c, e = .returned (.agg #[.int .i64 200, .string ⟨#[]⟩, .slice a 1 c, .string ⟨#[71, 69, 84, 32, 47, 120, 10, 10]⟩]) ∧ OwnF 26 w.heap.size (.slice a 1 c) [(nCT, plT)] w' ∧ Below w.heap.size w w' := by
  obtain ⟨w1, hw1⟩ : ∃ w1, w1 = w.alloc (.cells #[.int .i64 4, .string ⟨#[]⟩, .string ⟨#[]⟩, .string ⟨#[]⟩, .int .i64 0, .int .i64 0] 39) := ⟨_, rfl⟩
  have hb1 : Below w.heap.size w w1 := by rw [hw1]; exact (Below.refl _ w).alloc (Nat.le_refl _) _
  have hs1 : w1.heap.size = w.heap.size + 1 := by rw [hw1]; simp
  have hK1 : Blk 39 w1 w.heap.size [.int .i64 4, .string ⟨#[]⟩, .string ⟨#[]⟩, .string ⟨#[]⟩, .int .i64 0, .int .i64 0] := by rw [hw1]; exact heap_alloc_new w _
  obtain ⟨w2, hw2⟩ : ∃ w2, w2 = w1.alloc (.cells #[.string ⟨#[71, 69, 84]⟩, .string ⟨#[47, 120]⟩, .int .i64 0, .int .i64 0, .slice none 0 0, .string ⟨#[]⟩, .slice none 0 0, .int .i64 0, .string ⟨#[]⟩, .int .i64 0, .string ⟨#[]⟩, .string ⟨#[]⟩, .bool false, .slice none 0 0, .int .i64 0] 34) := ⟨_, rfl⟩
  have hb2 : Below w1.heap.size w1 w2 := by rw [hw2]; exact (Below.refl _ w1).alloc (Nat.le_refl _) _
  have hs2 : w2.heap.size = w.heap.size + 2 := by rw [hw2]; simp; omega
  have hZ2 : Blk 34 w2 (w.heap.size + 1) [.string ⟨#[71, 69, 84]⟩, .string ⟨#[47, 120]⟩, .int .i64 0, .int .i64 0, .slice none 0 0, .string ⟨#[]⟩, .slice none 0 0, .int .i64 0, .string ⟨#[]⟩, .int .i64 0, .string ⟨#[]⟩, .string ⟨#[]⟩, .bool false, .slice none 0 0, .int .i64 0] := by rw [hw2, ← hs1]; exact heap_alloc_new w1 _
  obtain ⟨w3, hw3⟩ : ∃ w3, w3 = w2.alloc (.cells #[.int .i64 0, .string ⟨#[]⟩, .slice none 0 0, .string ⟨#[]⟩] 36) := ⟨_, rfl⟩
  have hb3 : Below w2.heap.size w2 w3 := by rw [hw3]; exact (Below.refl _ w2).alloc (Nat.le_refl _) _
  have hR3 : Blk 36 w3 (w.heap.size + 2) [.int .i64 0, .string ⟨#[]⟩, .slice none 0 0, .string ⟨#[]⟩] := by rw [hw3, ← hs2]; exact heap_alloc_new w2 _
  have hs3 : w3.heap.size = w.heap.size + 3 := by rw [hw3]; simp; omega
  have HK3 : Hid (Blk 39 w3 w.heap.size [.int .i64 4, .string ⟨#[]⟩, .string ⟨#[]⟩, .string ⟨#[]⟩, .int .i64 0, .int .i64 0]) := ((hK1.below hb2).below hb3 : Blk _ _ _ _)
  have HZ3 : Hid (Blk 34 w3 (w.heap.size + 1) [.string ⟨#[71, 69, 84]⟩, .string ⟨#[47, 120]⟩, .int .i64 0, .int .i64 0, .slice none 0 0, .string ⟨#[]⟩, .slice none 0 0, .int .i64 0, .string ⟨#[]⟩, .int .i64 0, .string ⟨#[]⟩, .string ⟨#[]⟩, .bool false, .slice none 0 0, .int .i64 0]) := (hZ2.below hb3 : Blk _ _ _ _)
  have HB3 : Hid (Below w.heap.size w w3) := (bel_tr (bel_tr hb1 hb2 (by omega)) hb3 (by omega) : Below _ _ _)
  have HW3 : Hid (w3 = _) := hw3
  have HW2 : Hid (w2 = _) := hw2
  have HW1 : Hid (w1 = _) := hw1
  have HS3 : Hid (w3.heap.size = w.heap.size + 3) := hs3
  have HR3 : Hid (Blk 36 w3 (w.heap.size + 2) [.int .i64 0, .string ⟨#[]⟩, .slice none 0 0, .string ⟨#[]⟩]) := hR3
  have k0 := HK3.out.cell 0 rfl
  have HC : Hid (Calls _ _ _ _ _) := kindOf_4 w3
  clear hw1 hw2 hw3 hb1 hb2 hb3 hK1 hR3 hs1 hs2 hZ2 hs3
  go_enter Tryz.func7, Tryz.ntmps7
  go_wp2_with fail
  rw [← HW1.out, ← HW2.out, ← HW3.out]
  refine HC.out.mono ?_
  rintro e w4 ⟨rfl, hb4⟩
  have hb5 : Below w4.heap.size w4 (w4.alloc (.cells #[.func (.func 23) #[] #[], .func (.func 24) #[] #[], .func (.func 25) #[] #[]] 47)) := (Below.refl _ w4).alloc (Nat.le_refl _) _
  have HM5 : Hid (Blk 47 (w4.alloc (.cells #[.func (.func 23) #[] #[], .func (.func 24) #[] #[], .func (.func 25) #[] #[]] 47)) w4.heap.size [.func (.func 23) #[] #[], .func (.func 24) #[] #[], .func (.func 25) #[] #[]]) := (heap_alloc_new w4 _ : Blk _ _ _ _)
  have HH5 : Hid (Blk 39 (w4.alloc (.cells #[.func (.func 23) #[] #[], .func (.func 24) #[] #[], .func (.func 25) #[] #[]] 47)) w.heap.size [.int .i64 4, .string ⟨#[]⟩, .string ⟨#[]⟩, .string ⟨#[]⟩, .int .i64 0, .int .i64 0]) := ((HK3.out.below hb4).below hb5 : Blk _ _ _ _)
  have HZ5 : Hid (Blk 34 (w4.alloc (.cells #[.func (.func 23) #[] #[], .func (.func 24) #[] #[], .func (.func 25) #[] #[]] 47)) (w.heap.size + 1) [.string ⟨#[71, 69, 84]⟩, .string ⟨#[47, 120]⟩, .int .i64 0, .int .i64 0, .slice none 0 0, .string ⟨#[]⟩, .slice none 0 0, .int .i64 0, .string ⟨#[]⟩, .int .i64 0, .string ⟨#[]⟩, .string ⟨#[]⟩, .bool false, .slice none 0 0, .int .i64 0]) := ((HZ3.out.below hb4).below hb5 : Blk _ _ _ _)
  have HR5 : Hid (Blk 36 (w4.alloc (.cells #[.func (.func 23) #[] #[], .func (.func 24) #[] #[], .func (.func 25) #[] #[]] 47)) (w.heap.size + 2) [.int .i64 0, .string ⟨#[]⟩, .slice none 0 0, .string ⟨#[]⟩]) := ((HR3.out.below hb4).below hb5 : Blk _ _ _ _)
  have HB4 : Hid (Below w.heap.size w w4) := bel_tr HB3.out hb4 HB3.out.size
  have HB5 : Hid (Below w.heap.size w (w4.alloc (.cells #[.func (.func 23) #[] #[], .func (.func 24) #[] #[], .func (.func 25) #[] #[]] 47))) := bel_tr HB4.out hb5 HB4.out.size
  have h0 : (w4.alloc (.cells #[.func (.func 23) #[] #[], .func (.func 24) #[] #[], .func (.func 25) #[] #[]] 47)).cell? ⟨w.heap.size, 0, none⟩ = some (.int .i64 4) := HH5.out.cell 0 rfl
  have h1 : (w4.alloc (.cells #[.func (.func 23) #[] #[], .func (.func 24) #[] #[], .func (.func 25) #[] #[]] 47)).cell? ⟨w.heap.size, 1, none⟩ = some (.string ⟨#[]⟩) := HH5.out.cell 1 rfl
  have h2 : (w4.alloc (.cells #[.func (.func 23) #[] #[], .func (.func 24) #[] #[], .func (.func 25) #[] #[]] 47)).cell? ⟨w.heap.size, 2, none⟩ = some (.string ⟨#[]⟩) := HH5.out.cell 2 rfl
  have h3 : (w4.alloc (.cells #[.func (.func 23) #[] #[], .func (.func 24) #[] #[], .func (.func 25) #[] #[]] 47)).cell? ⟨w.heap.size, 3, none⟩ = some (.string ⟨#[]⟩) := HH5.out.cell 3 rfl
  have h4 : (w4.alloc (.cells #[.func (.func 23) #[] #[], .func (.func 24) #[] #[], .func (.func 25) #[] #[]] 47)).cell? ⟨w.heap.size, 4, none⟩ = some (.int .i64 0) := HH5.out.cell 4 rfl
  have h5 : (w4.alloc (.cells #[.func (.func 23) #[] #[], .func (.func 24) #[] #[], .func (.func 25) #[] #[]] 47)).cell? ⟨w.heap.size, 5, none⟩ = some (.int .i64 0) := HH5.out.cell 5 rfl
  have m0 : (w4.alloc (.cells #[.func (.func 23) #[] #[], .func (.func 24) #[] #[], .func (.func 25) #[] #[]] 47)).cell? ⟨w4.heap.size, 0, none⟩ = some (.func (.func 23) #[] #[]) := HM5.out.cell 0 rfl
  have m1 : (w4.alloc (.cells #[.func (.func 23) #[] #[], .func (.func 24) #[] #[], .func (.func 25) #[] #[]] 47)).cell? ⟨w4.heap.size, 1, none⟩ = some (.func (.func 24) #[] #[]) := HM5.out.cell 1 rfl
  have m2 : (w4.alloc (.cells #[.func (.func 23) #[] #[], .func (.func 24) #[] #[], .func (.func 25) #[] #[]] 47)).cell? ⟨w4.heap.size, 2, none⟩ = some (.func (.func 25) #[] #[]) := HM5.out.cell 2 rfl
  have HT5 : Hid (Calls _ _ _ _ _) := takes_echo (w4.alloc (.cells #[.func (.func 23) #[] #[], .func (.func 24) #[] #[], .func (.func 25) #[] #[]] 47))
  clear hb4 hb5 HC HB3 HR3 HK3 HZ3 HW1 HW2 HW3 k0
  go_wp2_with fail
  refine HT5.out.mono ?_
  rintro e w6 ⟨rfl, hb6⟩
  have HM6 : Hid (Blk 47 w6 w4.heap.size [.func (.func 23) #[] #[], .func (.func 24) #[] #[], .func (.func 25) #[] #[]]) := HM5.out.below hb6
  have HH6 : Hid (Blk 39 w6 w.heap.size [.int .i64 4, .string ⟨#[]⟩, .string ⟨#[]⟩, .string ⟨#[]⟩, .int .i64 0, .int .i64 0]) := HH5.out.below hb6
  have HZ6 : Hid (Blk 34 w6 (w.heap.size + 1) [.string ⟨#[71, 69, 84]⟩, .string ⟨#[47, 120]⟩, .int .i64 0, .int .i64 0, .slice none 0 0, .string ⟨#[]⟩, .slice none 0 0, .int .i64 0, .string ⟨#[]⟩, .int .i64 0, .string ⟨#[]⟩, .string ⟨#[]⟩, .bool false, .slice none 0 0, .int .i64 0]) := HZ5.out.below hb6
  have HR6 : Hid (Blk 36 w6 (w.heap.size + 2) [.int .i64 0, .string ⟨#[]⟩, .slice none 0 0, .string ⟨#[]⟩]) := HR5.out.below hb6
  have HB6 : Hid (Below w.heap.size w w6) := bel_tr HB5.out hb6 HB5.out.size
  clear h0 h1 h2 h3 h4 h5 m0 m1 m2 hb6 HT5 HM5 HH5 HZ5 HR5 HB5
  have h0 := HH6.out.cell 0 rfl
  have h1 := HH6.out.cell 1 rfl
  have h2 := HH6.out.cell 2 rfl
  have h3 := HH6.out.cell 3 rfl
  have h4 := HH6.out.cell 4 rfl
  have h5 := HH6.out.cell 5 rfl
  have z0 := HZ6.out.cell 0 rfl
  have z1 := HZ6.out.cell 1 rfl
  have z2 := HZ6.out.cell 2 rfl
  have z3 := HZ6.out.cell 3 rfl
  have z4 := HZ6.out.cell 4 rfl
  have z5 := HZ6.out.cell 5 rfl
  have z6 := HZ6.out.cell 6 rfl
  have z7 := HZ6.out.cell 7 rfl
  have z8 := HZ6.out.cell 8 rfl
  have z9 := HZ6.out.cell 9 rfl
  have z10 := HZ6.out.cell 10 rfl
  have z11 := HZ6.out.cell 11 rfl
  have z12 := HZ6.out.cell 12 rfl
  have z13 := HZ6.out.cell 13 rfl
  have z14 := HZ6.out.cell 14 rfl
  have m2 := HM6.out.cell 2 rfl
  have HA6 : Hid (Calls _ _ _ _ _) := answerEcho_x w6
  go_wp2_with fail
  refine HA6.out.mono ?_
  rintro e w8 ⟨a, c, rfl, ho, hb8⟩
  have HO8 : Hid (OwnF 26 w.heap.size (.slice a 1 c) [(nCT, plT)] w8) := own_upF ho HB6.out.size
  have HB8 : Hid (Below w.heap.size w w8) := bel_tr HB6.out hb8 HB6.out.size
  have HR8 : Hid (Blk 36 w8 (w.heap.size + 2) [.int .i64 0, .string ⟨#[]⟩, .slice none 0 0, .string ⟨#[]⟩]) := HR6.out.below hb8
  clear ho hb8 HA6 HM6 HH6 HZ6 HR6 HB6 h0 h1 h2 h3 h4 h5 z0 z1 z2 z3 z4 z5 z6 z7 z8 z9 z10 z11 z12 z13 z14 m2 HB4
  have r0 := HR8.out.cell 0 rfl
  have r1 := HR8.out.cell 1 rfl
  have r2 := HR8.out.cell 2 rfl
  have r3 := HR8.out.cell 3 rfl
  have rf := HR8.out.free
  have hD8 := HR8.out.lt
  have hb9 := set4_but w8 (w.heap.size + 2) (.int .i64 200) (.string ⟨#[]⟩) (.slice a 1 c) (.string ⟨#[71, 69, 84, 32, 47, 120, 10, 10]⟩)
  have hl9 : Below w.heap.size w8 (set4 w8 (w.heap.size + 2) (.int .i64 200) (.string ⟨#[]⟩) (.slice a 1 c) (.string ⟨#[71, 69, 84, 32, 47, 120, 10, 10]⟩)) := hb9.below (by omega) (fun x hx => by simp at hx; omega)
  obtain ⟨W9, hW9⟩ : ∃ W9, W9 = set4 w8 (w.heap.size + 2) (.int .i64 200) (.string ⟨#[]⟩) (.slice a 1 c) (.string ⟨#[71, 69, 84, 32, 47, 120, 10, 10]⟩) := ⟨_, rfl⟩
  have HL9 : Hid (Below w.heap.size w W9) := (by rw [hW9]; exact HB8.out.trans hl9 : Below _ _ _)
  have hB9 : Blk 36 W9 (w.heap.size + 2) [.int .i64 200, .string ⟨#[]⟩, .slice a 1 c, .string ⟨#[71, 69, 84, 32, 47, 120, 10, 10]⟩] := by rw [hW9]; exact set4_blk HR8.out (.int .i64 200) (.string ⟨#[]⟩) (.slice a 1 c) (.string ⟨#[71, 69, 84, 32, 47, 120, 10, 10]⟩)
  have HO9 : Hid (OwnF 26 w.heap.size (.slice a 1 c) [(nCT, plT)] W9) := (by rw [hW9]; exact HR8.out.keep HO8.out (by decide) hb9 : OwnF _ _ _ _ _)
  have HW9 : Hid (((((w8.setCell ⟨w.heap.size + 2, 0, none⟩ (.int .i64 200)).setCell ⟨w.heap.size + 2, 1, none⟩ (.string ⟨#[]⟩)).setCell ⟨w.heap.size + 2, 2, none⟩ (.slice a 1 c)).setCell ⟨w.heap.size + 2, 3, none⟩ (.string ⟨#[71, 69, 84, 32, 47, 120, 10, 10]⟩)) = W9) := hW9.symm
  clear hb9 hl9 hW9
  go_wp2
  rw [HW9.out]
  clear r0 r1 r2 r3 rf
  have q0 := hB9.cell 0 rfl
  have q1 := hB9.cell 1 rfl
  have q2 := hB9.cell 2 rfl
  have q3 := hB9.cell 3 rfl
  refine bodyPost_ret (v := .agg #[.int .i64 200, .string ⟨#[]⟩, .slice a 1 c, .string ⟨#[71, 69, 84, 32, 47, 120, 10, 10]⟩]) (by simp [results, Tryz.results7, go_sem, q0, q1, q2, q3]) rfl ?_
  exact ⟨a, c, rfl, HO9.out, HL9.out⟩

end Hn
end Go.Proofs.YticncpjpkgdnlaaGreatDoor
