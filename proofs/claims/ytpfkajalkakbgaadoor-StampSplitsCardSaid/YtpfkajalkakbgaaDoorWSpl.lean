/-
  The walk of StampSplits.
-/
import Derived.Test.YtpfkajalkakbgaaDoorWAwk
import Derived.Test.YtpfkajalkakbgaaDoorSJoin
set_option linter.unusedVariables false
set_option linter.unusedSimpArgs false
namespace Go.Proofs.YtpfkajalkakbgaaDoor
open Go.RowKit
namespace Bs

def I7 (t : Int) : List Int := if isM t then [(ymd (t / 86400)).1, (ymd (t / 86400)).2.1, (ymd (t / 86400)).2.2, t % 86400 / 3600, t % 86400 % 3600 / 60, t % 86400 % 60, wday (t / 86400)] else [0, 0, 0, 0, 0, 0, 0]
theorem splitR_7 (t : Int) : ∃ y m d h i s k e, splitR t = (dv7 y m d h i s k, e) := by
  unfold splitR splitV
  split
  · exact ⟨_, _, _, _, _, _, _, _, rfl⟩
  · exact ⟨_, _, _, _, _, _, _, _, rfl⟩

set_option maxRecDepth 100000 in
set_option maxHeartbeats 2000000 in
theorem walk_StampSplits (t : Int) (w : World) (tb : Tb w) (ht : I64 t) :
    Calls Tryd.prog 4 #[.int .i64 t] w fun e w' => e = .returned (.bool true) ∧ Below w.heap.size w w' := by
  have HA : Hid (Calls Tryd.prog 9 #[] w fun e w' => e = .returned (.bool true) ∧ Below w.heap.size w w') := awake_any w tb
  have HT : Hid (Tb w) := tb
  clear tb
  have H1 : Hid (∀ w, Tb w → Calls Tryd.prog 16 #[.int .i64 t] w fun e w' => e = .returned (.tuple #[(splitR t).1, .int .i64 (splitR t).2]) ∧ Below w.heap.size w w') := fun w tb => Split_any t ht w tb
  have H2 : Hid (∀ w, Calls Tryd.prog 17 #[.int .i64 t] w fun e w' => e = .returned (.tuple #[(splitR t).1, .int .i64 (splitR t).2]) ∧ Below w.heap.size w w') := fun w => rSplit_any t ht w
  obtain ⟨y, m, d, h, i, s, k, E, hE⟩ := splitR_7 t
  rw [hE] at H1 H2
  clear hE
  have H3 : Hid (∀ w, Calls Tryd.prog 18 #[dv7 y m d h i s k] w fun e w' => e = .returned (dv7 y m d h i s k) ∧ Below w.heap.size w w') := fun w => plain_any y m d h i s k w
  unfold dv7 at *
  go_enter Tryd.func4, Tryd.ntmps4
  go_wp2_with fail
  refine Calls.mono HA.out ?_
  rintro e w1 ⟨rfl, b1⟩
  have HB1 : Hid (Below w.heap.size w w1) := b1
  have HT1 : Hid (Tb w1) := HT.out.bel b1
  clear b1
  go_wp2_with fail
  refine (H1.out _ HT1.out).mono ?_
  rintro e w2 ⟨rfl, b2⟩
  have HB2 : Hid (Below w.heap.size w (w2.alloc (.cells #[.int .i64 y, .int .i64 m, .int .i64 d, .int .i64 h, .int .i64 i, .int .i64 s, .int .i64 k] 32))) := bel_trans (bel_trans HB1.out b2) ((But.refl [] w2).alloc _).to_below
  clear b2
  go_wp2_with fail
  refine (H2.out _).mono ?_
  rintro e w3 ⟨rfl, b3⟩
  have HB3 : Hid (Below w.heap.size w (w3.alloc (.cells #[.int .i64 y, .int .i64 m, .int .i64 d, .int .i64 h, .int .i64 i, .int .i64 s, .int .i64 k] 35))) := bel_trans (bel_trans HB2.out b3) ((But.refl [] w3).alloc _).to_below
  have nn : ∀ x : Nat, x ∉ ([] : List Nat) := fun _ e => by cases e
  have hbt : But [] (w2.alloc (.cells #[.int .i64 y, .int .i64 m, .int .i64 d, .int .i64 h, .int .i64 i, .int .i64 s, .int .i64 k] 32)) (w3.alloc (.cells #[.int .i64 y, .int .i64 m, .int .i64 d, .int .i64 h, .int .i64 i, .int .i64 s, .int .i64 k] 35)) := (But.of_below b3).alloc _
  have c0 := hbt.cell (p := ⟨w2.heap.size, 0, none⟩) (v := .int .i64 y) (by simp) (nn _)
  have c1 := hbt.cell (p := ⟨w2.heap.size, 1, none⟩) (v := .int .i64 m) (by simp) (nn _)
  have c2 := hbt.cell (p := ⟨w2.heap.size, 2, none⟩) (v := .int .i64 d) (by simp) (nn _)
  have c3 := hbt.cell (p := ⟨w2.heap.size, 3, none⟩) (v := .int .i64 h) (by simp) (nn _)
  have c4 := hbt.cell (p := ⟨w2.heap.size, 4, none⟩) (v := .int .i64 i) (by simp) (nn _)
  have c5 := hbt.cell (p := ⟨w2.heap.size, 5, none⟩) (v := .int .i64 s) (by simp) (nn _)
  have c6 := hbt.cell (p := ⟨w2.heap.size, 6, none⟩) (v := .int .i64 k) (by simp) (nn _)
  have d0 : (w3.alloc (.cells #[.int .i64 y, .int .i64 m, .int .i64 d, .int .i64 h, .int .i64 i, .int .i64 s, .int .i64 k] 35)).cell? ⟨w3.heap.size, 0, none⟩ = some (.int .i64 y) := by simp
  have d1 : (w3.alloc (.cells #[.int .i64 y, .int .i64 m, .int .i64 d, .int .i64 h, .int .i64 i, .int .i64 s, .int .i64 k] 35)).cell? ⟨w3.heap.size, 1, none⟩ = some (.int .i64 m) := by simp
  have d2 : (w3.alloc (.cells #[.int .i64 y, .int .i64 m, .int .i64 d, .int .i64 h, .int .i64 i, .int .i64 s, .int .i64 k] 35)).cell? ⟨w3.heap.size, 2, none⟩ = some (.int .i64 d) := by simp
  have d3 : (w3.alloc (.cells #[.int .i64 y, .int .i64 m, .int .i64 d, .int .i64 h, .int .i64 i, .int .i64 s, .int .i64 k] 35)).cell? ⟨w3.heap.size, 3, none⟩ = some (.int .i64 h) := by simp
  have d4 : (w3.alloc (.cells #[.int .i64 y, .int .i64 m, .int .i64 d, .int .i64 h, .int .i64 i, .int .i64 s, .int .i64 k] 35)).cell? ⟨w3.heap.size, 4, none⟩ = some (.int .i64 i) := by simp
  have d5 : (w3.alloc (.cells #[.int .i64 y, .int .i64 m, .int .i64 d, .int .i64 h, .int .i64 i, .int .i64 s, .int .i64 k] 35)).cell? ⟨w3.heap.size, 5, none⟩ = some (.int .i64 s) := by simp
  have d6 : (w3.alloc (.cells #[.int .i64 y, .int .i64 m, .int .i64 d, .int .i64 h, .int .i64 i, .int .i64 s, .int .i64 k] 35)).cell? ⟨w3.heap.size, 6, none⟩ = some (.int .i64 k) := by simp
  clear b3 hbt
  go_wp2_with fail
  generalize (w3.alloc (.cells #[.int .i64 y, .int .i64 m, .int .i64 d, .int .i64 h, .int .i64 i, .int .i64 s, .int .i64 k] 35)) = W4 at *
  generalize w2.heap.size = P2 at *
  generalize w3.heap.size = P3 at *
  have e0 : W4.drew.cell? ⟨P2, 0, none⟩ = some (.int .i64 y) := c0
  have e1 : W4.drew.cell? ⟨P2, 1, none⟩ = some (.int .i64 m) := c1
  have e2 : W4.drew.cell? ⟨P2, 2, none⟩ = some (.int .i64 d) := c2
  have e3 : W4.drew.cell? ⟨P2, 3, none⟩ = some (.int .i64 h) := c3
  have e4 : W4.drew.cell? ⟨P2, 4, none⟩ = some (.int .i64 i) := c4
  have e5 : W4.drew.cell? ⟨P2, 5, none⟩ = some (.int .i64 s) := c5
  have e6 : W4.drew.cell? ⟨P2, 6, none⟩ = some (.int .i64 k) := c6
  have g0 : W4.drew.cell? ⟨P3, 0, none⟩ = some (.int .i64 y) := d0
  have g1 : W4.drew.cell? ⟨P3, 1, none⟩ = some (.int .i64 m) := d1
  have g2 : W4.drew.cell? ⟨P3, 2, none⟩ = some (.int .i64 d) := d2
  have g3 : W4.drew.cell? ⟨P3, 3, none⟩ = some (.int .i64 h) := d3
  have g4 : W4.drew.cell? ⟨P3, 4, none⟩ = some (.int .i64 i) := d4
  have g5 : W4.drew.cell? ⟨P3, 5, none⟩ = some (.int .i64 s) := d5
  have g6 : W4.drew.cell? ⟨P3, 6, none⟩ = some (.int .i64 k) := d6
  have HB4 : Hid (Below w.heap.size w W4.drew) := bel_drewN HB3.out 1
  clear c0 c1 c2 c3 c4 c5 c6 d0 d1 d2 d3 d4 d5 d6 HB3
  go_region_held3 (fun X => X.cell? ⟨P2, 0, none⟩ = some (.int .i64 y) ∧ X.cell? ⟨P2, 1, none⟩ = some (.int .i64 m) ∧ X.cell? ⟨P2, 2, none⟩ = some (.int .i64 d) ∧ X.cell? ⟨P2, 3, none⟩ = some (.int .i64 h) ∧ X.cell? ⟨P2, 4, none⟩ = some (.int .i64 i) ∧ X.cell? ⟨P2, 5, none⟩ = some (.int .i64 s) ∧ X.cell? ⟨P2, 6, none⟩ = some (.int .i64 k) ∧ X.cell? ⟨P3, 0, none⟩ = some (.int .i64 y) ∧ X.cell? ⟨P3, 1, none⟩ = some (.int .i64 m) ∧ X.cell? ⟨P3, 2, none⟩ = some (.int .i64 d) ∧ X.cell? ⟨P3, 3, none⟩ = some (.int .i64 h) ∧ X.cell? ⟨P3, 4, none⟩ = some (.int .i64 i) ∧ X.cell? ⟨P3, 5, none⟩ = some (.int .i64 s) ∧ X.cell? ⟨P3, 6, none⟩ = some (.int .i64 k)) (first | exact ⟨e0, e1, e2, e3, e4, e5, e6, g0, g1, g2, g3, g4, g5, g6⟩ | exact ⟨m0, m1, m2, m3, m4, m5, m6, m7, m8, m9, m10, m11, m12, m13⟩) (first | (go_at_call 18; refine (H3.out _).mono ?_; rintro e w5 ⟨rfl, b5⟩; have HB5 : Hid (Below w.heap.size w w5) := bel_trans HB4.out b5; have m0 := (But.of_below b5).cell e0 (nn _); have m1 := (But.of_below b5).cell e1 (nn _); have m2 := (But.of_below b5).cell e2 (nn _); have m3 := (But.of_below b5).cell e3 (nn _); have m4 := (But.of_below b5).cell e4 (nn _); have m5 := (But.of_below b5).cell e5 (nn _); have m6 := (But.of_below b5).cell e6 (nn _); have m7 := (But.of_below b5).cell g0 (nn _); have m8 := (But.of_below b5).cell g1 (nn _); have m9 := (But.of_below b5).cell g2 (nn _); have m10 := (But.of_below b5).cell g3 (nn _); have m11 := (But.of_below b5).cell g4 (nn _); have m12 := (But.of_below b5).cell g5 (nn _); have m13 := (But.of_below b5).cell g6 (nn _); clear b5))
  go_wp2
  go_ret
  exact ⟨rfl, HB5.out⟩

end Bs
end Go.Proofs.YtpfkajalkakbgaaDoor
