/- Several texts as one. -/
import Derived.Test.YtjngpafokkjkdaaGreatDoorMgS
/-
  The functions that take a form's pieces, in their order: form 0.
-/
set_option linter.unusedVariables false
set_option linter.unusedSimpArgs false
namespace Go.Proofs.YtjngpafokkjkdaaGreatDoor
open Go.RowKit
namespace Bs

set_option maxRecDepth 100000 in
set_option maxHeartbeats 8000000 in
theorem takers_0 (P : Nat) (w : World) (hP : P < w.heap.size) :
    Calls Tryz.prog 90 #[.int .i64 0, pp P 0] w fun e w' => ∃ v, e = .returned v ∧ Tks w' P (tks 0) v ∧ Below w.heap.size w w' := by
  have HX : Hid (∀ (t : List UInt8) w, P < w.heap.size → Calls Tryz.prog 111 #[.string (str t)] w fun e w' => ∃ v, e = .returned v ∧ Tk w' P (.ex t) v ∧ Below w.heap.size w w') := fun t w h => exactly_any t P w h
  have HD : Hid (∀ (n f : Nat) w, P < w.heap.size → Calls Tryz.prog 110 #[.int .i64 (n : Int), pp P (2 * f)] w fun e w' => ∃ v, e = .returned v ∧ Tk w' P (.dg n f) v ∧ Below w.heap.size w w') := fun n f w h => digits_any n f P w h
  have HN : Hid (∀ (k f : Nat) w, P < w.heap.size → Calls Tryz.prog 106 #[.int .i64 ((nms k).length : Int), .func (.func (fnm k)) #[] #[], pp P (2 * f)] w fun e w' => ∃ v, e = .returned v ∧ Tk w' P (.nm k f) v ∧ Below w.heap.size w w') := fun k f w h => name_any k f P w h
  unfold pp at *
  go_enter Tryz.func90, Tryz.ntmps90
  have hz0 : P < w.heap.size := hP
  go_wp2_with fail
  (refine (HN.out 0 0 w hz0).mono ?_; rintro e w1 ⟨v1, rfl, t1, b1⟩; obtain ⟨c1, rfl⟩ := t1.fn; have hz1 : P < w1.heap.size := Nat.lt_of_lt_of_le hz0 b1.size; have T1 : Hid (Tk w1 P (.nm 0 0) (.func (.func 119) #[] c1)) := t1; have B1 : Hid (Below w.heap.size w w1) := b1; clear t1 b1)
  go_wp2_with fail
  (refine (HN.out 1 0 w1 hz1).mono ?_; rintro e w2 ⟨v2, rfl, t2, b2⟩; obtain ⟨c2, rfl⟩ := t2.fn; have hz2 : P < w2.heap.size := Nat.lt_of_lt_of_le hz1 b2.size; have T2 : Hid (Tk w2 P (.nm 1 0) (.func (.func 119) #[] c2)) := t2; have B2 : Hid (Below w1.heap.size w1 w2) := b2; clear t2 b2)
  go_wp2_with fail
  (refine (HN.out 2 2 w2 hz2).mono ?_; rintro e w3 ⟨v3, rfl, t3, b3⟩; obtain ⟨c3, rfl⟩ := t3.fn; have hz3 : P < w3.heap.size := Nat.lt_of_lt_of_le hz2 b3.size; have T3 : Hid (Tk w3 P (.nm 2 2) (.func (.func 119) #[] c3)) := t3; have B3 : Hid (Below w2.heap.size w2 w3) := b3; clear t3 b3)
  have hz3d : P < w3.drew.heap.size := hz3
  go_wp2_with fail
  go_region_with (first | (go_at_call 110; refine (HD.out 2 1 w3.drew hz3d).mono ?_; rintro e w4 ⟨v4, rfl, t4, b4⟩; obtain ⟨c4, rfl⟩ := t4.fn; have hz4 : P < w4.heap.size := Nat.lt_of_lt_of_le hz3d b4.size; have T4 : Hid (Tk w4 P (.dg 2 1) (.func (.func 120) #[] c4)) := t4; have B4 : Hid (Below w3.heap.size w3 w4) := bel_trans (But.refl [] w3).drew.to_below b4; clear t4 b4) | (go_at_call 110; refine (HD.out 4 3 w4 hz4).mono ?_; rintro e w5 ⟨v5, rfl, t5, b5⟩; obtain ⟨c5, rfl⟩ := t5.fn; have hz5 : P < w5.heap.size := Nat.lt_of_lt_of_le hz4 b5.size; have T5 : Hid (Tk w5 P (.dg 4 3) (.func (.func 120) #[] c5)) := t5; have B5 : Hid (Below w4.heap.size w4 w5) := b5; clear t5 b5))
  have hz5d : P < w5.drew.heap.size := hz5
  go_wp2_with fail
  go_region_with (first | (go_at_call 110; refine (HD.out 2 4 w5.drew hz5d).mono ?_; rintro e w6 ⟨v6, rfl, t6, b6⟩; obtain ⟨c6, rfl⟩ := t6.fn; have hz6 : P < w6.heap.size := Nat.lt_of_lt_of_le hz5d b6.size; have T6 : Hid (Tk w6 P (.dg 2 4) (.func (.func 120) #[] c6)) := t6; have B6 : Hid (Below w5.heap.size w5 w6) := bel_trans (But.refl [] w5).drew.to_below b6; clear t6 b6) | (go_at_call 110; refine (HD.out 2 5 w6 hz6).mono ?_; rintro e w7 ⟨v7, rfl, t7, b7⟩; obtain ⟨c7, rfl⟩ := t7.fn; have hz7 : P < w7.heap.size := Nat.lt_of_lt_of_le hz6 b7.size; have T7 : Hid (Tk w7 P (.dg 2 5) (.func (.func 120) #[] c7)) := t7; have B7 : Hid (Below w6.heap.size w6 w7) := b7; clear t7 b7) | (go_at_call 110; refine (HD.out 2 6 w7 hz7).mono ?_; rintro e w8 ⟨v8, rfl, t8, b8⟩; obtain ⟨c8, rfl⟩ := t8.fn; have hz8 : P < w8.heap.size := Nat.lt_of_lt_of_le hz7 b8.size; have T8 : Hid (Tk w8 P (.dg 2 6) (.func (.func 120) #[] c8)) := t8; have B8 : Hid (Below w7.heap.size w7 w8) := b8; clear t8 b8))
  go_wp2_with fail
  (refine (HX.out [32] w8 hz8).mono ?_; rintro e w9 ⟨v9, rfl, t9, b9⟩; obtain ⟨c9, rfl⟩ := t9.fn; have hz9 : P < w9.heap.size := Nat.lt_of_lt_of_le hz8 b9.size; have T9 : Hid (Tk w9 P (.ex [32]) (.func (.func 121) #[] c9)) := t9; have B9 : Hid (Below w8.heap.size w8 w9) := b9; clear t9 b9)
  go_wp2_with fail
  (refine (HX.out [58] w9 hz9).mono ?_; rintro e w10 ⟨v10, rfl, t10, b10⟩; obtain ⟨c10, rfl⟩ := t10.fn; have hz10 : P < w10.heap.size := Nat.lt_of_lt_of_le hz9 b10.size; have T10 : Hid (Tk w10 P (.ex [58]) (.func (.func 121) #[] c10)) := t10; have B10 : Hid (Below w9.heap.size w9 w10) := b10; clear t10 b10)
  go_wp2_with fail
  (refine (HX.out [44, 32] w10 hz10).mono ?_; rintro e w11 ⟨v11, rfl, t11, b11⟩; obtain ⟨c11, rfl⟩ := t11.fn; have hz11 : P < w11.heap.size := Nat.lt_of_lt_of_le hz10 b11.size; have T11 : Hid (Tk w11 P (.ex [44, 32]) (.func (.func 121) #[] c11)) := t11; have B11 : Hid (Below w10.heap.size w10 w11) := b11; clear t11 b11)
  go_wp2_with fail
  (refine (HX.out [32, 71, 77, 84] w11 hz11).mono ?_; rintro e w12 ⟨v12, rfl, t12, b12⟩; obtain ⟨c12, rfl⟩ := t12.fn; have hz12 : P < w12.heap.size := Nat.lt_of_lt_of_le hz11 b12.size; have T12 : Hid (Tk w12 P (.ex [32, 71, 77, 84]) (.func (.func 121) #[] c12)) := t12; have B12 : Hid (Below w11.heap.size w11 w12) := b12; clear t12 b12)
  go_wp2
  go_ret
  have BA : Below w12.heap.size w12 (w12.alloc (.cells #[.func (.func 119) #[] c1, .func (.func 121) #[] c11, .func (.func 120) #[] c4, .func (.func 121) #[] c9, .func (.func 119) #[] c3, .func (.func 121) #[] c9, .func (.func 120) #[] c5, .func (.func 121) #[] c9, .func (.func 120) #[] c6, .func (.func 121) #[] c10, .func (.func 120) #[] c7, .func (.func 121) #[] c10, .func (.func 120) #[] c8, .func (.func 121) #[] c12] 138)) := ((But.refl [] w12).alloc _).to_below
  refine ⟨_, rfl, ⟨w12.heap.size, rfl, by omega, fun i t hi => ?_⟩, bel_trans (bel_trans (bel_trans (bel_trans (bel_trans (bel_trans (bel_trans (bel_trans (bel_trans (bel_trans (bel_trans (bel_trans B1.out B2.out) B3.out) B4.out) B5.out) B6.out) B7.out) B8.out) B9.out) B10.out) B11.out) B12.out) BA⟩
  have hc : ∀ (j : Nat) (u : Value), ([.func (.func 119) #[] c1, .func (.func 121) #[] c11, .func (.func 120) #[] c4, .func (.func 121) #[] c9, .func (.func 119) #[] c3, .func (.func 121) #[] c9, .func (.func 120) #[] c5, .func (.func 121) #[] c9, .func (.func 120) #[] c6, .func (.func 121) #[] c10, .func (.func 120) #[] c7, .func (.func 121) #[] c10, .func (.func 120) #[] c8, .func (.func 121) #[] c12] : List Value)[j]? = some u → (w12.alloc (.cells #[.func (.func 119) #[] c1, .func (.func 121) #[] c11, .func (.func 120) #[] c4, .func (.func 121) #[] c9, .func (.func 119) #[] c3, .func (.func 121) #[] c9, .func (.func 120) #[] c5, .func (.func 121) #[] c9, .func (.func 120) #[] c6, .func (.func 121) #[] c10, .func (.func 120) #[] c7, .func (.func 121) #[] c10, .func (.func 120) #[] c8, .func (.func 121) #[] c12] 138)).cell? ⟨w12.heap.size, j, none⟩ = some u := fun j u hu => by simpa using hu
  match i, hi with
  | 0, hi => cases hi; exact ⟨_, hc 0 (.func (.func 119) #[] c1) rfl, ((((((((((((T1.out.below B2.out).below B3.out).below B4.out).below B5.out).below B6.out).below B7.out).below B8.out).below B9.out).below B10.out).below B11.out).below B12.out).below BA)⟩
  | 1, hi => cases hi; exact ⟨_, hc 1 (.func (.func 121) #[] c11) rfl, ((T11.out.below B12.out).below BA)⟩
  | 2, hi => cases hi; exact ⟨_, hc 2 (.func (.func 120) #[] c4) rfl, (((((((((T4.out.below B5.out).below B6.out).below B7.out).below B8.out).below B9.out).below B10.out).below B11.out).below B12.out).below BA)⟩
  | 3, hi => cases hi; exact ⟨_, hc 3 (.func (.func 121) #[] c9) rfl, ((((T9.out.below B10.out).below B11.out).below B12.out).below BA)⟩
  | 4, hi => cases hi; exact ⟨_, hc 4 (.func (.func 119) #[] c3) rfl, ((((((((((T3.out.below B4.out).below B5.out).below B6.out).below B7.out).below B8.out).below B9.out).below B10.out).below B11.out).below B12.out).below BA)⟩
  | 5, hi => cases hi; exact ⟨_, hc 5 (.func (.func 121) #[] c9) rfl, ((((T9.out.below B10.out).below B11.out).below B12.out).below BA)⟩
  | 6, hi => cases hi; exact ⟨_, hc 6 (.func (.func 120) #[] c5) rfl, ((((((((T5.out.below B6.out).below B7.out).below B8.out).below B9.out).below B10.out).below B11.out).below B12.out).below BA)⟩
  | 7, hi => cases hi; exact ⟨_, hc 7 (.func (.func 121) #[] c9) rfl, ((((T9.out.below B10.out).below B11.out).below B12.out).below BA)⟩
  | 8, hi => cases hi; exact ⟨_, hc 8 (.func (.func 120) #[] c6) rfl, (((((((T6.out.below B7.out).below B8.out).below B9.out).below B10.out).below B11.out).below B12.out).below BA)⟩
  | 9, hi => cases hi; exact ⟨_, hc 9 (.func (.func 121) #[] c10) rfl, (((T10.out.below B11.out).below B12.out).below BA)⟩
  | 10, hi => cases hi; exact ⟨_, hc 10 (.func (.func 120) #[] c7) rfl, ((((((T7.out.below B8.out).below B9.out).below B10.out).below B11.out).below B12.out).below BA)⟩
  | 11, hi => cases hi; exact ⟨_, hc 11 (.func (.func 121) #[] c10) rfl, (((T10.out.below B11.out).below B12.out).below BA)⟩
  | 12, hi => cases hi; exact ⟨_, hc 12 (.func (.func 120) #[] c8) rfl, (((((T8.out.below B9.out).below B10.out).below B11.out).below B12.out).below BA)⟩
  | 13, hi => cases hi; exact ⟨_, hc 13 (.func (.func 121) #[] c12) rfl, (T12.out.below BA)⟩
  | i + 14, hi => exfalso; simp [tks, tkF, tkL, tkP] at hi

end Bs
end Go.Proofs.YtjngpafokkjkdaaGreatDoor

/-
  The functions that take a form's pieces, in their order: form 1.
-/
set_option linter.unusedVariables false
set_option linter.unusedSimpArgs false
namespace Go.Proofs.YtjngpafokkjkdaaGreatDoor
open Go.RowKit
namespace Bs

set_option maxRecDepth 100000 in
set_option maxHeartbeats 8000000 in
theorem takers_1 (P : Nat) (w : World) (hP : P < w.heap.size) :
    Calls Tryz.prog 90 #[.int .i64 1, pp P 0] w fun e w' => ∃ v, e = .returned v ∧ Tks w' P (tks 1) v ∧ Below w.heap.size w w' := by
  have HX : Hid (∀ (t : List UInt8) w, P < w.heap.size → Calls Tryz.prog 111 #[.string (str t)] w fun e w' => ∃ v, e = .returned v ∧ Tk w' P (.ex t) v ∧ Below w.heap.size w w') := fun t w h => exactly_any t P w h
  have HD : Hid (∀ (n f : Nat) w, P < w.heap.size → Calls Tryz.prog 110 #[.int .i64 (n : Int), pp P (2 * f)] w fun e w' => ∃ v, e = .returned v ∧ Tk w' P (.dg n f) v ∧ Below w.heap.size w w') := fun n f w h => digits_any n f P w h
  have HN : Hid (∀ (k f : Nat) w, P < w.heap.size → Calls Tryz.prog 106 #[.int .i64 ((nms k).length : Int), .func (.func (fnm k)) #[] #[], pp P (2 * f)] w fun e w' => ∃ v, e = .returned v ∧ Tk w' P (.nm k f) v ∧ Below w.heap.size w w') := fun k f w h => name_any k f P w h
  unfold pp at *
  go_enter Tryz.func90, Tryz.ntmps90
  have hz0 : P < w.heap.size := hP
  go_wp2_with fail
  (refine (HN.out 0 0 w hz0).mono ?_; rintro e w1 ⟨v1, rfl, t1, b1⟩; obtain ⟨c1, rfl⟩ := t1.fn; have hz1 : P < w1.heap.size := Nat.lt_of_lt_of_le hz0 b1.size; have T1 : Hid (Tk w1 P (.nm 0 0) (.func (.func 119) #[] c1)) := t1; have B1 : Hid (Below w.heap.size w w1) := b1; clear t1 b1)
  go_wp2_with fail
  (refine (HN.out 1 0 w1 hz1).mono ?_; rintro e w2 ⟨v2, rfl, t2, b2⟩; obtain ⟨c2, rfl⟩ := t2.fn; have hz2 : P < w2.heap.size := Nat.lt_of_lt_of_le hz1 b2.size; have T2 : Hid (Tk w2 P (.nm 1 0) (.func (.func 119) #[] c2)) := t2; have B2 : Hid (Below w1.heap.size w1 w2) := b2; clear t2 b2)
  go_wp2_with fail
  (refine (HN.out 2 2 w2 hz2).mono ?_; rintro e w3 ⟨v3, rfl, t3, b3⟩; obtain ⟨c3, rfl⟩ := t3.fn; have hz3 : P < w3.heap.size := Nat.lt_of_lt_of_le hz2 b3.size; have T3 : Hid (Tk w3 P (.nm 2 2) (.func (.func 119) #[] c3)) := t3; have B3 : Hid (Below w2.heap.size w2 w3) := b3; clear t3 b3)
  have hz3d : P < w3.drew.heap.size := hz3
  go_wp2_with fail
  go_region_with (first | (go_at_call 110; refine (HD.out 2 1 w3.drew hz3d).mono ?_; rintro e w4 ⟨v4, rfl, t4, b4⟩; obtain ⟨c4, rfl⟩ := t4.fn; have hz4 : P < w4.heap.size := Nat.lt_of_lt_of_le hz3d b4.size; have T4 : Hid (Tk w4 P (.dg 2 1) (.func (.func 120) #[] c4)) := t4; have B4 : Hid (Below w3.heap.size w3 w4) := bel_trans (But.refl [] w3).drew.to_below b4; clear t4 b4) | (go_at_call 110; refine (HD.out 4 3 w4 hz4).mono ?_; rintro e w5 ⟨v5, rfl, t5, b5⟩; obtain ⟨c5, rfl⟩ := t5.fn; have hz5 : P < w5.heap.size := Nat.lt_of_lt_of_le hz4 b5.size; have T5 : Hid (Tk w5 P (.dg 4 3) (.func (.func 120) #[] c5)) := t5; have B5 : Hid (Below w4.heap.size w4 w5) := b5; clear t5 b5))
  have hz5d : P < w5.drew.heap.size := hz5
  go_wp2_with fail
  go_region_with (first | (go_at_call 110; refine (HD.out 2 4 w5.drew hz5d).mono ?_; rintro e w6 ⟨v6, rfl, t6, b6⟩; obtain ⟨c6, rfl⟩ := t6.fn; have hz6 : P < w6.heap.size := Nat.lt_of_lt_of_le hz5d b6.size; have T6 : Hid (Tk w6 P (.dg 2 4) (.func (.func 120) #[] c6)) := t6; have B6 : Hid (Below w5.heap.size w5 w6) := bel_trans (But.refl [] w5).drew.to_below b6; clear t6 b6) | (go_at_call 110; refine (HD.out 2 5 w6 hz6).mono ?_; rintro e w7 ⟨v7, rfl, t7, b7⟩; obtain ⟨c7, rfl⟩ := t7.fn; have hz7 : P < w7.heap.size := Nat.lt_of_lt_of_le hz6 b7.size; have T7 : Hid (Tk w7 P (.dg 2 5) (.func (.func 120) #[] c7)) := t7; have B7 : Hid (Below w6.heap.size w6 w7) := b7; clear t7 b7) | (go_at_call 110; refine (HD.out 2 6 w7 hz7).mono ?_; rintro e w8 ⟨v8, rfl, t8, b8⟩; obtain ⟨c8, rfl⟩ := t8.fn; have hz8 : P < w8.heap.size := Nat.lt_of_lt_of_le hz7 b8.size; have T8 : Hid (Tk w8 P (.dg 2 6) (.func (.func 120) #[] c8)) := t8; have B8 : Hid (Below w7.heap.size w7 w8) := b8; clear t8 b8))
  go_wp2_with fail
  (refine (HX.out [32] w8 hz8).mono ?_; rintro e w9 ⟨v9, rfl, t9, b9⟩; obtain ⟨c9, rfl⟩ := t9.fn; have hz9 : P < w9.heap.size := Nat.lt_of_lt_of_le hz8 b9.size; have T9 : Hid (Tk w9 P (.ex [32]) (.func (.func 121) #[] c9)) := t9; have B9 : Hid (Below w8.heap.size w8 w9) := b9; clear t9 b9)
  go_wp2_with fail
  (refine (HX.out [58] w9 hz9).mono ?_; rintro e w10 ⟨v10, rfl, t10, b10⟩; obtain ⟨c10, rfl⟩ := t10.fn; have hz10 : P < w10.heap.size := Nat.lt_of_lt_of_le hz9 b10.size; have T10 : Hid (Tk w10 P (.ex [58]) (.func (.func 121) #[] c10)) := t10; have B10 : Hid (Below w9.heap.size w9 w10) := b10; clear t10 b10)
  have hz10d : P < w10.drew.heap.size := hz10
  go_wp2_with fail
  go_region_with (first | (go_at_call 111; refine (HX.out [44, 32] w10.drew hz10d).mono ?_; rintro e w11 ⟨v11, rfl, t11, b11⟩; obtain ⟨c11, rfl⟩ := t11.fn; have hz11 : P < w11.heap.size := Nat.lt_of_lt_of_le hz10d b11.size; have T11 : Hid (Tk w11 P (.ex [44, 32]) (.func (.func 121) #[] c11)) := t11; have B11 : Hid (Below w10.heap.size w10 w11) := bel_trans (But.refl [] w10).drew.to_below b11; clear t11 b11) | (go_at_call 111; refine (HX.out [45] w11 hz11).mono ?_; rintro e w12 ⟨v12, rfl, t12, b12⟩; obtain ⟨c12, rfl⟩ := t12.fn; have hz12 : P < w12.heap.size := Nat.lt_of_lt_of_le hz11 b12.size; have T12 : Hid (Tk w12 P (.ex [45]) (.func (.func 121) #[] c12)) := t12; have B12 : Hid (Below w11.heap.size w11 w12) := b12; clear t12 b12) | (go_at_call 111; refine (HX.out [45] w12 hz12).mono ?_; rintro e w13 ⟨v13, rfl, t13, b13⟩; obtain ⟨c13, rfl⟩ := t13.fn; have hz13 : P < w13.heap.size := Nat.lt_of_lt_of_le hz12 b13.size; have T13 : Hid (Tk w13 P (.ex [45]) (.func (.func 121) #[] c13)) := t13; have B13 : Hid (Below w12.heap.size w12 w13) := b13; clear t13 b13) | (go_at_call 110; refine (HD.out 2 3 w13 hz13).mono ?_; rintro e w14 ⟨v14, rfl, t14, b14⟩; obtain ⟨c14, rfl⟩ := t14.fn; have hz14 : P < w14.heap.size := Nat.lt_of_lt_of_le hz13 b14.size; have T14 : Hid (Tk w14 P (.dg 2 3) (.func (.func 120) #[] c14)) := t14; have B14 : Hid (Below w13.heap.size w13 w14) := b14; clear t14 b14) | (go_at_call 111; refine (HX.out [32, 71, 77, 84] w14 hz14).mono ?_; rintro e w15 ⟨v15, rfl, t15, b15⟩; obtain ⟨c15, rfl⟩ := t15.fn; have hz15 : P < w15.heap.size := Nat.lt_of_lt_of_le hz14 b15.size; have T15 : Hid (Tk w15 P (.ex [32, 71, 77, 84]) (.func (.func 121) #[] c15)) := t15; have B15 : Hid (Below w14.heap.size w14 w15) := b15; clear t15 b15))
  go_wp2
  go_ret
  have BA : Below w15.heap.size w15 (w15.alloc (.cells #[.func (.func 119) #[] c2, .func (.func 121) #[] c11, .func (.func 120) #[] c4, .func (.func 121) #[] c12, .func (.func 119) #[] c3, .func (.func 121) #[] c13, .func (.func 120) #[] c14, .func (.func 121) #[] c9, .func (.func 120) #[] c6, .func (.func 121) #[] c10, .func (.func 120) #[] c7, .func (.func 121) #[] c10, .func (.func 120) #[] c8, .func (.func 121) #[] c15] 138)) := ((But.refl [] w15).alloc _).to_below
  refine ⟨_, rfl, ⟨w15.heap.size, rfl, by omega, fun i t hi => ?_⟩, bel_trans (bel_trans (bel_trans (bel_trans (bel_trans (bel_trans (bel_trans (bel_trans (bel_trans (bel_trans (bel_trans (bel_trans (bel_trans (bel_trans (bel_trans B1.out B2.out) B3.out) B4.out) B5.out) B6.out) B7.out) B8.out) B9.out) B10.out) B11.out) B12.out) B13.out) B14.out) B15.out) BA⟩
  have hc : ∀ (j : Nat) (u : Value), ([.func (.func 119) #[] c2, .func (.func 121) #[] c11, .func (.func 120) #[] c4, .func (.func 121) #[] c12, .func (.func 119) #[] c3, .func (.func 121) #[] c13, .func (.func 120) #[] c14, .func (.func 121) #[] c9, .func (.func 120) #[] c6, .func (.func 121) #[] c10, .func (.func 120) #[] c7, .func (.func 121) #[] c10, .func (.func 120) #[] c8, .func (.func 121) #[] c15] : List Value)[j]? = some u → (w15.alloc (.cells #[.func (.func 119) #[] c2, .func (.func 121) #[] c11, .func (.func 120) #[] c4, .func (.func 121) #[] c12, .func (.func 119) #[] c3, .func (.func 121) #[] c13, .func (.func 120) #[] c14, .func (.func 121) #[] c9, .func (.func 120) #[] c6, .func (.func 121) #[] c10, .func (.func 120) #[] c7, .func (.func 121) #[] c10, .func (.func 120) #[] c8, .func (.func 121) #[] c15] 138)).cell? ⟨w15.heap.size, j, none⟩ = some u := fun j u hu => by simpa using hu
  match i, hi with
  | 0, hi => cases hi; exact ⟨_, hc 0 (.func (.func 119) #[] c2) rfl, ((((((((((((((T2.out.below B3.out).below B4.out).below B5.out).below B6.out).below B7.out).below B8.out).below B9.out).below B10.out).below B11.out).below B12.out).below B13.out).below B14.out).below B15.out).below BA)⟩
  | 1, hi => cases hi; exact ⟨_, hc 1 (.func (.func 121) #[] c11) rfl, (((((T11.out.below B12.out).below B13.out).below B14.out).below B15.out).below BA)⟩
  | 2, hi => cases hi; exact ⟨_, hc 2 (.func (.func 120) #[] c4) rfl, ((((((((((((T4.out.below B5.out).below B6.out).below B7.out).below B8.out).below B9.out).below B10.out).below B11.out).below B12.out).below B13.out).below B14.out).below B15.out).below BA)⟩
  | 3, hi => cases hi; exact ⟨_, hc 3 (.func (.func 121) #[] c12) rfl, ((((T12.out.below B13.out).below B14.out).below B15.out).below BA)⟩
  | 4, hi => cases hi; exact ⟨_, hc 4 (.func (.func 119) #[] c3) rfl, (((((((((((((T3.out.below B4.out).below B5.out).below B6.out).below B7.out).below B8.out).below B9.out).below B10.out).below B11.out).below B12.out).below B13.out).below B14.out).below B15.out).below BA)⟩
  | 5, hi => cases hi; exact ⟨_, hc 5 (.func (.func 121) #[] c13) rfl, (((T13.out.below B14.out).below B15.out).below BA)⟩
  | 6, hi => cases hi; exact ⟨_, hc 6 (.func (.func 120) #[] c14) rfl, ((T14.out.below B15.out).below BA)⟩
  | 7, hi => cases hi; exact ⟨_, hc 7 (.func (.func 121) #[] c9) rfl, (((((((T9.out.below B10.out).below B11.out).below B12.out).below B13.out).below B14.out).below B15.out).below BA)⟩
  | 8, hi => cases hi; exact ⟨_, hc 8 (.func (.func 120) #[] c6) rfl, ((((((((((T6.out.below B7.out).below B8.out).below B9.out).below B10.out).below B11.out).below B12.out).below B13.out).below B14.out).below B15.out).below BA)⟩
  | 9, hi => cases hi; exact ⟨_, hc 9 (.func (.func 121) #[] c10) rfl, ((((((T10.out.below B11.out).below B12.out).below B13.out).below B14.out).below B15.out).below BA)⟩
  | 10, hi => cases hi; exact ⟨_, hc 10 (.func (.func 120) #[] c7) rfl, (((((((((T7.out.below B8.out).below B9.out).below B10.out).below B11.out).below B12.out).below B13.out).below B14.out).below B15.out).below BA)⟩
  | 11, hi => cases hi; exact ⟨_, hc 11 (.func (.func 121) #[] c10) rfl, ((((((T10.out.below B11.out).below B12.out).below B13.out).below B14.out).below B15.out).below BA)⟩
  | 12, hi => cases hi; exact ⟨_, hc 12 (.func (.func 120) #[] c8) rfl, ((((((((T8.out.below B9.out).below B10.out).below B11.out).below B12.out).below B13.out).below B14.out).below B15.out).below BA)⟩
  | 13, hi => cases hi; exact ⟨_, hc 13 (.func (.func 121) #[] c15) rfl, (T15.out.below BA)⟩
  | i + 14, hi => exfalso; simp [tks, tkF, tkL, tkP] at hi

end Bs
end Go.Proofs.YtjngpafokkjkdaaGreatDoor

/-
  The functions that take a form's pieces, in their order: form 2.
-/
set_option linter.unusedVariables false
set_option linter.unusedSimpArgs false
namespace Go.Proofs.YtjngpafokkjkdaaGreatDoor
open Go.RowKit
namespace Bs

set_option maxRecDepth 100000 in
set_option maxHeartbeats 8000000 in
theorem takers_2 (P : Nat) (w : World) (hP : P < w.heap.size) :
    Calls Tryz.prog 90 #[.int .i64 2, pp P 0] w fun e w' => ∃ v, e = .returned v ∧ Tks w' P (tks 2) v ∧ Below w.heap.size w w' := by
  have HX : Hid (∀ (t : List UInt8) w, P < w.heap.size → Calls Tryz.prog 111 #[.string (str t)] w fun e w' => ∃ v, e = .returned v ∧ Tk w' P (.ex t) v ∧ Below w.heap.size w w') := fun t w h => exactly_any t P w h
  have HD : Hid (∀ (n f : Nat) w, P < w.heap.size → Calls Tryz.prog 110 #[.int .i64 (n : Int), pp P (2 * f)] w fun e w' => ∃ v, e = .returned v ∧ Tk w' P (.dg n f) v ∧ Below w.heap.size w w') := fun n f w h => digits_any n f P w h
  have HN : Hid (∀ (k f : Nat) w, P < w.heap.size → Calls Tryz.prog 106 #[.int .i64 ((nms k).length : Int), .func (.func (fnm k)) #[] #[], pp P (2 * f)] w fun e w' => ∃ v, e = .returned v ∧ Tk w' P (.nm k f) v ∧ Below w.heap.size w w') := fun k f w h => name_any k f P w h
  unfold pp at *
  go_enter Tryz.func90, Tryz.ntmps90
  have hz0 : P < w.heap.size := hP
  go_wp2_with fail
  (refine (HN.out 0 0 w hz0).mono ?_; rintro e w1 ⟨v1, rfl, t1, b1⟩; obtain ⟨c1, rfl⟩ := t1.fn; have hz1 : P < w1.heap.size := Nat.lt_of_lt_of_le hz0 b1.size; have T1 : Hid (Tk w1 P (.nm 0 0) (.func (.func 119) #[] c1)) := t1; have B1 : Hid (Below w.heap.size w w1) := b1; clear t1 b1)
  go_wp2_with fail
  (refine (HN.out 1 0 w1 hz1).mono ?_; rintro e w2 ⟨v2, rfl, t2, b2⟩; obtain ⟨c2, rfl⟩ := t2.fn; have hz2 : P < w2.heap.size := Nat.lt_of_lt_of_le hz1 b2.size; have T2 : Hid (Tk w2 P (.nm 1 0) (.func (.func 119) #[] c2)) := t2; have B2 : Hid (Below w1.heap.size w1 w2) := b2; clear t2 b2)
  go_wp2_with fail
  (refine (HN.out 2 2 w2 hz2).mono ?_; rintro e w3 ⟨v3, rfl, t3, b3⟩; obtain ⟨c3, rfl⟩ := t3.fn; have hz3 : P < w3.heap.size := Nat.lt_of_lt_of_le hz2 b3.size; have T3 : Hid (Tk w3 P (.nm 2 2) (.func (.func 119) #[] c3)) := t3; have B3 : Hid (Below w2.heap.size w2 w3) := b3; clear t3 b3)
  have hz3d : P < w3.drew.heap.size := hz3
  go_wp2_with fail
  go_region_with (first | (go_at_call 110; refine (HD.out 2 1 w3.drew hz3d).mono ?_; rintro e w4 ⟨v4, rfl, t4, b4⟩; obtain ⟨c4, rfl⟩ := t4.fn; have hz4 : P < w4.heap.size := Nat.lt_of_lt_of_le hz3d b4.size; have T4 : Hid (Tk w4 P (.dg 2 1) (.func (.func 120) #[] c4)) := t4; have B4 : Hid (Below w3.heap.size w3 w4) := bel_trans (But.refl [] w3).drew.to_below b4; clear t4 b4) | (go_at_call 110; refine (HD.out 4 3 w4 hz4).mono ?_; rintro e w5 ⟨v5, rfl, t5, b5⟩; obtain ⟨c5, rfl⟩ := t5.fn; have hz5 : P < w5.heap.size := Nat.lt_of_lt_of_le hz4 b5.size; have T5 : Hid (Tk w5 P (.dg 4 3) (.func (.func 120) #[] c5)) := t5; have B5 : Hid (Below w4.heap.size w4 w5) := b5; clear t5 b5))
  have hz5d : P < w5.drew.heap.size := hz5
  go_wp2_with fail
  go_region_with (first | (go_at_call 110; refine (HD.out 2 4 w5.drew hz5d).mono ?_; rintro e w6 ⟨v6, rfl, t6, b6⟩; obtain ⟨c6, rfl⟩ := t6.fn; have hz6 : P < w6.heap.size := Nat.lt_of_lt_of_le hz5d b6.size; have T6 : Hid (Tk w6 P (.dg 2 4) (.func (.func 120) #[] c6)) := t6; have B6 : Hid (Below w5.heap.size w5 w6) := bel_trans (But.refl [] w5).drew.to_below b6; clear t6 b6) | (go_at_call 110; refine (HD.out 2 5 w6 hz6).mono ?_; rintro e w7 ⟨v7, rfl, t7, b7⟩; obtain ⟨c7, rfl⟩ := t7.fn; have hz7 : P < w7.heap.size := Nat.lt_of_lt_of_le hz6 b7.size; have T7 : Hid (Tk w7 P (.dg 2 5) (.func (.func 120) #[] c7)) := t7; have B7 : Hid (Below w6.heap.size w6 w7) := b7; clear t7 b7) | (go_at_call 110; refine (HD.out 2 6 w7 hz7).mono ?_; rintro e w8 ⟨v8, rfl, t8, b8⟩; obtain ⟨c8, rfl⟩ := t8.fn; have hz8 : P < w8.heap.size := Nat.lt_of_lt_of_le hz7 b8.size; have T8 : Hid (Tk w8 P (.dg 2 6) (.func (.func 120) #[] c8)) := t8; have B8 : Hid (Below w7.heap.size w7 w8) := b8; clear t8 b8))
  go_wp2_with fail
  (refine (HX.out [32] w8 hz8).mono ?_; rintro e w9 ⟨v9, rfl, t9, b9⟩; obtain ⟨c9, rfl⟩ := t9.fn; have hz9 : P < w9.heap.size := Nat.lt_of_lt_of_le hz8 b9.size; have T9 : Hid (Tk w9 P (.ex [32]) (.func (.func 121) #[] c9)) := t9; have B9 : Hid (Below w8.heap.size w8 w9) := b9; clear t9 b9)
  go_wp2_with fail
  (refine (HX.out [58] w9 hz9).mono ?_; rintro e w10 ⟨v10, rfl, t10, b10⟩; obtain ⟨c10, rfl⟩ := t10.fn; have hz10 : P < w10.heap.size := Nat.lt_of_lt_of_le hz9 b10.size; have T10 : Hid (Tk w10 P (.ex [58]) (.func (.func 121) #[] c10)) := t10; have B10 : Hid (Below w9.heap.size w9 w10) := b10; clear t10 b10)
  go_wp2_with fail
  have h4 : Tk w10 P (.dg 2 1) (.func (.func 120) #[] c4) := ((((((T4.out.below B5.out).below B6.out).below B7.out).below B8.out).below B9.out).below B10.out)
  (refine (loose_any 1 P (.func (.func 120) #[] c4) w10 hz10 h4).mono ?_; rintro e w11 ⟨v11, rfl, t11, b11⟩; obtain ⟨c11, rfl⟩ := t11.fn; have hz11 : P < w11.heap.size := Nat.lt_of_lt_of_le hz10 b11.size; have T11 : Hid (Tk w11 P (.lo 1) (.func (.func 122) #[] c11)) := t11; have B11 : Hid (Below w10.heap.size w10 w11) := b11; clear t11 b11 h4)
  go_wp2
  go_ret
  have BA : Below w11.heap.size w11 (w11.alloc (.cells #[.func (.func 119) #[] c1, .func (.func 121) #[] c9, .func (.func 119) #[] c3, .func (.func 121) #[] c9, .func (.func 122) #[] c11, .func (.func 121) #[] c9, .func (.func 120) #[] c6, .func (.func 121) #[] c10, .func (.func 120) #[] c7, .func (.func 121) #[] c10, .func (.func 120) #[] c8, .func (.func 121) #[] c9, .func (.func 120) #[] c5] 138)) := ((But.refl [] w11).alloc _).to_below
  refine ⟨_, rfl, ⟨w11.heap.size, rfl, by omega, fun i t hi => ?_⟩, bel_trans (bel_trans (bel_trans (bel_trans (bel_trans (bel_trans (bel_trans (bel_trans (bel_trans (bel_trans (bel_trans B1.out B2.out) B3.out) B4.out) B5.out) B6.out) B7.out) B8.out) B9.out) B10.out) B11.out) BA⟩
  have hc : ∀ (j : Nat) (u : Value), ([.func (.func 119) #[] c1, .func (.func 121) #[] c9, .func (.func 119) #[] c3, .func (.func 121) #[] c9, .func (.func 122) #[] c11, .func (.func 121) #[] c9, .func (.func 120) #[] c6, .func (.func 121) #[] c10, .func (.func 120) #[] c7, .func (.func 121) #[] c10, .func (.func 120) #[] c8, .func (.func 121) #[] c9, .func (.func 120) #[] c5] : List Value)[j]? = some u → (w11.alloc (.cells #[.func (.func 119) #[] c1, .func (.func 121) #[] c9, .func (.func 119) #[] c3, .func (.func 121) #[] c9, .func (.func 122) #[] c11, .func (.func 121) #[] c9, .func (.func 120) #[] c6, .func (.func 121) #[] c10, .func (.func 120) #[] c7, .func (.func 121) #[] c10, .func (.func 120) #[] c8, .func (.func 121) #[] c9, .func (.func 120) #[] c5] 138)).cell? ⟨w11.heap.size, j, none⟩ = some u := fun j u hu => by simpa using hu
  match i, hi with
  | 0, hi => cases hi; exact ⟨_, hc 0 (.func (.func 119) #[] c1) rfl, (((((((((((T1.out.below B2.out).below B3.out).below B4.out).below B5.out).below B6.out).below B7.out).below B8.out).below B9.out).below B10.out).below B11.out).below BA)⟩
  | 1, hi => cases hi; exact ⟨_, hc 1 (.func (.func 121) #[] c9) rfl, (((T9.out.below B10.out).below B11.out).below BA)⟩
  | 2, hi => cases hi; exact ⟨_, hc 2 (.func (.func 119) #[] c3) rfl, (((((((((T3.out.below B4.out).below B5.out).below B6.out).below B7.out).below B8.out).below B9.out).below B10.out).below B11.out).below BA)⟩
  | 3, hi => cases hi; exact ⟨_, hc 3 (.func (.func 121) #[] c9) rfl, (((T9.out.below B10.out).below B11.out).below BA)⟩
  | 4, hi => cases hi; exact ⟨_, hc 4 (.func (.func 122) #[] c11) rfl, (T11.out.below BA)⟩
  | 5, hi => cases hi; exact ⟨_, hc 5 (.func (.func 121) #[] c9) rfl, (((T9.out.below B10.out).below B11.out).below BA)⟩
  | 6, hi => cases hi; exact ⟨_, hc 6 (.func (.func 120) #[] c6) rfl, ((((((T6.out.below B7.out).below B8.out).below B9.out).below B10.out).below B11.out).below BA)⟩
  | 7, hi => cases hi; exact ⟨_, hc 7 (.func (.func 121) #[] c10) rfl, ((T10.out.below B11.out).below BA)⟩
  | 8, hi => cases hi; exact ⟨_, hc 8 (.func (.func 120) #[] c7) rfl, (((((T7.out.below B8.out).below B9.out).below B10.out).below B11.out).below BA)⟩
  | 9, hi => cases hi; exact ⟨_, hc 9 (.func (.func 121) #[] c10) rfl, ((T10.out.below B11.out).below BA)⟩
  | 10, hi => cases hi; exact ⟨_, hc 10 (.func (.func 120) #[] c8) rfl, ((((T8.out.below B9.out).below B10.out).below B11.out).below BA)⟩
  | 11, hi => cases hi; exact ⟨_, hc 11 (.func (.func 121) #[] c9) rfl, (((T9.out.below B10.out).below B11.out).below BA)⟩
  | 12, hi => cases hi; exact ⟨_, hc 12 (.func (.func 120) #[] c5) rfl, (((((((T5.out.below B6.out).below B7.out).below B8.out).below B9.out).below B10.out).below B11.out).below BA)⟩
  | i + 13, hi => exfalso; simp [tks, tkF, tkL, tkP] at hi

end Bs
end Go.Proofs.YtjngpafokkjkdaaGreatDoor
