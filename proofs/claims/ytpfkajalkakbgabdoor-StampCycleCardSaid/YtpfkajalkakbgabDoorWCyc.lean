/-
  The walk of StampCycle.
-/
import Derived.Test.YtpfkajalkakbgabDoorWAwk
set_option linter.unusedVariables false
set_option linter.unusedSimpArgs false
namespace Go.Proofs.YtpfkajalkakbgabDoor
open Go.RowKit
namespace Bs

set_option maxRecDepth 100000 in
set_option maxHeartbeats 4000000 in
theorem walk_StampCycle (t : Int) (w : World) (tb : Tb w) (ht : I64 t) :
    Calls Tryd.prog 4 #[.int .i64 t] w fun e w' => e = .returned (.bool true) ∧ Below w.heap.size w w' := by
  have HA : Hid (Calls Tryd.prog 7 #[] w fun e w' => e = .returned (.bool true) ∧ Below w.heap.size w w') := awake_any w tb
  have HT : Hid (Tb w) := tb
  clear tb
  by_cases hM : -62135596800 ≤ t ∧ t ≤ 240779519999
  · obtain ⟨h1, h2⟩ := hM
    have H1 : Hid (∀ w, Tb w → Calls Tryd.prog 10 #[.int .i64 t] w fun e w' => e = .returned (.tuple #[splitV t, .int .i64 0]) ∧ Below w.heap.size w w') := fun w tb => by
      have := Split_any t ht w tb
      rw [show splitR t = (splitV t, 0) from if_pos (by unfold isM; omega)] at this
      exact this
    have H2 : Hid (∀ w, Tb w → Calls Tryd.prog 10 #[.int .i64 (t + 12622780800)] w fun e w' => e = .returned (.tuple #[splitV (t + 12622780800), .int .i64 0]) ∧ Below w.heap.size w w') := fun w tb => by
      have := Split_any (t + 12622780800) ⟨by omega, by omega⟩ w tb
      rw [show splitR (t + 12622780800) = (splitV (t + 12622780800), 0) from if_pos (by unfold isM; omega)] at this
      exact this
    have hy : 1 ≤ (ymd (t / 86400)).1 ∧ (ymd (t / 86400)).1 ≤ 9999 := by
      obtain ⟨y1, y2, _⟩ := (ymd_is (D := t / 86400) (by omega) (by omega)).1
      exact ⟨y1, y2⟩
    have e1 : (t + 12622780800) / 86400 = t / 86400 + 146097 := by omega
    have e2 : (t + 12622780800) % 86400 = t % 86400 := by omega
    unfold splitV dv7 at H1 H2
    rw [e1, e2, ymd_400 (by omega) (by omega), wday_400] at H2
    clear e1 e2
    generalize (ymd (t / 86400)).1 = Yt at *
    generalize (ymd (t / 86400)).2.1 = a1 at *
    generalize (ymd (t / 86400)).2.2 = a2 at *
    generalize t % 86400 / 3600 = a3 at *
    generalize t % 86400 % 3600 / 60 = a4 at *
    generalize t % 86400 % 60 = a5 at *
    generalize wday (t / 86400) = a6 at *
    go_enter Tryd.func4, Tryd.ntmps4
    go_wp2_with fail
    refine Calls.mono HA.out ?_
    rintro e w1 ⟨rfl, b1⟩
    have HB1 : Hid (Below w.heap.size w w1) := b1
    have HT1 : Hid (Tb w1) := HT.out.bel b1
    clear b1
    go_wp2_with fail
    refine (H1.out _ HT1.out).mono ?_
    rintro e w2 ⟨rfl, b2⟩
    have HB2 : Hid (Below w.heap.size w (w2.alloc (.cells #[.int .i64 Yt, .int .i64 a1, .int .i64 a2, .int .i64 a3, .int .i64 a4, .int .i64 a5, .int .i64 a6] 28))) := bel_trans (bel_trans HB1.out b2) ((But.refl [] w2).alloc _).to_below
    have HT2 : Hid (Tb (w2.alloc (.cells #[.int .i64 Yt, .int .i64 a1, .int .i64 a2, .int .i64 a3, .int .i64 a4, .int .i64 a5, .int .i64 a6] 28))) := (HT1.out.bel b2).alloc _
    have hsz := HB2.out.size
    clear b2
    go_wp2_with fail
    refine (H2.out _ HT2.out).mono ?_
    rintro e w3 ⟨rfl, b3⟩
    have HB3 : Hid (Below w.heap.size w w3) := bel_trans HB2.out b3
    have nn : ∀ x : Nat, x ∉ ([] : List Nat) := fun _ e => by cases e
    have hlt : w2.heap.size < w3.heap.size := by
      have := b3.size
      simp at this
      omega
    have c0 := (But.of_below b3).cell (p := ⟨w2.heap.size, 0, none⟩) (v := .int .i64 Yt) (by simp) (nn _)
    have c1 := (But.of_below b3).cell (p := ⟨w2.heap.size, 1, none⟩) (v := .int .i64 a1) (by simp) (nn _)
    have c2 := (But.of_below b3).cell (p := ⟨w2.heap.size, 2, none⟩) (v := .int .i64 a2) (by simp) (nn _)
    have c3 := (But.of_below b3).cell (p := ⟨w2.heap.size, 3, none⟩) (v := .int .i64 a3) (by simp) (nn _)
    have c4 := (But.of_below b3).cell (p := ⟨w2.heap.size, 4, none⟩) (v := .int .i64 a4) (by simp) (nn _)
    have c5 := (But.of_below b3).cell (p := ⟨w2.heap.size, 5, none⟩) (v := .int .i64 a5) (by simp) (nn _)
    have c6 := (But.of_below b3).cell (p := ⟨w2.heap.size, 6, none⟩) (v := .int .i64 a6) (by simp) (nn _)
    clear b3
    generalize w2.heap.size = P2 at *
    have hne : ¬ w3.heap.size = P2 := by omega
    have hne2 : ¬ P2 = w3.heap.size := by omega
    have hne3 : (P2 == w3.heap.size) = false := by simp; omega
    go_wp2
    go_ret
    refine ⟨?_, ?_⟩
    · rfl
    · refine HB3.out.trans (But.below (bs := [w3.heap.size]) (B := w.heap.size) ?_ HB3.out.size (fun x e => ?_))
      · first | exact ((But.refl [w3.heap.size] w3).alloc _).setCell (by simp) _ | exact (But.refl [w3.heap.size] w3).alloc _
      · simp at e
        subst e
        exact HB3.out.size
  · rcases (by omega : t < -62135596800 ∨ (¬ t < -62135596800 ∧ 240779519999 < t)) with h1 | ⟨h1, h2⟩
    all_goals
      go_enter Tryd.func4, Tryd.ntmps4
      go_wp2_with fail
      refine Calls.mono HA.out ?_
      rintro e w1 ⟨rfl, b1⟩
      have HB1 : Hid (Below w.heap.size w w1) := b1
      clear b1
      go_wp2
      go_ret
      exact ⟨rfl, HB1.out⟩

end Bs
end Go.Proofs.YtpfkajalkakbgabDoor
