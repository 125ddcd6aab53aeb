/-
  The walk of StampWrites.
-/
import Derived.Test.YtpfkajalkakbgaaDoorWAwk
import Derived.Test.YtpfkajalkakbgaaDoorRWr
set_option linter.unusedVariables false
set_option linter.unusedSimpArgs false
namespace Go.Proofs.YtpfkajalkakbgaaDoor
open Go.RowKit
namespace Bs

set_option maxRecDepth 100000 in
set_option maxHeartbeats 2000000 in
theorem rWrite_any (t form : Int) (ht : I64 t) (hf : I64 form) (w : World) :
    Calls Tryd.prog 22 #[.int .i64 t, .int .i64 form] w fun e w' => e = .returned (.tuple #[.string (str (writeR t form).1), .int .i64 (writeR t form).2]) ∧ Below w.heap.size w w' := by
  have hsp := rSplit_any t ht w
  by_cases hM : isM t
  · by_cases hF : 0 ≤ form ∧ form < 3
    · exact rWrite_ok t form ht hM (by omega) w
    · rw [show splitR t = (splitV t, 0) from if_pos hM] at hsp
      have HSP : Hid (Calls Tryd.prog 17 #[.int .i64 t] w fun e w' => e = .returned (.tuple #[splitV t, .int .i64 0]) ∧ Below w.heap.size w w') := hsp
      clear hsp
      unfold splitV dv7 at HSP
      have HWR2 : Hid (writeR t form = ([], 44)) := (by unfold writeR; rw [if_neg (fun c => c hM), if_pos hF] : writeR t form = ([], 44))
      generalize (ymd (t / 86400)).1 = Y at *
      generalize (ymd (t / 86400)).2.1 = M at *
      generalize (ymd (t / 86400)).2.2 = Dd at *
      generalize t % 86400 / 3600 = H at *
      generalize t % 86400 % 3600 / 60 = I at *
      generalize t % 86400 % 60 = S at *
      generalize wday (t / 86400) = K at *
      rcases (by omega : form < 0 ∨ (¬ form < 0 ∧ 2 < form)) with h1 | ⟨h1, h2⟩
      all_goals
        go_enter Tryd.func22, Tryd.ntmps22
        go_wp2_with fail
        refine Calls.mono HSP.out ?_
        rintro e w1 ⟨rfl, b1⟩
        have HB1 : Hid (Below w.heap.size w w1) := b1
        clear b1
        go_wp2
        go_ret2
        exact ⟨ret_si' (by rw [HWR2.out]; rfl) (by rw [HWR2.out]), bel_trans HB1.out ((But.refl [] w1).alloc _).to_below⟩
  · rw [show splitR t = (dv7 0 0 0 0 0 0 0, 40) from if_neg hM] at hsp
    have HSP : Hid (Calls Tryd.prog 17 #[.int .i64 t] w fun e w' => e = .returned (.tuple #[dv7 0 0 0 0 0 0 0, .int .i64 40]) ∧ Below w.heap.size w w') := hsp
    clear hsp
    unfold dv7 at HSP
    have HWR : Hid (writeR t form = ([], 40)) := if_pos hM
    go_enter Tryd.func22, Tryd.ntmps22
    go_wp2_with fail
    refine Calls.mono HSP.out ?_
    rintro e w1 ⟨rfl, b1⟩
    have HB1 : Hid (Below w.heap.size w w1) := b1
    clear b1
    go_wp2
    go_ret2
    exact ⟨ret_si' (by rw [HWR.out]; rfl) (by rw [HWR.out]), bel_trans HB1.out ((But.refl [] w1).alloc _).to_below⟩

set_option maxRecDepth 100000 in
set_option maxHeartbeats 2000000 in
theorem walk_StampWrites (t form : Int) (w : World) (tb : Tb w) (ht : I64 t) (hf : I64 form) :
    Calls Tryd.prog 6 #[.int .i64 t, .int .i64 form] w fun e w' => e = .returned (.bool true) ∧ Below w.heap.size w w' := by
  have HA : Hid (Calls Tryd.prog 9 #[] w fun e w' => e = .returned (.bool true) ∧ Below w.heap.size w w') := awake_any w tb
  have HT : Hid (Tb w) := tb
  clear tb
  have H1 : Hid (∀ w, Tb w → Calls Tryd.prog 21 #[.int .i64 t, .int .i64 form] w fun e w' => e = .returned (.tuple #[.string (str (writeR t form).1), .int .i64 (writeR t form).2]) ∧ Below w.heap.size w w') := fun w tb => Write_any t form ht hf w tb
  have H2 : Hid (∀ w, Calls Tryd.prog 22 #[.int .i64 t, .int .i64 form] w fun e w' => e = .returned (.tuple #[.string (str (writeR t form).1), .int .i64 (writeR t form).2]) ∧ Below w.heap.size w w') := fun w => rWrite_any t form ht hf w
  have H3 : Hid (∀ w, Tb w → Calls Tryd.prog 23 #[.int .i64 t] w fun e w' => e = .returned (.tuple #[.string (str (writeR t 0).1), .int .i64 (writeR t 0).2]) ∧ Below w.heap.size w w') := fun w tb => Print_any t ht w tb
  have H4 : Hid (∀ w, Calls Tryd.prog 22 #[.int .i64 t, .int .i64 0] w fun e w' => e = .returned (.tuple #[.string (str (writeR t 0).1), .int .i64 (writeR t 0).2]) ∧ Below w.heap.size w w') := fun w => rWrite_any t 0 ht ⟨by omega, by omega⟩ w
  generalize (writeR t 0).2 = E0 at *
  generalize str (writeR t 0).1 = S0 at *
  generalize (writeR t form).2 = E at *
  generalize str (writeR t form).1 = S at *
  have q1 : (S.toList != S.toList) = false := by simp
  have q2 : (S0.toList == S0.toList) = true := by simp
  go_enter Tryd.func6, Tryd.ntmps6
  go_wp2_with fail
  refine Calls.mono HA.out ?_
  rintro e w1 ⟨rfl, b1⟩
  have HB1 : Hid (Below w.heap.size w w1) := b1
  have HT1 : Hid (Tb w1) := HT.out.bel b1
  clear b1
  go_wp2_with fail
  refine (H1.out _ HT1.out).mono ?_
  rintro e w2 ⟨rfl, b2⟩
  have HB2 : Hid (Below w.heap.size w w2) := bel_trans HB1.out b2
  have HT2 : Hid (Tb w2) := HT1.out.bel b2
  clear b2
  go_wp2_with fail
  refine (H2.out _).mono ?_
  rintro e w3 ⟨rfl, b3⟩
  have HB3 : Hid (Below w.heap.size w w3) := bel_trans HB2.out b3
  have HT3 : Hid (Tb w3) := HT2.out.bel b3
  clear b3
  go_wp2_with fail
  refine (H3.out _ HT3.out).mono ?_
  rintro e w4 ⟨rfl, b4⟩
  have HB4 : Hid (Below w.heap.size w w4) := bel_trans HB3.out b4
  clear b4
  go_wp2_with fail
  refine (H4.out _).mono ?_
  rintro e w5 ⟨rfl, b5⟩
  have HB5 : Hid (Below w.heap.size w w5) := bel_trans HB4.out b5
  clear b5
  go_wp2
  go_ret
  exact ⟨rfl, HB5.out⟩

end Bs
end Go.Proofs.YtpfkajalkakbgaaDoor
