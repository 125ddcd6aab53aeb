/-
  FieldTexts.
-/
import Derived.Test.YtojahhmdfbfnfaaDoorFRp
set_option linter.unusedVariables false
set_option linter.unusedSimpArgs false
namespace Go.Proofs.YtojahhmdfbfnfaaDoor
open Go.RowKit Go.Shelf
namespace Fd
open Oc Tg

theorem parseT_few : ∀ (f : Nat) (l : List UInt8) (a : Nat) (acc : List Fl), acc.length ≤ 100 → (parseT f l a acc).1.length ≤ 100
  | 0, l, a, acc, h => by simp [parseT]
  | f + 1, l, a, acc, h => by
    rw [parseT_succ]
    split
    · exact h
    · split
      · simp
      · split
        · simp
        · split
          · exact parseT_few f _ _ _ (by simp; omega)
          · simp

set_option maxRecDepth 100000 in
set_option maxHeartbeats 2000000 in
theorem walk_FieldTexts (s : ByteArray) (hs : s.size ≤ 1048576) (w : World) (hw : Env w) :
    Calls Tryd.prog 6 #[.string s] w fun e w' => e = .returned (.bool true) ∧ Below w.heap.size w w' := by
  have HA : Hid (Calls _ _ _ _ _) := awake_any w hw
  have H1 : Hid (∀ w, Env w → Calls Tryd.prog 25 #[.string s] w fun e w' => ∃ v, e = .returned (.tuple #[v, .int .i64 ((parseText s.data.toList).2.1 : Nat), .int .i64 (parseText s.data.toList).2.2]) ∧ OwnF 26 w.heap.size v (parseText s.data.toList).1 w' ∧ Below w.heap.size w w') := fun w h => Parse_any s (by omega) w h
  have H2 : Hid (∀ w, Calls Tryd.prog 26 #[.string s] w fun e w' => ∃ v, e = .returned (.tuple #[v, .int .i64 ((parseText s.data.toList).2.1 : Nat), .int .i64 (parseText s.data.toList).2.2]) ∧ OwnF 30 w.heap.size v (parseText s.data.toList).1 w' ∧ Below w.heap.size w w') := fun w => rParse_any s (by omega) w
  have HE : Hid (Env w) := hw
  have hfew : (parseText s.data.toList).1.length ≤ 100 := parseT_few _ _ _ _ (by simp)
  clear hw hs
  generalize (parseText s.data.toList).1 = t at *
  generalize (((parseText s.data.toList).2.1 : Nat) : Int) = k at *
  generalize (parseText s.data.toList).2.2 = z at *
  have e3 : (k == k) = true := by simp
  have e4 : (z == z) = true := by simp
  go_enter Tryd.func6, Tryd.ntmps6
  go_wp2_with fail
  refine HA.out.mono ?_
  rintro e w1 ⟨rfl, hb⟩
  have HB1 : Hid (Below w.heap.size w w1) := hb
  clear hb
  go_wp2_with fail
  refine (H1.out _ (HE.out.below HB1.out)).mono ?_
  rintro e w2 ⟨v1, rfl, ho1, hb⟩
  have HB2 : Hid (Below w.heap.size w w2) := bel_trans HB1.out hb
  have HO1 : Hid (RdF v1 t w2) := ho1.rd
  clear hb ho1
  go_wp2_with fail
  refine (H2.out _).mono ?_
  rintro e w3 ⟨v2, rfl, ho2, hb⟩
  have HB3 : Hid (Below w.heap.size w w3) := bel_trans HB2.out hb
  have HS : Hid (Calls _ _ _ _ _) := same_any v1 v2 t w3 (HO1.out.below hb) ho2.rd (by omega)
  clear hb ho2
  go_wp2_with fail
  refine HS.out.mono ?_
  rintro e w4 ⟨rfl, hb⟩
  have HB4 : Hid (Below w.heap.size w w4) := bel_trans HB3.out hb
  clear hb
  go_wp2
  go_ret
  exact ⟨rfl, HB4.out⟩

end Fd
end Go.Proofs.YtojahhmdfbfnfaaDoor
