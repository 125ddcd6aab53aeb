/-
  FieldLines.
-/
import Derived.Test.YtojahhmdfbfnfaaDoorFRl
set_option linter.unusedVariables false
set_option linter.unusedSimpArgs false
namespace Go.Proofs.YtojahhmdfbfnfaaDoor
open Go.RowKit Go.Shelf
namespace Fd
open Oc Tg

set_option maxRecDepth 100000 in
set_option maxHeartbeats 2000000 in
theorem walk_FieldLines (s : ByteArray) (hs : s.size ≤ 1048576) (w : World) (hw : Env w) :
    Calls Tryd.prog 4 #[.string s] w fun e w' => e = .returned (.bool true) ∧ Below w.heap.size w w' := by
  have HA : Hid (Calls _ _ _ _ _) := awake_any w hw
  have H1 : Hid (∀ w, Env w → Calls Tryd.prog 16 #[.string s] w fun e w' => e = .returned (.tuple #[.agg #[.string (str (parseL s.data.toList).1.1), .string (str (parseL s.data.toList).1.2)], .int .i64 ((parseL s.data.toList).2.1 : Nat), .int .i64 (parseL s.data.toList).2.2]) ∧ Below w.heap.size w w') := fun w h => ParseLine_any s (by omega) w h
  have H2 : Hid (∀ w, Calls Tryd.prog 17 #[.string s] w fun e w' => e = .returned (.tuple #[.agg #[.string (str (parseL s.data.toList).1.1), .string (str (parseL s.data.toList).1.2)], .int .i64 ((parseL s.data.toList).2.1 : Nat), .int .i64 (parseL s.data.toList).2.2]) ∧ Below w.heap.size w w') := fun w => rParseLine_any s (by omega) w
  have HE : Hid (Env w) := hw
  clear hw hs
  generalize str (parseL s.data.toList).1.1 = n at *
  generalize str (parseL s.data.toList).1.2 = v at *
  generalize (((parseL s.data.toList).2.1 : Nat) : Int) = k at *
  generalize (parseL s.data.toList).2.2 = z at *
  have e1 : (n.toList == n.toList) = true := by simp
  have e2 : (v.toList == v.toList) = true := by simp
  have e3 : (k == k) = true := by simp
  have e4 : (z == z) = true := by simp
  go_enter Tryd.func4, Tryd.ntmps4
  go_wp2_with fail
  refine HA.out.mono ?_
  rintro e w1 ⟨rfl, hb⟩
  have HB1 : Hid (Below w.heap.size w w1) := hb
  clear hb
  go_wp2_with fail
  refine (H1.out _ (HE.out.below HB1.out)).mono ?_
  rintro e w2 ⟨rfl, hb⟩
  have HB2 : Hid (Below w.heap.size w w2) := bel_trans HB1.out hb
  clear hb
  obtain ⟨W, hW⟩ : ∃ W, W = w2.alloc (.cells #[.string n, .string v] 26) := ⟨_, rfl⟩
  have hz : W.heap.size = w2.heap.size + 1 := by rw [hW]; simp
  have R1 : W.heap[w2.heap.size]? = some (.cells #[.string n, .string v] 26 (0, 0)) := by rw [hW]; exact heap_alloc_new w2 _
  have HR1 : Hid (_) := R1
  have HBW : Hid (Below w.heap.size w W) := by rw [hW]; exact HB2.out.alloc HB2.out.size _
  clear R1
  go_wp2_with fail
  rw [← hW]
  clear hW
  refine (H2.out _).mono ?_
  rintro e w3 ⟨rfl, hb⟩
  have R1 := (hb.block _ (show w2.heap.size < _ by omega)).trans HR1.out
  have c0 := Lib.cell_of_heap R1 0
  have c1 := Lib.cell_of_heap R1 1
  simp at c0 c1
  have HB3 : Hid (Below w.heap.size w w3) := bel_trans HBW.out hb
  have hlt : w2.heap.size < w3.heap.size := Nat.lt_of_lt_of_le (by omega) hb.size
  have hne : (w3.heap.size = w2.heap.size) = False := by simp; omega
  clear R1 hb
  have d0 : (w3.alloc (.cells #[.string n, .string v] 30)).cell? ⟨w2.heap.size, 0, none⟩ = some (.string n) := by
    rw [((Below.refl w3.heap.size w3).alloc (Nat.le_refl _) _).cell hlt]; exact c0
  have d1 : (w3.alloc (.cells #[.string n, .string v] 30)).cell? ⟨w2.heap.size, 1, none⟩ = some (.string v) := by
    rw [((Below.refl w3.heap.size w3).alloc (Nat.le_refl _) _).cell hlt]; exact c1
  go_wp2
  go_ret
  exact ⟨rfl, HB3.out.alloc HB3.out.size _⟩

end Fd
end Go.Proofs.YtojahhmdfbfnfaaDoor
