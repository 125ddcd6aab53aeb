/-
  span: awake; SpanParses.
-/
import Derived.Test.YtbgbidjngjdceaaDoorSnU
import Derived.Test.YtbgbidjngjdceaaDoorSnV
import Derived.Test.YtbgbidjngjdceaaDoorOpN
set_option linter.unusedVariables false
set_option linter.unusedSimpArgs false
namespace Go.Proofs.YtbgbidjngjdceaaDoor
open Go.RowKit Go.Shelf
namespace Sn
open Oc Tg Ac

set_option maxRecDepth 100000 in
set_option maxHeartbeats 1000000 in
theorem awake_any (w : World) (hw : ML w) :
    Calls Tryd.prog 11 #[] w fun e w' => e = .returned (.bool true) ∧ Below w.heap.size w w' := by
  have h := Parse_any (str [98, 121, 116, 101, 115, 61, 48, 45, 52]) (by decide +kernel) 10 (by omega) (by omega) w hw
  rw [show parR (str [98, 121, 116, 101, 115, 61, 48, 45, 52]).data.toList 10 = ([(0, 5)], 0) by decide +kernel] at h
  have HP : Hid (Calls Tryd.prog 9 #[.string ⟨#[98, 121, 116, 101, 115, 61, 48, 45, 52]⟩, .int .i64 10] w _) := h
  clear h
  have HC : Hid (∀ W, Calls Tryd.prog 21 #[.string ⟨#[104, 101, 108, 108, 111]⟩, .agg #[.int .i64 1, .int .i64 3]] W fun e w' => e = .returned (.tuple #[.string ⟨#[101, 108]⟩, .int .i64 0]) ∧ Below W.heap.size W w') := fun W => by
    have h := Cut_gr (str [104, 101, 108, 108, 111]) (by decide +kernel) 1 3 W
    rw [show cutR (str [104, 101, 108, 108, 111]).data.toList (1, 3) = ([101, 108], 0) by decide +kernel] at h
    exact h.mono fun e w' ⟨h1, h2⟩ => ⟨h1, Grew.below h2⟩
  clear hw
  have HEQ := fun y1 y2 w => eqN 0 5 y1 y2 w
  go_enter Tryd.func11, Tryd.ntmps11
  go_wp2_with fail
  refine HP.out.mono ?_
  rintro e w2 ⟨v, rfl, ho, hb2⟩
  have HB2 : Hid (Below w.heap.size w w2) := hb2
  have HR2 : Hid (RdN v [(0, 5)] w2) := ho.rd
  obtain ⟨va, vc, rfl⟩ := ho.form
  clear ho hb2
  go_wp2_with fail
  refine (HC.out _).mono ?_
  rintro e w3 ⟨rfl, hb3⟩
  have HB3 : Hid (Below w.heap.size w w3) := bel_trans HB2.out hb3
  obtain ⟨a', c', e', hcs⟩ := HR2.out.below hb3
  injection e' with e1 _ e2
  subst e1 e2
  rcases hcs with h | ⟨g, o, rfl, hlc, hcell⟩
  · cases h
  have p0 : w3.cell? ⟨g, o, none⟩ = some (.int .i64 0) := by simpa [nthN] using (hcell 0 (by decide)).1
  have p1 : w3.cell? ⟨g, o + 1, none⟩ = some (.int .i64 5) := by simpa [nthN] using (hcell 0 (by decide)).2
  clear hcell hb3 HR2
  go_wp2
  go_ret
  exact ⟨ret_bool (by simp), HB3.out⟩

theorem parR_len (l : List UInt8) (size : Int) : (parR l size).1.length ≤ l.length + 1 := by
  unfold parR
  split
  · simp
  · split
    · simp
    · unfold ansR
      split
      · split
        · simp
        · have h1 := List.length_filterMap_le (keepN size) (elR l).1
          have h2 : (elR l).1.length ≤ l.length + 1 := by
            unfold elR
            split
            · have := (listR_short (cutB 61 l)).1
              have := cutB_len 61 l
              dsimp only
              omega
            · simp
          dsimp only
          omega
      · simp

set_option maxRecDepth 100000 in
set_option maxHeartbeats 1000000 in
theorem walk_SpanParses (s : ByteArray) (hs : s.size ≤ 1048576) (size : Int) (hz : (Lit.int .i64 size).wf = true) (w : World) (hw : ML w) :
    Calls Tryd.prog 3 #[.string s, .int .i64 size] w fun e w' => e = .returned (.bool true) ∧ Below w.heap.size w w' := by
  obtain ⟨z0, z1⟩ := i64_of_wf hz
  have HA : Hid (∀ W, Below w.heap.size w W → Calls _ _ _ W _) := fun W hb => awake_any W (hw.below hb)
  have HP : Hid (Calls _ _ _ w _) := Parse_any s hs size z0 z1 w hw
  have HQ : Hid (∀ W, Calls _ _ _ W _) := fun W => rParse_any s hs size z0 z1 W
  have hpl := parR_len s.data.toList size
  rw [size_list] at hpl
  clear hw
  generalize parR s.data.toList size = PR at *
  obtain ⟨t, er⟩ := PR
  dsimp only at *
  have HS : Hid (∀ v1 v2 W, RdN v1 t W → RdN v2 t W → Calls Tryd.prog 12 #[v1, v2] W fun e w' => e = .returned (.bool true) ∧ Below W.heap.size W w') := fun v1 v2 W h1 h2 => same_any v1 v2 _ W h1 h2 (by omega)
  go_enter Tryd.func3, Tryd.ntmps3
  go_wp2_with fail
  refine HP.out.mono ?_
  rintro e w1 ⟨v1, rfl, ho1, hb1⟩
  have HB1 : Hid (Below w.heap.size w w1) := hb1
  have HR1 : Hid (RdN v1 t w1) := ho1.rd
  obtain ⟨a1, c1, rfl⟩ := ho1.form
  clear hb1 ho1
  go_wp2_with fail
  refine (HQ.out _).mono ?_
  rintro e w2 ⟨v2, rfl, ho2, hb2⟩
  have HB2 : Hid (Below w.heap.size w w2) := bel_trans HB1.out hb2
  have HR12 : Hid (RdN _ t w2) := HR1.out.below hb2
  have HR2 : Hid (RdN v2 t w2) := ho2.rd
  obtain ⟨a2, c2, rfl⟩ := ho2.form
  clear hb2 ho2
  go_wp2_with fail
  refine (HA.out _ HB2.out).mono ?_
  rintro e w3 ⟨rfl, hb3⟩
  have HB3 : Hid (Below w.heap.size w w3) := bel_trans HB2.out hb3
  have HR13 : Hid (RdN _ t w3) := HR12.out.below hb3
  have HR23 : Hid (RdN _ t w3) := HR2.out.below hb3
  clear hb3
  go_wp2_with fail
  refine (HS.out _ _ _ HR13.out HR23.out).mono ?_
  rintro e w4 ⟨rfl, hb4⟩
  have HB4 : Hid (Below w.heap.size w w4) := bel_trans HB3.out hb4
  clear hb4
  go_wp2
  go_ret
  exact ⟨ret_bool (by simp), HB4.out⟩

end Sn
end Go.Proofs.YtbgbidjngjdceaaDoor
