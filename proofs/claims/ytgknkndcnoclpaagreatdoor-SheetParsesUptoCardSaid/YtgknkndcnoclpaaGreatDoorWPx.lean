/-
  The law SheetParses, walked.
-/
import Derived.Test.YtgknkndcnoclpaaGreatDoorSrX
import Derived.Test.YtgknkndcnoclpaaGreatDoorSrY
set_option linter.unusedVariables false
set_option linter.unusedSimpArgs false
namespace Go.Proofs.YtgknkndcnoclpaaGreatDoor
open Go.RowKit Go.Shelf
namespace Sr
open Oc Tg Mf

theorem prsP_len (l mk : List UInt8) (most : Nat) : ∀ (f : Nat) (ps : List Pt.P5) (a : Nat), (prsP l mk most f ps a).1.length ≤ ps.length + f
  | 0, ps, a => by simp [prsP]
  | f + 1, ps, a => by
    rw [prsP]
    split
    · simp
    · split
      · simp
      · split
        · simp
        · split
          · simp
          · have := prsP_len l mk most f (ps ++ [(prtP l mk (tkP l a mk.length (decide (0 < ps.length))).2.2).1]) (prtP l mk (tkP l a mk.length (decide (0 < ps.length))).2.2).2.2
            rw [List.length_append] at this
            simp at this
            omega
theorem parR_len (b s : List UInt8) (most : Int) : (parR b s most).1.length ≤ s.length + 1 := by
  unfold parR
  split
  · simp
  · split
    · simp
    · dsimp only
      unfold allP
      split
      · simp
      · have := prsP_len s ([45, 45] ++ b) most.toNat (s.length + 1) [] (preP s ([45, 45] ++ b)).2
        simp at this
        simpa using this

set_option maxRecDepth 100000 in
set_option maxHeartbeats 1000000 in
theorem walk_SheetParses (b s : ByteArray) (most : Int) (hb : b.size ≤ 1048576) (hs : s.size ≤ 1048576) (hm : most < 9223372036854775808) (w : World) (ht : Tab w) (hml : ML w) (hg : Er.Gw w) :
    Calls Tryz.prog 3 #[.string b, .string s, .int .i64 most] w fun e w' => e = .returned (.bool true) ∧ Below w.heap.size w w' := by
  have HP : Hid (Calls _ _ _ w _) := Parse_any b s most hb (by omega) hm w ht hml ⟨ht, hml⟩ hg
  have HR : Hid (∀ W, Calls _ _ _ W _) := fun W => rParse_any b s most hb (by omega) hm W
  have HA : Hid (∀ W, ML W → Calls _ _ _ W _) := fun W h => awake15_any W h
  have hl := parR_len b.data.toList s.data.toList most
  rw [size_list] at hl
  have HM : Hid (ML w) := hml
  generalize parR b.data.toList s.data.toList most = R at *
  obtain ⟨ps, r1, r2⟩ := R
  unfold Ans at HR
  dsimp only at HP HR hl
  clear ht hml hg
  go_enter Tryz.func3, Tryz.ntmps3
  go_wp2_with fail
  refine HP.out.mono ?_
  rintro e w1 ⟨v1, rfl, o1, k1⟩
  have HB1 : Hid (Below w.heap.size w w1) := k1
  have HR1 : Hid (Pt.RdT v1 ps w1) := o1.rd
  clear o1 k1 HP
  go_wp2_with fail
  refine (HR.out _).mono ?_
  rintro e w2 ⟨v2, rfl, o2, k2⟩
  have HB2 : Hid (Below w.heap.size w w2) := HB1.out.trans (k2.mono HB1.out.size)
  have HR2 : Hid (Pt.RdT v1 ps w2) := HR1.out.below k2
  have HS2 : Hid (Pt.RdT v2 ps w2) := o2.rd
  clear o2 k2 HR HR1 HB1
  go_wp2_with fail
  refine (HA.out _ (HM.out.below HB2.out)).mono ?_
  rintro e w3 ⟨rfl, k3⟩
  have HB3 : Hid (Below w.heap.size w w3) := HB2.out.trans (k3.mono HB2.out.size)
  have HP3 : Hid (Calls _ _ _ w3 _) := Wr.parts15_any v1 v2 ps w3 (HR2.out.below k3) (HS2.out.below k3) (by omega)
  clear k3 HR2 HS2 HB2
  go_wp2_with fail
  refine HP3.out.mono ?_
  rintro e w4 ⟨rfl, n, hw4⟩
  have HB4 : Hid (Below w.heap.size w w4) := (by rw [hw4]; exact HB3.out.trans ⟨rfl, rfl, rfl, Nat.le_refl _, fun _ _ => rfl⟩ : Below _ _ _)
  clear hw4 HP3 HB3
  go_wp2
  go_ret
  exact ⟨rfl, HB4.out⟩

end Sr
end Go.Proofs.YtgknkndcnoclpaaGreatDoor
