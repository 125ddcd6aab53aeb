/- Several texts as one. -/
import Derived.Test.YtgknkndcnoclpaaGreatDoorMgA1
import Derived.Test.YtgknkndcnoclpaaGreatDoorMgP
import Derived.Deep.QuietTactic
import Derived.Test.YtgknkndcnoclpaaGreatDoorSrX
import Derived.Test.YtgknkndcnoclpaaGreatDoorRows
import Derived.Deep.DeepHandedRow
import Derived.Lay
import Derived.Stop.Joined
/-
  sheet: the law's parts (out of tplsht's WrA).
-/
set_option linter.unusedVariables false
set_option linter.unusedSimpArgs false
namespace Go.Proofs.YtgknkndcnoclpaaGreatDoor
open Go.RowKit Go.Shelf
namespace Wr
open Oc Tg Pt

set_option maxRecDepth 100000 in
set_option maxHeartbeats 4000000 in
theorem parts15_any (v1 v2 : Value) (t : List P5) (w : World) (h1 : RdT v1 t w) (h2 : RdT v2 t w) (hl : t.length ≤ 4294967296) :
    Calls Tryz.prog 10 #[v1, v2] w fun e w' => e = .returned (.bool true) ∧ ∃ n, w' = w.drewN n := by
  obtain ⟨a1, c1, rfl, h1⟩ := h1
  obtain ⟨a2, c2, rfl, h2⟩ := h2
  have hne : ((t.length : Int) != (t.length : Int)) = false := by simp
  go_enter Tryz.func10, Tryz.ntmps10
  go_wp2
  go_loopw [5] (fun i wr => ∃ k : Nat, k ≤ t.length ∧ i = .int .i64 k ∧ Hid (∃ n, wr = w.drewN n)) (fun i _ => t.length - (intOf i).toNat)
  case atStart => exact ⟨0, Nat.zero_le _, rfl, (⟨0, rfl⟩ : ∃ n, w = w.drewN n)⟩
  case round =>
    obtain ⟨k, hk, rfl, hw⟩ := hrel
    obtain ⟨n, rfl⟩ := hw.out
    clear hw
    by_cases hlt : k < t.length
    · rcases h1 with h | ⟨g1, o1, rfl, hc1, hcell1⟩
      · rw [h] at hlt; simp at hlt
      rcases h2 with h | ⟨g2, o2, rfl, hc2, hcell2⟩
      · rw [h] at hlt; simp at hlt
      obtain ⟨p0, p1, p2, p3, p4⟩ := hcell1 k hlt
      obtain ⟨q0, q1, q2, q3, q4⟩ := hcell2 k hlt
      clear hcell1 hcell2
      generalize str (nthT t k).n = x0 at p0 q0
      generalize str (nthT t k).f = x1 at p1 q1
      generalize str (nthT t k).m = x2 at p2 q2
      generalize str (nthT t k).b = x3 at p3 q3
      generalize (nthT t k).h = z at p4 q4
      have hz : (z != z) = false := by simp
      go_wp2_with fail
      go_quiet (fail)
      go_wp2
      go_roundw
      case rel => exact ⟨k + 1, by omega, by go_num, drawn_again w _ _⟩
      case measure => simp [intOf]; omega
    · go_wp2
      go_ret
      exact ⟨rfl, _, rfl⟩

end Wr
end Go.Proofs.YtgknkndcnoclpaaGreatDoor

/-
  The law SheetParses, walked.
-/
set_option linter.unusedVariables false
set_option linter.unusedSimpArgs false
namespace Go.Proofs.YtgknkndcnoclpaaGreatDoor
open Go.RowKit Go.Shelf
namespace Sr
open Oc Tg Mf

theorem prsP_len (l mk : List UInt8) (most : Nat) : ∀ (f : Nat) (ps : List Pt.P5) (a : Nat), (prsP l mk most f ps a).1.length ≤ ps.length + f
  | 0, ps, a => by simp [prsP]
  | f + 1, ps, a => by
    rw [prsP]
    split
    · simp
    · split
      · simp
      · split
        · simp
        · split
          · simp
          · have := prsP_len l mk most f (ps ++ [(prtP l mk (tkP l a mk.length (decide (0 < ps.length))).2.2).1]) (prtP l mk (tkP l a mk.length (decide (0 < ps.length))).2.2).2.2
            rw [List.length_append] at this
            simp at this
            omega
theorem parR_len (b s : List UInt8) (most : Int) : (parR b s most).1.length ≤ s.length + 1 := by
  unfold parR
  split
  · simp
  · split
    · simp
    · dsimp only
      unfold allP
      split
      · simp
      · have := prsP_len s ([45, 45] ++ b) most.toNat (s.length + 1) [] (preP s ([45, 45] ++ b)).2
        simp at this
        simpa using this

set_option maxRecDepth 100000 in
set_option maxHeartbeats 1000000 in
theorem walk_SheetParses (b s : ByteArray) (most : Int) (hb : b.size ≤ 1048576) (hs : s.size ≤ 1048576) (hm : most < 9223372036854775808) (w : World) (ht : Tab w) (hml : ML w) (hg : Er.Gw w) :
    Calls Tryz.prog 3 #[.string b, .string s, .int .i64 most] w fun e w' => e = .returned (.bool true) ∧ Below w.heap.size w w' := by
  have HP : Hid (Calls _ _ _ w _) := Parse_any b s most hb (by omega) hm w ht hml ⟨ht, hml⟩ hg
  have HR : Hid (∀ W, Calls _ _ _ W _) := fun W => rParse_any b s most hb (by omega) hm W
  have HA : Hid (∀ W, ML W → Calls _ _ _ W _) := fun W h => awake15_any W h
  have hl := parR_len b.data.toList s.data.toList most
  rw [size_list] at hl
  have HM : Hid (ML w) := hml
  generalize parR b.data.toList s.data.toList most = R at *
  obtain ⟨ps, r1, r2⟩ := R
  unfold Ans at HR
  dsimp only at HP HR hl
  clear ht hml hg
  go_enter Tryz.func3, Tryz.ntmps3
  go_wp2_with fail
  refine HP.out.mono ?_
  rintro e w1 ⟨v1, rfl, o1, k1⟩
  have HB1 : Hid (Below w.heap.size w w1) := k1
  have HR1 : Hid (Pt.RdT v1 ps w1) := o1.rd
  clear o1 k1 HP
  go_wp2_with fail
  refine (HR.out _).mono ?_
  rintro e w2 ⟨v2, rfl, o2, k2⟩
  have HB2 : Hid (Below w.heap.size w w2) := HB1.out.trans (k2.mono HB1.out.size)
  have HR2 : Hid (Pt.RdT v1 ps w2) := HR1.out.below k2
  have HS2 : Hid (Pt.RdT v2 ps w2) := o2.rd
  clear o2 k2 HR HR1 HB1
  go_wp2_with fail
  refine (HA.out _ (HM.out.below HB2.out)).mono ?_
  rintro e w3 ⟨rfl, k3⟩
  have HB3 : Hid (Below w.heap.size w w3) := HB2.out.trans (k3.mono HB2.out.size)
  have HP3 : Hid (Calls _ _ _ w3 _) := Wr.parts15_any v1 v2 ps w3 (HR2.out.below k3) (HS2.out.below k3) (by omega)
  clear k3 HR2 HS2 HB2
  go_wp2_with fail
  refine HP3.out.mono ?_
  rintro e w4 ⟨rfl, n, hw4⟩
  have HB4 : Hid (Below w.heap.size w w4) := (by rw [hw4]; exact HB3.out.trans ⟨rfl, rfl, rfl, Nat.le_refl _, fun _ _ => rfl⟩ : Below _ _ _)
  clear hw4 HP3 HB3
  go_wp2
  go_ret
  exact ⟨rfl, HB4.out⟩

end Sr
end Go.Proofs.YtgknkndcnoclpaaGreatDoor

/-
  A witness for a row with a condition of its own, at a world whose listed tables are laid.
-/
set_option linter.unusedVariables false
namespace Go.Proofs.YtgknkndcnoclpaaGreatDoor
namespace Oc

theorem witness_zip {H : Type} {enc : TypeId × Value → H} {C : Checked} {os : Os} {f : FuncId} {fn : Func} {s : OpenSpec} {conds : List PathCond} {apart : Bool} {laid : List (String × DataW Unit)} (modest : Bool) (w0 : World) (args : Array Value) (hos : w0.os = os)
    (hsh : (w0.forCall (fun _ _ => 0) ⟨#[], args, []⟩).Shaped C.prog)
    (hok : Input.okWideB C.prog (w0.forCall (fun _ _ => 0) ⟨#[], args, []⟩) f ⟨#[], args, []⟩ = true)
    (hrow : s.preRow enc C.prog fn conds apart laid (w0.forCall (fun _ _ => 0) ⟨#[], args, []⟩).memory args) :
    ∃ (w : World) (tape : Tape) (i : Input), w.os = os ∧ (w.forCall tape i).Shaped C.prog ∧ i.vars = [] ∧ Input.okWide C.prog (w.forCall tape i) .any w.heap.size f i ∧
      s.preRow enc C.prog fn conds apart laid (w.forCall tape i).memory i.args ∧ ({ modest := modest } : Assume).holds C.prog (lone (Frame.enter C.prog f i.args .normal) [] (w.forCall tape i)) :=
  ⟨w0, fun _ _ => 0, ⟨#[], args, []⟩, hos, hsh, (Input.okWide_of_okWideB (base := 0) hok).1, (Input.okWide_of_okWideB hok).2, hrow, by
    simp only [Assume.holds]
    exact ⟨by simp, by simp, fun _ => Modest.zero, by simp, by simp⟩⟩

end Oc
end Go.Proofs.YtgknkndcnoclpaaGreatDoor
