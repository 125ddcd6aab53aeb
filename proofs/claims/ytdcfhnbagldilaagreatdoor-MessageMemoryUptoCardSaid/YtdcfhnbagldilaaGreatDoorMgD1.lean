import Derived.Test.YtdcfhnbagldilaaGreatDoorMgC1
import Derived.Test.YtdcfhnbagldilaaGreatDoorMgX
import Derived.Test.YtdcfhnbagldilaaGreatDoorRows
import Derived.Test.YtdcfhnbagldilaaGreatDoorMgW
import Derived.Test.YtdcfhnbagldilaaGreatDoorMgI
import Derived.OpenShut
import Derived.SliceStrings
import Derived.Carry
import Derived.ChangeSlices
import Derived.ChangeOld
import Derived.Deep.Strs
set_option linter.unusedVariables false
set_option linter.unusedSimpArgs false
set_option maxRecDepth 100000
namespace Go.Proofs.YtdcfhnbagldilaaGreatDoor
open Go.RowKit Go.Shelf
namespace Ms
open Oc Tg _root_.Go.Proofs.YtdcfhnbagldilaaGreatDoor.Fd _root_.Go.Proofs.YtdcfhnbagldilaaGreatDoor.Ck
end Ms
end Go.Proofs.YtdcfhnbagldilaaGreatDoor
set_option linter.unusedVariables false
set_option linter.unusedSimpArgs false
namespace Go.Proofs.YtdcfhnbagldilaaGreatDoor
open Go.ChangeShapes Go.WideShapes Go.RowKit
namespace Ck
open Oc _root_.Go.Proofs.YtdcfhnbagldilaaGreatDoor.Fd
theorem laidOutT : laidOutB Tryz.prog = true := Fd.laidOutT
theorem cellsI : Tryz.prog.cellsOf 3 = 1 := by kernel_rfl
theorem cellsS9 : Tryz.prog.cellsOf 9 = 1 := by kernel_rfl
end Ck
end Go.Proofs.YtdcfhnbagldilaaGreatDoor
set_option linter.unusedVariables false
set_option linter.unusedSimpArgs false
namespace Go.Proofs.YtdcfhnbagldilaaGreatDoor
open Go.ChangeShapes Go.WideShapes Go.RowKit Go.Shelf
namespace Ck
open Oc _root_.Go.Proofs.YtdcfhnbagldilaaGreatDoor.Fd
def NilI (v : Value) (l : List Int) : Prop := l = [] → v = .slice none 0 0 ∨ ∃ g c, v = .slice (some g) 0 c
theorem OwnI.form {B : Nat} {v : Value} {l : List Int} {w : World} (h : OwnI B v l w) : ∃ a c, v = .slice a l.length c := by
  rcases h.2 with ⟨rfl, h0⟩ | ⟨g, cap, cur, rfl, _⟩
  · exact ⟨none, 0, by rw [h0]⟩
  · exact ⟨_, _, rfl⟩
def spare1 : List Fl := [([115, 112, 97, 114, 101], [])]
end Ck
end Go.Proofs.YtdcfhnbagldilaaGreatDoor
set_option linter.unusedVariables false
set_option linter.unusedSimpArgs false
set_option maxRecDepth 100000
namespace Go.Proofs.YtdcfhnbagldilaaGreatDoor
open Go.RowKit Go.Shelf
namespace Ms
open Oc Tg _root_.Go.Proofs.YtdcfhnbagldilaaGreatDoor.Fd _root_.Go.Proofs.YtdcfhnbagldilaaGreatDoor.Ck
theorem again12 (w : World) (n q : Nat) : Hid (∃ k, w.drewN (n + q) = w.drewN k) := (⟨_, rfl⟩ : ∃ k, w.drewN (n + q) = w.drewN k)
set_option maxRecDepth 100000 in
set_option maxHeartbeats 1000000 in
theorem same12_any (v1 v2 : Value) (t : List Fl) (w : World) (h1 : RdF v1 t w) (h2 : RdF v2 t w) (hl : t.length ≤ 4294967296) :
    Calls Tryz.prog 18 #[v1, v2] w fun e w' => e = .returned (.bool true) ∧ Below w.heap.size w w' := by
  obtain ⟨a1, c1, rfl, h1⟩ := h1
  obtain ⟨a2, c2, rfl, h2⟩ := h2
  have hne : ((t.length : Int) != (t.length : Int)) = false := by simp
  go_enter Tryz.func18, Tryz.ntmps18
  go_wp2
  go_loopw [13] (fun i wr => ∃ k : Nat, k ≤ t.length ∧ i = .int .i64 k ∧ Hid (∃ n, wr = w.drewN n)) (fun i _ => t.length - (intOf i).toNat)
  case atStart => exact ⟨0, Nat.zero_le _, rfl, (⟨0, rfl⟩ : ∃ n, w = w.drewN n)⟩
  case round =>
    obtain ⟨k, hk, rfl, hw⟩ := hrel
    obtain ⟨n, rfl⟩ := hw.out
    clear hw
    by_cases hlt : k < t.length
    · rcases h1 with h | ⟨g1, o1, rfl, hc1, hcell1⟩
      · rw [h] at hlt; simp at hlt
      rcases h2 with h | ⟨g2, o2, rfl, hc2, hcell2⟩
      · rw [h] at hlt; simp at hlt
      obtain ⟨p0, p1⟩ := hcell1 k hlt
      obtain ⟨q0, q1⟩ := hcell2 k hlt
      clear hcell1 hcell2
      generalize str (nth t k).1 = x at p0 q0
      generalize str (nth t k).2 = y at p1 q1
      go_wp2_with fail
      go_quiet (fail)
      go_wp2
      go_roundw
      case rel => exact ⟨k + 1, by omega, by go_num, again12 w _ _⟩
      case measure => simp [intOf]; omega
    · go_wp2
      go_ret
      exact ⟨rfl, below_drew w n⟩
end Ms
end Go.Proofs.YtdcfhnbagldilaaGreatDoor
