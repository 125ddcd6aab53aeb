import Derived.Test.YtdcfhnbagldilaaGreatDoorMgX
import Derived.Test.YtdcfhnbagldilaaGreatDoorMgY
import Derived.Deep.RegionHeld3
import Derived.Test.YtdcfhnbagldilaaGreatDoorMgB1
import Derived.Test.YtdcfhnbagldilaaGreatDoorMgN
import Derived.BigQuiet
import Derived.Test.YtdcfhnbagldilaaGreatDoorMgT
import Derived.Test.YtdcfhnbagldilaaGreatDoorMgJ
set_option linter.unusedVariables false
set_option linter.unusedSimpArgs false
set_option maxRecDepth 100000
namespace Go.Proofs.YtdcfhnbagldilaaGreatDoor
open Go.RowKit Go.Shelf
namespace Ms
open Oc Tg _root_.Go.Proofs.YtdcfhnbagldilaaGreatDoor.Fd _root_.Go.Proofs.YtdcfhnbagldilaaGreatDoor.Ck
end Ms
end Go.Proofs.YtdcfhnbagldilaaGreatDoor
set_option linter.unusedVariables false
set_option linter.unusedSimpArgs false
set_option maxRecDepth 100000
namespace Go.Proofs.YtdcfhnbagldilaaGreatDoor
open Go.RowKit Go.Shelf
namespace Ms
open Oc Tg _root_.Go.Proofs.YtdcfhnbagldilaaGreatDoor.Fd _root_.Go.Proofs.YtdcfhnbagldilaaGreatDoor.Ck
structure At12 (n : Int) (f i : Nat) (a : List Int) (c : Int) (b : List Int) : Prop where
  codes : codes = a ++ c :: b
  off : f = (flat a).length
  in' : f ≤ i ∧ i ≤ f + (ent c).length
  none : ∀ k ∈ a, n ≠ k
theorem At12.tab {n : Int} {f i : Nat} {a : List Int} {c : Int} {b : List Int} (h : At12 n f i a c b) : rTab = flat a ++ (ent c ++ (124 :: flat b)) := by
  unfold rTab
  rw [h.codes, flat_app]
  show flat a ++ ((ent c ++ [124]) ++ flat b) = _
  simp
theorem At12.mem {n : Int} {f i : Nat} {a : List Int} {c : Int} {b : List Int} (h : At12 n f i a c b) : c ∈ Ms.codes := by rw [h.codes]; simp
theorem At12.lt {n : Int} {f i : Nat} {a : List Int} {c : Int} {b : List Int} (h : At12 n f i a c b) : f + (ent c).length < 787 := by
  have := congrArg List.length h.tab
  rw [tab_len] at this
  simp only [List.length_append, List.length_cons] at this
  have := h.off
  omega
theorem At12.cut {n : Int} {f i : Nat} {a : List Int} {c : Int} {b : List Int} (h : At12 n f i a c b) (hi : i = f + (ent c).length) : (rTab.drop f).take 3 = (ent c).take 3 ∧ (rTab.drop (f + 4)).take (i - (f + 4)) = rsL c ∧ f + 4 ≤ i := by
  have ho := h.off
  have el : (ent c).length = 4 + (rsL c).length := by unfold ent; simp; omega
  have hd : rTab.drop f = ent c ++ (124 :: flat b) := by
    rw [h.tab, ho, List.drop_left']
    rfl
  refine ⟨?_, ?_, by omega⟩
  · rw [hd, List.take_append_of_le_length (by omega)]
  · rw [← List.drop_drop, hd, List.drop_append_of_le_length (by omega), show i - (f + 4) = (rsL c).length by omega]
    have : (ent c).drop 4 = rsL c := rfl
    rw [this, List.take_left']
    rfl
theorem At12.next {n : Int} {f i : Nat} {a : List Int} {c c' : Int} {b : List Int} (h : At12 n f i a c (c' :: b)) (hi : i = f + (ent c).length) (hn : n ≠ c) : At12 n (i + 1) (i + 1) (a ++ [c]) c' b := by
  refine ⟨by rw [h.codes]; simp, ?_, ⟨Nat.le_refl _, by omega⟩, ?_⟩
  · rw [flat_app, List.length_append, ← h.off]
    show _ = f + ((ent c ++ [124]) ++ []).length
    simp
    omega
  · intro k hk
    simp at hk
    rcases hk with hk | rfl
    · exact h.none k hk
    · exact hn
theorem At12.first (n : Int) : At12 n 0 0 [] 100 Ms.codes.tail := ⟨rfl, rfl, ⟨Nat.le_refl _, Nat.zero_le _⟩, fun k hk => by cases hk⟩
def Lp12 (n : Int) (f i : Nat) : Prop := (∃ a c b, At12 n f i a c b) ∨ (i = 787 ∧ ∀ k ∈ codes, n ≠ k)
end Ms
end Go.Proofs.YtdcfhnbagldilaaGreatDoor
set_option linter.unusedVariables false
set_option linter.unusedSimpArgs false
set_option maxRecDepth 100000
namespace Go.Proofs.YtdcfhnbagldilaaGreatDoor
open Go.RowKit Go.Shelf
namespace Ms
open Oc Tg _root_.Go.Proofs.YtdcfhnbagldilaaGreatDoor.Fd _root_.Go.Proofs.YtdcfhnbagldilaaGreatDoor.Ck
end Ms
end Go.Proofs.YtdcfhnbagldilaaGreatDoor
set_option linter.unusedVariables false
set_option linter.unusedSimpArgs false
set_option maxRecDepth 100000
namespace Go.Proofs.YtdcfhnbagldilaaGreatDoor
open Go.RowKit Go.Shelf
namespace Ck
open Oc Tg _root_.Go.Proofs.YtdcfhnbagldilaaGreatDoor.Fd
end Ck
end Go.Proofs.YtdcfhnbagldilaaGreatDoor
set_option linter.unusedVariables false
set_option linter.unusedSimpArgs false
set_option maxRecDepth 100000
namespace Go.Proofs.YtdcfhnbagldilaaGreatDoor
open Go.RowKit Go.Shelf
namespace Ck
open Oc Tg _root_.Go.Proofs.YtdcfhnbagldilaaGreatDoor.Fd
def piecesC : List Int → List UInt8 → List (List UInt8)
  | [], b => [b]
  | n :: ns, b => b.take n.toNat :: piecesC ns (b.drop n.toNat)
end Ck
end Go.Proofs.YtdcfhnbagldilaaGreatDoor
