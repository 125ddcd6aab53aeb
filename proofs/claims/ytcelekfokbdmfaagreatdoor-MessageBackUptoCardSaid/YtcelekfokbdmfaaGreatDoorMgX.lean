import Derived.Test.YtcelekfokbdmfaaGreatDoorMgU
import Derived.Test.YtcelekfokbdmfaaGreatDoorMgV
import Derived.Deep.RegionWith
import Derived.Test.YtcelekfokbdmfaaGreatDoorMgL
import Derived.Test.YtcelekfokbdmfaaGreatDoorMgH
set_option linter.unusedVariables false
set_option linter.unusedSimpArgs false
set_option maxRecDepth 100000
namespace Go.Proofs.YtcelekfokbdmfaaGreatDoor
open Go.RowKit Go.Shelf
namespace Ck
open Oc Tg _root_.Go.Proofs.YtcelekfokbdmfaaGreatDoor.Fd
def decR (most room fields : Int) (l : List UInt8) : List UInt8 × List Fl × Int × Int :=
  if most < 0 ∨ room < 0 ∨ fields < 0 then ([], [], 0, 1)
  else if (eat (new most room fields) l).2.err ≠ 0 then ([], [], (eat (new most room fields) l).1 - 1, (eat (new most room fields) l).2.err)
  else if (eat (new most room fields) l).2.done = false then ([], [], (eat (new most room fields) l).1, 105)
  else ((eat (new most room fields) l).2.body, (eat (new most room fields) l).2.tr, (eat (new most room fields) l).1, 0)
end Ck
end Go.Proofs.YtcelekfokbdmfaaGreatDoor
set_option linter.unusedVariables false
set_option linter.unusedSimpArgs false
set_option maxRecDepth 100000
namespace Go.Proofs.YtcelekfokbdmfaaGreatDoor
open Go.RowKit Go.Shelf
namespace Ck
open Oc Tg _root_.Go.Proofs.YtcelekfokbdmfaaGreatDoor.Fd
def digs : List UInt8 := [48, 49, 50, 51, 52, 53, 54, 55, 56, 57, 97, 98, 99, 100, 101, 102]
def hexV (c : UInt8) : Int := if hexB c then valI (c.toNat : Int) else -1
theorem dig_slice : ∀ k, k < 16 → (⟨#[48, 49, 50, 51, 52, 53, 54, 55, 56, 57, 97, 98, 99, 100, 101, 102]⟩ : ByteArray).extract k (k + 1) = str [digs.getD k 0] := fun k hk => match k, hk with
  | 0, _ => rfl
  | 1, _ => rfl
  | 2, _ => rfl
  | 3, _ => rfl
  | 4, _ => rfl
  | 5, _ => rfl
  | 6, _ => rfl
  | 7, _ => rfl
  | 8, _ => rfl
  | 9, _ => rfl
  | 10, _ => rfl
  | 11, _ => rfl
  | 12, _ => rfl
  | 13, _ => rfl
  | 14, _ => rfl
  | 15, _ => rfl
  | n + 16, h => absurd h (by omega)
end Ck
end Go.Proofs.YtcelekfokbdmfaaGreatDoor
set_option linter.unusedVariables false
set_option linter.unusedSimpArgs false
set_option maxRecDepth 100000
namespace Go.Proofs.YtcelekfokbdmfaaGreatDoor
open Go.RowKit Go.Shelf
namespace Ck
open Oc Tg _root_.Go.Proofs.YtcelekfokbdmfaaGreatDoor.Fd
end Ck
end Go.Proofs.YtcelekfokbdmfaaGreatDoor
set_option linter.unusedVariables false
set_option linter.unusedSimpArgs false
namespace Go.Proofs.YtcelekfokbdmfaaGreatDoor
open Go.RowKit Go.Shelf
namespace Oc
def nth (t : List Prm) (j : Nat) : Prm := t.getD j ([], [], false)
def RdP (v : Value) (t : List Prm) (w : World) : Prop :=
  ∃ a c, v = .slice a t.length c ∧ (t = [] ∨ ∃ g o, a = some ⟨g, o, none⟩ ∧ t.length ≤ c ∧ ∀ j, j < t.length → w.cell? ⟨g, o + j * 3, none⟩ = some (.string (str (nth t j).1)) ∧ w.cell? ⟨g, o + j * 3 + 1, none⟩ = some (.string (str (nth t j).2.1)) ∧ w.cell? ⟨g, o + j * 3 + 2, none⟩ = some (.bool (nth t j).2.2))
theorem encP_at : ∀ (t : List Prm) (j : Nat), j < t.length → (encP t)[j * 3]? = some (.string (str (nth t j).1)) ∧ (encP t)[j * 3 + 1]? = some (.string (str (nth t j).2.1)) ∧ (encP t)[j * 3 + 2]? = some (.bool (nth t j).2.2)
  | [], j, h => by simp at h
  | p :: t, 0, _ => ⟨rfl, rfl, rfl⟩
  | p :: t, j + 1, h => by
    have ih := encP_at t j (by simpa using h)
    have e : encP (p :: t) = [.string (str p.1), .string (str p.2.1), .bool p.2.2] ++ encP t := rfl
    rw [e]
    have n : nth (p :: t) (j + 1) = nth t j := by unfold nth; simp
    rw [n, show (j + 1) * 3 = j * 3 + 3 by omega, show j * 3 + 3 + 1 = (j * 3 + 1) + 3 by omega, show j * 3 + 3 + 2 = (j * 3 + 2) + 3 by omega]
    exact ih
theorem OwnP.rd {T B : Nat} {v : Value} {t : List Prm} {w : World} (h : OwnP T B v t w) : RdP v t w := by
  have hall := h
  rcases h.2 with ⟨rfl, h0⟩ | ⟨g, cap, cur, rfl, _, hg, hn, _⟩
  · exact ⟨none, 0, by rw [h0], .inl (List.length_eq_zero_iff.1 h0)⟩
  · refine ⟨_, _, rfl, .inr ⟨g, 0, rfl, by omega, fun j hj => ?_⟩⟩
    obtain ⟨e0, e1, e2⟩ := encP_at t j hj
    have ea : ∀ k, Addr.add ⟨g, 0, none⟩ k = ⟨g, 0 + k, none⟩ := fun k => by unfold Addr.add; split <;> simp_all
    have c0 := World.ownsRow.cells hall (g := g) rfl _ _ e0
    have c1 := World.ownsRow.cells hall (g := g) rfl _ _ e1
    have c2 := World.ownsRow.cells hall (g := g) rfl _ _ e2
    rw [ea] at c0 c1 c2
    exact ⟨c0, c1, c2⟩
theorem RdP.below {v : Value} {t : List Prm} {w w' : World} (h : RdP v t w) (b : Below w.heap.size w w') : RdP v t w' := by
  obtain ⟨a, c, rfl, h⟩ := h
  refine ⟨a, c, rfl, ?_⟩
  rcases h with h | ⟨g, o, e, hc, hcell⟩
  · exact .inl h
  · refine .inr ⟨g, o, e, hc, fun j hj => ?_⟩
    obtain ⟨h1, h2, h3⟩ := hcell j hj
    rw [b.cell (p := ⟨g, o + j * 3, none⟩) (World.block_lt_of_cell? w _ h1), b.cell (p := ⟨g, o + j * 3 + 1, none⟩) (World.block_lt_of_cell? w _ h2), b.cell (p := ⟨g, o + j * 3 + 2, none⟩) (World.block_lt_of_cell? w _ h3)]
    exact ⟨h1, h2, h3⟩
end Oc
end Go.Proofs.YtcelekfokbdmfaaGreatDoor
