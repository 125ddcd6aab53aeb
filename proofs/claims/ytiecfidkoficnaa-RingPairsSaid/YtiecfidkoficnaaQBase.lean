/-
  A queue in memory: its block, its store, the elements that wait. E: the element's type, S: its cells, QT: the queue's type.
-/
import Derived.Test.YtiecfidkoficnaaGBase
import Derived.Test.YtiecfidkoficnaaGPlain
set_option linter.unusedVariables false
set_option linter.unusedSimpArgs false
namespace Go.Proofs.Ytiecfidkoficnaa
open Go.RowKit
namespace Rg

structure IsQ (w : World) (E S QT qp : Nat) (sv : Value) (cap head count n : Nat) (cs : List Value) : Prop where
  str : w.heap[qp]? = some (.cells #[sv, .int .i64 (cap : Int), .int .i64 (head : Int), .int .i64 (count : Int)] QT (0, 0))
  own : w.ownsRow 0 E S sv n cs
  sep : ∀ g, sv.ownBlock = some g → g ≠ qp
  cap1 : 1 ≤ cap
  cap2 : cap ≤ 65536
  hn : n ≤ cap
  hc : count ≤ n
  hh : head < cap
  grow : n < cap → head + count = n

theorem row4q {W : World} {b T : Nat} {x y z u : Value} (h : W.heap[b]? = some (.cells #[x, y, z, u] T (0, 0))) : W.cell? ⟨b, 0, none⟩ = some x ∧ W.cell? ⟨b, 1, none⟩ = some y ∧ W.cell? ⟨b, 2, none⟩ = some z ∧ W.cell? ⟨b, 3, none⟩ = some u ∧ ∀ i, W.frozen? ⟨b, i, none⟩ = false := by
  refine ⟨?_, ?_, ?_, ?_, fun i => frozen_of_row W b i _ _ h⟩ <;> rw [cell_of_row W b _ _ _ _ h] <;> rfl

/-- The elements that wait, each as its cells. -/
def wait (cap head count S : Nat) (cs : List Value) : List (List Value) := (List.range count).map fun i => (cs.drop (pl cap head i * S)).take S

theorem wait_length (cap head count S : Nat) (cs : List Value) : (wait cap head count S cs).length = count := by simp [wait]

/-- Where an element that waits stands. -/
theorem IsQ.pl_lt {w : World} {E S QT qp : Nat} {sv : Value} {cap head count n : Nat} {cs : List Value} (H : IsQ w E S QT qp sv cap head count n cs) {i : Nat} (hi : i < count) : pl cap head i < n := by
  have h1 := H.hn
  have h2 := H.hc
  have h3 := H.hh
  by_cases h : n < cap
  · have h4 := H.grow h
    unfold pl
    split <;> omega
  · unfold pl
    split <;> omega
/-- Where the next one goes. -/
theorem IsQ.pl_next {w : World} {E S QT qp : Nat} {sv : Value} {cap head count n : Nat} {cs : List Value} (H : IsQ w E S QT qp sv cap head count n cs) (hi : count < cap) : (n < cap → pl cap head count = n) ∧ (n = cap → pl cap head count < n) := by
  have h1 := H.hn
  have h2 := H.hc
  have h3 := H.hh
  constructor
  · intro h
    have h4 := H.grow h
    unfold pl
    split <;> omega
  · intro h
    unfold pl
    split <;> omega

/-- What a new queue is. -/
def NewQ (w : World) (c : Int) (p : Option Addr) (bs : List Nat) (cap : Nat) (E : Int) : Prop :=
  (1 ≤ c ∧ c ≤ 65536 ∧ E = 0 ∧ (cap : Int) = c ∧ p = some ⟨w.heap.size, 0, none⟩ ∧ bs = [w.heap.size]) ∨ (¬ (1 ≤ c ∧ c ≤ 65536) ∧ E = 20 ∧ p = none ∧ bs = [])

/-- The queue or none. -/
def QP (w : World) (E S QT : Nat) (p : Option Addr) (bs : List Nat) (cap : Nat) (xs : List (List Value)) : Prop :=
  (p = none ∧ bs = [] ∧ cap = 0 ∧ xs = []) ∨ ∃ qp sv head n cs, p = some ⟨qp, 0, none⟩ ∧ bs = qp :: sv.ownBlock.toList ∧ IsQ w E S QT qp sv cap head xs.length n cs ∧ xs = wait cap head xs.length S cs

end Rg
end Go.Proofs.Ytiecfidkoficnaa
