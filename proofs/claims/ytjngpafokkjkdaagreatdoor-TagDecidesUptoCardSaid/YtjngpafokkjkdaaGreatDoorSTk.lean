/-
  The pieces of a date in memory, and the functions that take them.
-/
import Derived.Test.YtjngpafokkjkdaaGreatDoorSLeaf2
import Derived.Test.YtjngpafokkjkdaaGreatDoorShelf
import Derived.BigQuiet
import Derived.Deep.QuietTactic
import Derived.OneCell
set_option linter.unusedVariables false
set_option linter.unusedSimpArgs false
namespace Go.Proofs.YtjngpafokkjkdaaGreatDoor
open Go.RowKit
namespace Bs

def iv (st : List Int) : List Value := st.map fun x => Value.int .i64 x
theorem iv_length (st : List Int) : (iv st).length = st.length := by unfold iv; simp
theorem iv_set (st : List Int) (i : Nat) (x : Int) : (iv st).set i (.int .i64 x) = iv (st.set i x) := by unfold iv; rw [List.map_set]

/-- The pieces lie in block P. -/
structure Pcs (w : World) (P : Nat) (st : List Int) : Prop where
  len : st.length = 14
  blk : w.heap[P]? = some (.cells (iv st).toArray 110 (0, 0))
theorem Pcs.cell {w : World} {P : Nat} {st : List Int} (h : Pcs w P st) (i : Nat) (hi : i < 14) : w.cell? ⟨P, i, none⟩ = some (.int .i64 (g st i)) := by
  have := h.len
  have e : (iv st)[i]? = some (.int .i64 (g st i)) := by
    unfold iv g
    rw [List.getElem?_map, List.getD_eq_getElem?_getD, List.getElem?_eq_getElem (by omega)]
    rfl
  simp [World.cell?, h.blk, e]
theorem Pcs.lt {w : World} {P : Nat} {st : List Int} (h : Pcs w P st) : P < w.heap.size := (Array.getElem?_eq_some_iff.1 h.blk).1
theorem Pcs.but {bs : List Nat} {w w' : World} {P : Nat} {st : List Int} (h : Pcs w P st) (b : But bs w w') (hn : P ∉ bs) : Pcs w' P st := ⟨h.len, b.heap h.blk hn⟩
theorem Pcs.set {w : World} {P : Nat} {st : List Int} (h : Pcs w P st) (i : Nat) (hi : i < 14) (x : Int) : Pcs (w.setCell ⟨P, i, none⟩ (.int .i64 x)) P (st.set i x) := by
  refine ⟨by rw [List.length_set]; exact h.len, ?_⟩
  have hl := h.lt
  have hb := h.blk
  rw [← iv_set]
  unfold World.setCell
  rw [Array.getElem?_modify, if_pos rfl, hb]
  simp
theorem Pcs.free {w : World} {P : Nat} {st : List Int} (h : Pcs w P st) (i : Nat) : w.frozen? ⟨P, i, none⟩ = false := by
  simp [World.frozen?, h.blk]

def pp (P i : Nat) : Value := .pointer (some ⟨P, i, none⟩)
def fnm (k : Nat) : Nat := if k = 0 then 107 else if k = 1 then 108 else 109

/-- The value is the function that takes this piece. -/
def Tk (w : World) (P : Nat) : TK → Value → Prop
  | .ex t, v => ∃ a, v = .func (.func 121) #[] #[pp a 0] ∧ w.cell? ⟨a, 0, none⟩ = some (.string (str t)) ∧ a ≠ P
  | .dg n f, v => ∃ a b, v = .func (.func 120) #[] #[pp a 0, pp b 0] ∧ w.cell? ⟨a, 0, none⟩ = some (pp P (2 * f)) ∧ w.cell? ⟨b, 0, none⟩ = some (.int .i64 (n : Int)) ∧ a ≠ P ∧ b ≠ P
  | .nm k f, v => ∃ a b c, v = .func (.func 119) #[] #[pp a 0, pp b 0, pp c 0] ∧ w.cell? ⟨a, 0, none⟩ = some (.int .i64 ((nms k).length : Int)) ∧ w.cell? ⟨b, 0, none⟩ = some (.func (.func (fnm k)) #[] #[]) ∧ w.cell? ⟨c, 0, none⟩ = some (pp P (2 * f)) ∧ a ≠ P ∧ b ≠ P ∧ c ≠ P
  | .lo f, v => ∃ a b c d, v = .func (.func 122) #[] #[pp a 0, pp b 0] ∧ w.cell? ⟨a, 0, none⟩ = some (.func (.func 120) #[] #[pp c 0, pp d 0]) ∧ w.cell? ⟨b, 0, none⟩ = some (pp P (2 * f)) ∧ w.cell? ⟨c, 0, none⟩ = some (pp P (2 * f)) ∧ w.cell? ⟨d, 0, none⟩ = some (.int .i64 2) ∧ a ≠ P ∧ b ≠ P ∧ c ≠ P ∧ d ≠ P
theorem Tk.but {w w' : World} {P : Nat} {t : TK} {v : Value} (h : Tk w P t v) (b : But [P] w w') : Tk w' P t v := by
  have nm : ∀ a, a ≠ P → a ∉ [P] := fun a ha e => by simp at e; exact ha e
  cases t with
  | ex t => obtain ⟨a, e, h1, n1⟩ := h; exact ⟨a, e, b.cell h1 (nm _ n1), n1⟩
  | dg n f => obtain ⟨a, c, e, h1, h2, n1, n2⟩ := h; exact ⟨a, c, e, b.cell h1 (nm _ n1), b.cell h2 (nm _ n2), n1, n2⟩
  | nm k f => obtain ⟨a, c, d, e, h1, h2, h3, n1, n2, n3⟩ := h; exact ⟨a, c, d, e, b.cell h1 (nm _ n1), b.cell h2 (nm _ n2), b.cell h3 (nm _ n3), n1, n2, n3⟩
  | lo f => obtain ⟨a, c, d, x, e, h1, h2, h3, h4, n1, n2, n3, n4⟩ := h; exact ⟨a, c, d, x, e, b.cell h1 (nm _ n1), b.cell h2 (nm _ n2), b.cell h3 (nm _ n3), b.cell h4 (nm _ n4), n1, n2, n3, n4⟩
theorem Tk.below {w w' : World} {P : Nat} {t : TK} {v : Value} (h : Tk w P t v) (b : Below w.heap.size w w') : Tk w' P t v := h.but (But.of_below b).nil

/-- What a taker says, and leaves. -/
def Took (r : Except Nat (Nat × List Int)) (P : Nat) (e : Ending) (w' : World) : Prop :=
  match r with
  | .ok (b, st) => e = .returned (.tuple #[.int .i64 (b : Int), .bool true]) ∧ Pcs w' P st
  | .error b => e = .returned (.tuple #[.int .i64 (b : Int), .bool false]) ∧ ∃ st, Pcs w' P st

theorem lget {l : List UInt8} {j : Nat} (h : j < l.length) : l[j]? = some (l.getD j 0) := by
  rw [List.getD_eq_getElem?_getD, List.getElem?_eq_getElem h]
  rfl
theorem str_at (l : List UInt8) (j : Nat) (h : j < (str l).size) : (((str l)[j]).toNat : Int) = ((l.getD j 0).toNat : Int) := by
  rw [← at_lt, str_list]

end Bs
end Go.Proofs.YtjngpafokkjkdaaGreatDoor
