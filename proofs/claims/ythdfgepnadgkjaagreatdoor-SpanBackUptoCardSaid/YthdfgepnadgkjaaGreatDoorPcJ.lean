/-
  What the document's Pieces says.
-/
import Derived.Test.YthdfgepnadgkjaaGreatDoorZzS
import Derived.Test.YthdfgepnadgkjaaGreatDoorSnM
import Derived.Test.YthdfgepnadgkjaaGreatDoorZzP
set_option linter.unusedVariables false
set_option linter.unusedSimpArgs false
namespace Go.Proofs.YthdfgepnadgkjaaGreatDoor
open Go.RowKit Go.Shelf
namespace Sn
open Oc Tg Ac

/-- A piece of the document's: the piece, the error, how far. -/
def dpcR (r : List UInt8) : Pc × Int × Nat :=
  if (dlnR r ctH).2.2 = 94 then (noPc, 94, r.length) else
  if (dlnR r ctH).2.2 ≠ 0 then (noPc, (dlnR r ctH).2.2, 0) else
  if (dlnR (r.drop (dlnR r ctH).2.1) crH).2.2 = 94 then (noPc, 94, r.length) else
  if (dlnR (r.drop (dlnR r ctH).2.1) crH).2.2 ≠ 0 then (noPc, (dlnR (r.drop (dlnR r ctH).2.1) crH).2.2, (dlnR r ctH).2.1) else
  if (tolR (dlnR (r.drop (dlnR r ctH).2.1) crH).1).2.2 ≠ 0 ∨ (tolR (dlnR (r.drop (dlnR r ctH).2.1) crH).1).1 = (0, 0) then (noPc, 93, (dlnR r ctH).2.1) else
  if shrt (r.drop ((dlnR r ctH).2.1 + (dlnR (r.drop (dlnR r ctH).2.1) crH).2.1)) [13, 10] = true then (noPc, 94, r.length) else
  if Lib.hasPrefix (r.drop ((dlnR r ctH).2.1 + (dlnR (r.drop (dlnR r ctH).2.1) crH).2.1)) [13, 10] = false then (noPc, 93, (dlnR r ctH).2.1 + (dlnR (r.drop (dlnR r ctH).2.1) crH).2.1) else
  if ((r.length - ((dlnR r ctH).2.1 + (dlnR (r.drop (dlnR r ctH).2.1) crH).2.1 + 2) : Nat) : Int) < (tolR (dlnR (r.drop (dlnR r ctH).2.1) crH).1).1.2 - (tolR (dlnR (r.drop (dlnR r ctH).2.1) crH).1).1.1 then (noPc, 94, r.length) else
  (⟨(dlnR r ctH).1, (tolR (dlnR (r.drop (dlnR r ctH).2.1) crH).1).1, (tolR (dlnR (r.drop (dlnR r ctH).2.1) crH).1).2.1, (r.drop ((dlnR r ctH).2.1 + (dlnR (r.drop (dlnR r ctH).2.1) crH).2.1 + 2)).take ((tolR (dlnR (r.drop (dlnR r ctH).2.1) crH).1).1.2 - (tolR (dlnR (r.drop (dlnR r ctH).2.1) crH).1).1.1).toNat⟩, 0,
    (dlnR r ctH).2.1 + (dlnR (r.drop (dlnR r ctH).2.1) crH).2.1 + 2 + ((tolR (dlnR (r.drop (dlnR r ctH).2.1) crH).1).1.2 - (tolR (dlnR (r.drop (dlnR r ctH).2.1) crH).1).1.1).toNat)
/-- The document's loop: the pieces, the place, the error. -/
def dgo (op cl l : List UInt8) : Nat → Nat → List Pc → List Pc × Int × Int
  | 0, a, acc => ([], 0, 0)
  | f + 1, a, acc =>
    if 0 < acc.length ∧ Lib.hasPrefix (l.drop a) cl = true then (if a + cl.length < l.length then ([], ((a + cl.length : Nat) : Int), 92) else (acc, 0, 0))
    else if shrt (l.drop a) op = true ∨ (0 < acc.length ∧ shrt (l.drop a) cl = true) then ([], (l.length : Int), 94)
    else if Lib.hasPrefix (l.drop a) op = false then ([], (a : Int), 92)
    else if (dpcR (l.drop (a + op.length))).2.1 ≠ 0 then ([], ((a + op.length + (dpcR (l.drop (a + op.length))).2.2 : Nat) : Int), (dpcR (l.drop (a + op.length))).2.1)
    else dgo op cl l f (a + op.length + (dpcR (l.drop (a + op.length))).2.2) (acc ++ [(dpcR (l.drop (a + op.length))).1])
theorem dlnR_far (r h : List UInt8) : (dlnR r h).2.1 ≤ r.length := by
  unfold dlnR
  split
  · simp
  · split
    · simp
    · split
      · simp
      · split
        · simp
        · rename_i h1 h2 h3 h4
          have h2' : Lib.hasPrefix r h = true := by simpa using h2
          have p1 := (List.isPrefixOf_iff_prefix.1 h2').length_le
          have h4' : Lib.hasPrefix ((r.drop h.length).drop ((r.drop h.length).takeWhile fieldB).length) [13, 10] = true := by simpa using h4
          have p2 := (List.isPrefixOf_iff_prefix.1 h4').length_le
          rw [List.length_drop, List.length_drop] at p2
          simp at p2 ⊢
          omega
/-- What the document's Pieces says. -/
def dpsR (bd l : List UInt8) : List Pc × Int × Int := if bndR bd = true then dgo (opB bd) (clB bd) l (l.length + 1) 0 [] else ([], 0, 92)

theorem dlnR_ok (r h : List UInt8) : (dlnR r h).2.2 = 0 ∨ (dlnR r h).2.2 = 93 ∨ (dlnR r h).2.2 = 94 := by
  unfold dlnR
  split
  · simp
  · split
    · simp
    · split
      · simp
      · split
        · simp
        · simp

theorem dlnR_len (r h : List UInt8) : (dlnR r h).1.length ≤ r.length := by
  unfold dlnR
  split
  · simp
  · split
    · simp
    · split
      · simp
      · split
        · simp
        · have h1 := (List.takeWhile_prefix (l := r.drop h.length) fieldB).length_le
          rw [List.length_drop] at h1
          dsimp only
          omega

theorem eqNr (a b c d : Int) (w : World) : (binOp .eql 52 (.agg #[.int .i64 a, .int .i64 b]) (.agg #[.int .i64 c, .int .i64 d])).run Tryz.prog w = .ok (.bool (a == c && b == d)) w := by
  have u3 := Tryz.underlying3
  have a3 := Tryz.isAgg3
  have z3 := Tryz.sizeOf3
  have hS : Tryz.prog.underlying 52 = some (.struct (Tryz.prog.fieldsOf 52)) := by kernel_rfl
  have hp : Tryz.prog.stoodInHeld 52 = false := by kernel_rfl
  rw [run_eql_struct, show (10000 : Nat) = 9999 + 1 from rfl, run_equalIn_agg w 9999 52 _ _ hS hp]
  simp only [Program.fieldsOf, Tryz.underlying52]
  go_simp
  by_cases h1 : a = c <;> by_cases h2 : b = d <;> simp [h1, h2]
theorem cells2 {w : World} {b T : Nat} {x y : Value} (h : w.heap[b]? = some (.cells #[x, y] T (0, 0))) : w.cell? ⟨b, 0, none⟩ = some x ∧ w.cell? ⟨b, 1, none⟩ = some y := by
  have : ∀ k : Nat, w.cell? ⟨b, k, none⟩ = #[x, y][k]? := fun k => by simp [World.cell?, h]
  exact ⟨by simpa using this 0, by simpa using this 1⟩

end Sn
end Go.Proofs.YthdfgepnadgkjaaGreatDoor
