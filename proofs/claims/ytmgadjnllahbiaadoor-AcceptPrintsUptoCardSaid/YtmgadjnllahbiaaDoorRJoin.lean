/-
  The document's Join.
-/
import Derived.Test.YtmgadjnllahbiaaDoorRQuote
import Derived.Test.YtmgadjnllahbiaaDoorSameL
import Derived.Test.YtmgadjnllahbiaaDoorJPlain
set_option linter.unusedVariables false
set_option linter.unusedSimpArgs false
namespace Go.Proofs.YtmgadjnllahbiaaDoor
open Go.RowKit Go.Shelf
namespace Oc

theorem own_none (B : Nat) (w : World) (hB : B ≤ w.heap.size) : Own B (.slice (some ⟨w.heap.size, 0, none⟩) 0 0) [] (w.alloc (.cells #[] 5)) :=
  ⟨by simp [Lib.byteCells], .inr ⟨w.heap.size, 0, #[], rfl, hB, heap_alloc_new w _, by simp, by decide, by simp, by simp [Lib.byteCells]⟩⟩
/-- A text appended to a slice of bytes of the call's own. -/
theorem wp_appT {ops : Array Oper} {rest : List Oper} {o : Oper} {a : Act} {Q : Exit → Act → World → Prop} (hgd : o.guard = none) (s x : Operand)
    (ho : o.op = .call { callee := .builtin .append, args := #[s, x], argTypes := #[56, 9] }) (B : Nat) (v : Value) (l : List UInt8) (W : World) (y : ByteArray) (m : List UInt8) (hy : y = str m)
    (hs : a.eval s = v) (hown : Own B v l W) (hx : a.eval x = .string y) (hlen : l.length + m.length ≤ 140737488355328) (hB : B ≤ W.heap.size)
    (h : ∀ v' w', Own B v' (l ++ m) w' → Below B W w' → wpList Tryd.prog ops Q rest (a.put o.dst v') w') : wpList Tryd.prog ops Q (o :: rest) a W := by
  subst hy
  obtain ⟨i0, hi, hz0, hz1, hz2⟩ := info5
  refine Lib.wpList_append_own_string _ hgd s x 56 9 ho B 5 i0 Tryd.underlying56 Tryd.underlying9 hi hz0 hz1 hz2 v l.length _ hs hown (str m) hx ?_ ?_ ?_ ?_
  · rw [str_size]; unfold maxLen; omega
  · rw [str_size]; omega
  · exact hB
  · intro v' w' h1 h2 _
    rw [Lib.strCells_eq, str_list, ← Lib.byteCells_append, str_size] at h1
    refine h v' w' ?_ ((Below.refl B W).grown h2 hB (fun k hk => (World.ownsRow.lt hown k hk).1))
    unfold Own
    rw [List.length_append]
    exact h1

end Oc
end Go.Proofs.YtmgadjnllahbiaaDoor
