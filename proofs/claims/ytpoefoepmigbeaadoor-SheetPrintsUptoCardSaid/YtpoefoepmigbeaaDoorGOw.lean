/-
  A slice of bytes of the call's own: appends, and back to a string.
-/
import Derived.Test.YtpoefoepmigbeaaDoorGDec
import Derived.Laws.BytesArg
set_option linter.unusedVariables false
set_option linter.unusedSimpArgs false
namespace Go.Proofs.YtpoefoepmigbeaaDoor
open Go.RowKit Go.Shelf
namespace Tg
open Oc

/-- A slice of bytes of the call's own. -/
def Ow (B : Nat) (v : Value) (l : List UInt8) (w : World) : Prop := w.ownsRow B 5 1 v l.length (Lib.byteCells l)
theorem Ow.alloc {B : Nat} {v : Value} {l : List UInt8} {w : World} (h : Ow B v l w) (o : Obj) : Ow B v l (w.alloc o) := World.ownsRow.alloc h o
theorem Ow.below {B : Nat} {v : Value} {l : List UInt8} {w w' : World} (h : Ow B v l w) (hb : Below w.heap.size w w') : Ow B v l w' :=
  ⟨h.1, h.2.imp id fun ⟨g, c, cur, e, hg, hh, r⟩ => ⟨g, c, cur, e, hg, (hb.block g (Array.getElem?_eq_some_iff.1 hh).1).trans hh, r⟩⟩
theorem Ow.back {B : Nat} {v : Value} {l : List UInt8} {w : World} (h : Ow B v l w) : (convert 48 9 v).run Tryd.prog w = .ok (.string (str l)) w := by
  rcases h.2 with ⟨rfl, h0⟩ | ⟨g, cap, cur, rfl, _, hg, hn, _, hsz, htake⟩
  · have e : l = [] := List.length_eq_zero_iff.1 h0
    subst e
    rw [run_convert_bytes_nil (P := Tryd.prog) w 48 5 Tryd.underlying48 Tryd.underlying5 0 0 9 Tryd.underlying9]
    rfl
  · refine run_convert_bytes_back w 48 9 5 ⟨g, 0, none⟩ cap l Tryd.underlying48 Tryd.underlying5 Tryd.underlying9 (fun j hj => ?_)
    refine World.ownsRow.cells h (g := g) rfl j _ ?_
    simp [Lib.byteCells, hj]
theorem Ow.none (w : World) : Ow w.heap.size (.slice (some ⟨w.heap.size, 0, .none⟩) 0 0) [] (w.alloc (.cells #[] 5)) :=
  ⟨by simp [Lib.byteCells], .inr ⟨w.heap.size, 0, #[], rfl, Nat.le_refl _, heap_alloc_new w _, by simp, by decide, by simp, by simp [Lib.byteCells]⟩⟩

theorem inf5 : ∃ i, Tryd.prog.info? 5 = some i ∧ i.zero = some (.int .u8 0) ∧ i.size = 1 ∧ i.bytes = 1 := by
  obtain ⟨i0, hi, hz0, hz1, hz2⟩ := info_parts infoByte
  exact ⟨i0, hi, hz0, hz1, hz2⟩
/-- Bytes appended to a slice of the call's own. -/
theorem wp_ap {ops : Array Oper} {rest : List Oper} {o : Oper} {a : Act} {Q : Exit → Act → World → Prop} (hgd : o.guard = none) (s x : Operand)
    (ho : o.op = .call { callee := .builtin .append, args := #[s, x], argTypes := #[48, 48] }) (B : Nat) (v : Value) (l us : List UInt8) (W : World) (cs : Array Value) (hcs : cs.toList = Lib.byteCells us)
    (hs : a.eval s = v) (hown : Ow B v l W) (hx : a.eval x = .slice (some ⟨W.heap.size, 0, none⟩) us.length us.length) (hlen : l.length + us.length ≤ 140737488355328) (hB : B ≤ W.heap.size)
    (h : ∀ v' w', Ow B v' (l ++ us) w' → Below B W w' → wpList Tryd.prog ops Q rest (a.put o.dst v') w') : wpList Tryd.prog ops Q (o :: rest) a (W.alloc (.cells cs 5)) := by
  obtain ⟨i0, hi, hz0, hz1, hz2⟩ := inf5
  have hl : (Lib.byteCells us).length = us.length := cells_len us
  refine wpList_append_own _ hgd s x 48 ho B 5 i0 (.int .u8 0) 1 1 Tryd.underlying48 hi hz0 hz1 hz2 rfl (by decide) v l.length _ hs (World.ownsRow.alloc hown _) ⟨W.heap.size, 0, none⟩ us.length us.length (Lib.byteCells us) hx (by rw [hl, Nat.mul_one]) ?_ ?_ ?_ ?_ ?_ ?_
  · intro j u hj
    have e : (W.alloc (.cells cs 5)).heap[W.heap.size]? = some (.cells cs 5 (0, 0)) := heap_alloc_new W _
    rw [show (⟨W.heap.size, 0, none⟩ : Addr).add j = ⟨W.heap.size, j, none⟩ by simp [Addr.add]; omega, Lib.cell_of_heap e]
    rw [← Array.getElem?_toList, hcs]
    exact hj
  · intro u hu
    simp [Lib.byteCells] at hu
    obtain ⟨b, _, rfl⟩ := hu
    rfl
  · unfold maxLen; omega
  · omega
  · simp; omega
  · intro v' w' h1 h2 _
    refine h v' w' ?_ (((Below.refl B W).alloc hB _).grown h2 (by simp; omega) (fun k hk => (World.ownsRow.lt hown k hk).1))
    unfold Ow
    rw [List.length_append, cells_app]
    exact h1
/-- A text appended. -/
theorem wp_apS {ops : Array Oper} {rest : List Oper} {o : Oper} {a : Act} {Q : Exit → Act → World → Prop} (hgd : o.guard = none) (s x : Operand)
    (ho : o.op = .call { callee := .builtin .append, args := #[s, x], argTypes := #[48, 9] }) (B : Nat) (v : Value) (l : List UInt8) (t : ByteArray) (W : World)
    (hs : a.eval s = v) (hown : Ow B v l W) (hx : a.eval x = .string t) (hlen : l.length + t.size ≤ 140737488355328) (hB : B ≤ W.heap.size)
    (h : ∀ v' w', Ow B v' (l ++ t.data.toList) w' → Below B W w' → wpList Tryd.prog ops Q rest (a.put o.dst v') w') : wpList Tryd.prog ops Q (o :: rest) a W := by
  obtain ⟨i0, hi, hz0, hz1, hz2⟩ := inf5
  refine Lib.wpList_append_own_string _ hgd s x 48 9 ho B 5 i0 Tryd.underlying48 Tryd.underlying9 hi hz0 hz1 hz2 v l.length _ hs hown t hx ?_ ?_ ?_ ?_
  · unfold maxLen; omega
  · omega
  · omega
  · intro v' w' h1 h2 _
    refine h v' w' ?_ ((Below.refl B W).grown h2 hB (fun k hk => (World.ownsRow.lt hown k hk).1))
    unfold Ow
    rw [List.length_append, cells_app]
    rw [show Lib.strCells t = Lib.byteCells t.data.toList by rw [← cells_str, str_self]] at h1
    have e : t.data.toList.length = t.size := size_list t
    rw [e]
    exact h1

end Tg
end Go.Proofs.YtpoefoepmigbeaaDoor
