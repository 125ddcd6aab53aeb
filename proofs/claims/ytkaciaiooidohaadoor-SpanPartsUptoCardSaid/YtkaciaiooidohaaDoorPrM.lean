/-
  A marked row of six bytes; appends of bytes.
-/
import Derived.Test.YtkaciaiooidohaaDoorZzN
set_option linter.unusedVariables false
set_option linter.unusedSimpArgs false
namespace Go.Proofs.YtkaciaiooidohaaDoor
open Go.RowKit Go.Shelf
namespace Sn
open Oc Tg Ac

theorem wp_appG2 {ops : Array Oper} {rest : List Oper} {o : Oper} {a : Act} {Q : Exit → Act → World → Prop} (hgd : o.guard = none) (s x : Operand)
    (ho : o.op = .call { callee := .builtin .append, args := #[s, x], argTypes := #[48, 9] }) (B : Nat) (v : Value) (l : List UInt8) (W : World) (y : ByteArray) (m : List UInt8) (hy : y = str m)
    (hs : a.eval s = v) (hown : Own B v l W) (hx : a.eval x = .string y) (hlen : l.length + m.length ≤ 140737488355328) (hB : B ≤ W.heap.size)
    (h : ∀ v' w', Own B v' (l ++ m) w' → Below B W w' → wpList Tryd.prog ops Q rest (a.put o.dst v') w') : wpList Tryd.prog ops Q (o :: rest) a W := by
  subst hy
  obtain ⟨i0, hi, hz0, hz1, hz2⟩ := info5
  refine Lib.wpList_append_own_string _ hgd s x 48 9 ho B 5 i0 Tryd.underlying48 Tryd.underlying9 hi hz0 hz1 hz2 v l.length _ hs hown (str m) hx ?_ ?_ ?_ ?_
  · rw [str_size]; unfold maxLen; omega
  · rw [str_size]; omega
  · exact hB
  · intro v' w' h1 h2 _
    rw [Lib.strCells_eq, str_list, ← Lib.byteCells_append, str_size] at h1
    refine h v' w' ?_ ((Below.refl B W).grown h2 hB (fun k hk => (World.ownsRow.lt hown k hk).1))
    unfold Own
    rw [List.length_append]
    exact h1
theorem own_below {B : Nat} {v : Value} {l : List UInt8} {w w' : World} (h : Own B v l w) (b : Below w.heap.size w w') : Own B v l w' := by
  refine ⟨h.1, ?_⟩
  rcases h.2 with hn | ⟨g, cap, cur, rfl, hb, hg, rest⟩
  · exact .inl hn
  · refine .inr ⟨g, cap, cur, rfl, hb, ?_, rest⟩
    rw [b.block g (Array.getElem?_eq_some_iff.1 hg).1]
    exact hg
theorem own_six (w : World) : Own w.heap.size (.slice (some ⟨w.heap.size, 0, none⟩) 6 6) [98, 121, 116, 101, 115, 61] (w.alloc (.cells #[.int .u8 98, .int .u8 121, .int .u8 116, .int .u8 101, .int .u8 115, .int .u8 61] 5)) :=
  ⟨by simp [Lib.byteCells], .inr ⟨w.heap.size, 6, _, rfl, Nat.le_refl _, heap_alloc_new w _, by decide, by decide, by simp, by simp [Lib.byteCells]⟩⟩
def six : List UInt8 := [98, 121, 116, 101, 115, 61]
def cSix : Array Value := #[.int .u8 98, .int .u8 121, .int .u8 116, .int .u8 101, .int .u8 115, .int .u8 61]
/-- The row that '[]byte("bytes=")' lays: marked. -/
def W6 (w : World) : World := (w.alloc (.cells cSix 5)).freeze ⟨w.heap.size, 6, none⟩ 1
theorem conv_six (w : World) : (convert 48 48 (.slice (some ⟨w.heap.size, 0, none⟩) 6 6)).run Tryd.prog (w.alloc (.cells #[.int .u8 98, .int .u8 121, .int .u8 116, .int .u8 101, .int .u8 115, .int .u8 61] 5)) = .ok (.slice (some ⟨w.heap.size, 0, none⟩) 6 6) (W6 w) := by
  have hs : (w.alloc (.cells cSix 5)).heap[w.heap.size]? = some (.cells cSix 5 (0, 0)) := heap_alloc_new w _
  show (convert 48 48 (.slice (some ⟨w.heap.size, 0, none⟩) 6 6)).run Tryd.prog (w.alloc (.cells cSix 5)) = _
  have h6 : cSix.size = 6 := rfl
  have hsh : (w.alloc (.cells cSix 5)).shape? w.heap.size = some (5, 6) := by unfold World.shape?; rw [hs]; rfl
  simp [convert, run_underlying Tryd.underlying48, run_underlying Tryd.underlying5, Result.andThen, markStringish, hsh, W6]
theorem at_six (w : World) : (W6 w).heap[w.heap.size]? = some (.cells cSix 5 (6, 7)) := by
  have hs : (w.alloc (.cells cSix 5)).heap[w.heap.size]? = some (.cells cSix 5 (0, 0)) := heap_alloc_new w _
  simp [W6, World.freeze, World.alloc, -World.alloc_eq]
  rw [Array.getElem_modify_self]
  simp
theorem cells_six (w : World) : ∀ (j : Nat) (v : Value), (Lib.byteCells six)[j]? = some v → (W6 w).cell? ⟨w.heap.size, j, none⟩ = some v := fun j v hj => by
  have h := Lib.cell_of_heap (at_six w) j
  have e : cSix = (Lib.byteCells six).toArray := by simp [cSix, six, Lib.byteCells]
  rw [h, e, ← hj]
  simp
theorem below_six (w : World) : Below w.heap.size w (W6 w) := Lib.below_freeze ((Below.refl _ w).alloc (Nat.le_refl _) _) (Nat.le_refl _) _
/-- A text appended to that row, which is full: a row of the call's own. -/
theorem wp_six {ops : Array Oper} {rest : List Oper} {o : Oper} {a : Act} {Q : Exit → Act → World → Prop} (hgd : o.guard = none) (s x : Operand)
    (ho : o.op = .call { callee := .builtin .append, args := #[s, x], argTypes := #[48, 9] }) (B g : Nat) (W : World) (y : ByteArray) (m : List UInt8) (hy : y = str m)
    (hs : a.eval s = .slice (some ⟨g, 0, none⟩) 6 6) (hc : ∀ (j : Nat) (v : Value), (Lib.byteCells six)[j]? = some v → W.cell? ⟨g, j, none⟩ = some v) (hx : a.eval x = .string y) (hm : 0 < m.length) (hlen : m.length ≤ 43) (hB : B ≤ W.heap.size)
    (h : ∀ v' w', Own B v' (six ++ m) w' → Below B W w' → wpList Tryd.prog ops Q rest (a.put o.dst v') w') : wpList Tryd.prog ops Q (o :: rest) a W := by
  subst hy
  obtain ⟨i0, hi, hz0, hz1, hz2⟩ := info5
  have hsz : (str m).size = m.length := str_size m
  have hrun := Lib.run_append_grow_string (P := Tryd.prog) (w := W) 48 9 o.type 5 i0 (.int .u8 0) Tryd.underlying48 Tryd.underlying9 hi hz0 ⟨g, 0, none⟩ 6 6 (Lib.byteCells six) (by rw [hz1]; rfl) (fun j v hj => by rw [Addr.add_lit, Nat.zero_add]; exact hc j v hj) (str m) (by omega) (by omega) (by
    rw [hz2]
    have := nextslicecap_le (show 6 < 6 + (str m).size by omega)
    omega)
  have hge := grownCap_ge W (6 + (str m).size) 6 5
  have hcm : grownCap W (6 + (str m).size) 6 5 ≤ maxLen := grownCap_le_maxLen W (6 + (str m).size) 6 5 (by unfold maxLen; omega)
  generalize hcap : grownCap W (6 + (str m).size) 6 5 = cap at *
  have hown : Own B (.slice (some ⟨W.heap.size, 0, none⟩) (6 + (str m).size) cap) (six ++ m) (W.drew.alloc (.cells ((Lib.byteCells six).toArray ++ (Lib.strCells (str m)).toArray ++ Builtin.zeroCells (Value.int .u8 0).cells (cap - (6 + (str m).size))) 5)) := by
    have e : Lib.byteCells (six ++ m) = Lib.byteCells six ++ Lib.strCells (str m) := by rw [Lib.byteCells_append, Lib.strCells_eq, str_list]
    have l6 : (Lib.byteCells six).length = 6 := rfl
    have lm : (Lib.strCells (str m)).length = m.length := by rw [Lib.strCells_length, hsz]
    have ln : (six ++ m).length = 6 + m.length := by rw [List.length_append]; rfl
    refine ⟨by rw [e, List.length_append, l6, lm, ln]; omega, .inr ⟨W.heap.size, cap, _, by rw [ln, hsz], hB, heap_alloc_new W.drew _, by rw [ln]; omega, hcm, ?_, ?_⟩⟩
    · simp only [Array.size_append, List.size_toArray, size_zeroCells, l6, lm]
      have : (Value.int IntKind.u8 0).cells.size = 1 := rfl
      rw [this]
      omega
    · rw [e, ln]
      simp only [Array.toList_append, List.append_assoc]
      rw [← List.append_assoc]
      have : (6 + m.length) * 1 = (Lib.byteCells six ++ Lib.strCells (str m)).length := by rw [List.length_append, l6, lm]; omega
      rw [this]
      exact List.take_left
  have hbel : Below B W (W.drew.alloc (.cells ((Lib.byteCells six).toArray ++ (Lib.strCells (str m)).toArray ++ Builtin.zeroCells (Value.int .u8 0).cells (cap - (6 + (str m).size))) 5)) := (below_drewN (Below.refl B W) 1).alloc hB _
  have := h _ _ hown hbel
  generalize W.drew.alloc (.cells ((Lib.byteCells six).toArray ++ (Lib.strCells (str m)).toArray ++ Builtin.zeroCells (Value.int .u8 0).cells (cap - (6 + (str m).size))) 5) = Wn at *
  refine wpList_plain hgd fun K' hK' => ?_
  unfold Oper.wp
  simp [execOp, ho, resolve, invoke, builtin, hs, hx, hrun, Result.andThen]
  exact hK' _ _ this

end Sn
end Go.Proofs.YtkaciaiooidohaaDoor
