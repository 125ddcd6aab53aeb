/-
  The document's Join.
-/
import Derived.Test.YthdepdgmlngafabDoorRQuote
import Derived.Test.YthdepdgmlngafabDoorSameL
import Derived.Test.YthdepdgmlngafabDoorJPlain
set_option linter.unusedVariables false
set_option linter.unusedSimpArgs false
namespace Go.Proofs.YthdepdgmlngafabDoor
open Go.RowKit Go.Shelf
namespace Oc

theorem own_none (B : Nat) (w : World) (hB : B ≤ w.heap.size) : Own B (.slice (some ⟨w.heap.size, 0, none⟩) 0 0) [] (w.alloc (.cells #[] 5)) :=
  ⟨by simp [Lib.byteCells], .inr ⟨w.heap.size, 0, #[], rfl, hB, heap_alloc_new w _, by simp, by decide, by simp, by simp [Lib.byteCells]⟩⟩
/-- A text appended to a slice of bytes of the call's own. -/
theorem wp_appT {ops : Array Oper} {rest : List Oper} {o : Oper} {a : Act} {Q : Exit → Act → World → Prop} (hgd : o.guard = none) (s x : Operand)
    (ho : o.op = .call { callee := .builtin .append, args := #[s, x], argTypes := #[60, 9] }) (B : Nat) (v : Value) (l : List UInt8) (W : World) (y : ByteArray) (m : List UInt8) (hy : y = str m)
    (hs : a.eval s = v) (hown : Own B v l W) (hx : a.eval x = .string y) (hlen : l.length + m.length ≤ 140737488355328) (hB : B ≤ W.heap.size)
    (h : ∀ v' w', Own B v' (l ++ m) w' → Below B W w' → wpList Tryd.prog ops Q rest (a.put o.dst v') w') : wpList Tryd.prog ops Q (o :: rest) a W := by
  subst hy
  obtain ⟨i0, hi, hz0, hz1, hz2⟩ := info5
  refine Lib.wpList_append_own_string _ hgd s x 60 9 ho B 5 i0 Tryd.underlying60 Tryd.underlying9 hi hz0 hz1 hz2 v l.length _ hs hown (str m) hx ?_ ?_ ?_ ?_
  · rw [str_size]; unfold maxLen; omega
  · rw [str_size]; omega
  · exact hB
  · intro v' w' h1 h2 _
    rw [Lib.strCells_eq, str_list, ← Lib.byteCells_append, str_size] at h1
    refine h v' w' ?_ ((Below.refl B W).grown h2 hB (fun k hk => (World.ownsRow.lt hown k hk).1))
    unfold Own
    rw [List.length_append]
    exact h1

set_option maxRecDepth 100000 in
set_option maxHeartbeats 1000000 in
theorem rJoin_any (v : Value) (t : List (List UInt8)) (w : World) (h : RdS v t w) (hl : t.length ≤ 33554432) (hJ : sumL t ≤ 33554432) :
    Calls Tryd.prog 16 #[v] w fun e w' => e = .returned (.string (str (joinF t))) ∧ Below w.heap.size w w' := by
  obtain ⟨a, c, rfl, h⟩ := h
  have HR : Hid (t = [] ∨ ∃ g o, a = some ⟨g, o, none⟩ ∧ t.length ≤ c ∧ ∀ j, j < t.length → w.cell? ⟨g, o + j, none⟩ = some (.string (str (t.getD j [])))) := h
  have HJ : Hid (∀ k, (jp t k).length ≤ 134217728) := fun k => by have := jp_len t k; omega
  clear h hJ
  go_enter Tryd.func16, Tryd.ntmps16
  go_wp2
  go_loopw [3, 4] (fun ov i wr => ∃ k : Nat, k ≤ t.length ∧ i = .int .i64 k ∧ Hid (Own w.heap.size ov (jp t k) wr) ∧ Hid (Below w.heap.size w wr)) (fun _ i _ => t.length - (intOf i).toNat)
  case atStart => exact ⟨0, Nat.zero_le _, rfl, own_none _ w (Nat.le_refl _), (Below.refl _ w).alloc (Nat.le_refl _) _⟩
  case round =>
    rename_i ov
    obtain ⟨k, hk, rfl, hown, hbl⟩ := hrel
    have hsz := hbl.out.size
    by_cases hlt : k < t.length
    · rcases HR.out with h | ⟨g, o, rfl, hc, hcell⟩
      · rw [h] at hlt; simp at hlt
      have hcy : wr.cell? ⟨g, o + k, none⟩ = some (.string (str (t.getD k []))) := by
        rw [hbl.out.cell (p := ⟨g, o + k, none⟩) (World.block_lt_of_cell? w _ (hcell k hlt))]
        exact hcell k hlt
      have hg := World.block_lt_of_cell? w _ (hcell k hlt)
      have hcells := hcell k hlt
      clear hcell
      by_cases h0 : 0 < k
      · have HN : Hid (jp t (k + 1) = jp t k ++ [44, 32] ++ t.getD k []) := jp_succ t k hlt h0
        have hl1 := HJ.out (k + 1)
        rw [HN.out, List.length_append, List.length_append] at hl1
        have hl4 : [(44 : UInt8), 32].length = 2 := rfl
        have hl2 : (jp t k ++ [44, 32]).length = (jp t k).length + 2 := by rw [List.length_append]; rfl
        rw [hl4] at hl1
        have HA1 : Hid ((jp t k).length + [(44 : UInt8), 32].length ≤ 140737488355328) := (by rw [hl4]; omega : (jp t k).length + [(44 : UInt8), 32].length ≤ 140737488355328)
        have HA2 : Hid ((jp t k ++ [44, 32]).length + (t.getD k []).length ≤ 140737488355328) := (by omega : (jp t k ++ [44, 32]).length + (t.getD k []).length ≤ 140737488355328)
        clear hl1 hl2 hl4
        generalize t.getD k [] = y at *
        go_wp2_with (at_builtin; go_must (refine wp_appT rfl (.tmp 14) (.const (.string ⟨#[44, 32]⟩)) rfl w.heap.size _ (jp t k) _ _ [44, 32] rfl rfl hown.out rfl HA1.out hsz ?_))
        intro v3 w3 hown3 hbl3
        have HO3 : Hid (Own w.heap.size v3 (jp t k ++ [44, 32]) w3) := hown3
        have HB3 : Hid (Below w.heap.size w w3) := hbl.out.trans hbl3
        have hsz3 := HB3.out.size
        have hcz : w3.cell? ⟨g, o + k, none⟩ = some (.string (str y)) := (HB3.out.cell (p := ⟨g, o + k, none⟩) hg).trans hcells
        clear hown3 hbl3 hcy
        go_wp2_with (at_builtin; go_must (refine wp_appT rfl (.tmp 16) (.tmp 20) rfl w.heap.size _ (jp t k ++ [44, 32]) _ _ y rfl rfl HO3.out rfl HA2.out hsz3 ?_))
        intro v4 w4 hown4 hbl4
        have HO4 : Hid (Own w.heap.size v4 (jp t (k + 1)) w4) := (by rw [HN.out]; simpa using hown4 : Own w.heap.size v4 (jp t (k + 1)) w4)
        have HB4 : Hid (Below w.heap.size w w4) := HB3.out.trans hbl4
        clear hown4 hbl4
        go_wp2
        go_roundw
        case rel => exact ⟨k + 1, by omega, by go_num, HO4, HB4⟩
        case measure => simp [intOf]; omega
      · have HN : Hid (jp t (k + 1) = jp t k ++ t.getD k []) := (by
          obtain rfl : k = 0 := by omega
          exact jp_one t hlt : jp t (k + 1) = jp t k ++ t.getD k [])
        have hl1 := HJ.out (k + 1)
        rw [HN.out, List.length_append] at hl1
        have HA1 : Hid ((jp t k).length + (t.getD k []).length ≤ 140737488355328) := (by omega : (jp t k).length + (t.getD k []).length ≤ 140737488355328)
        clear hl1
        generalize t.getD k [] = y at *
        go_wp2_with (at_builtin; go_must (refine wp_appT rfl (.tmp 16) (.tmp 20) rfl w.heap.size _ (jp t k) _ _ y rfl rfl hown.out rfl HA1.out hsz ?_))
        intro v4 w4 hown4 hbl4
        have HO4 : Hid (Own w.heap.size v4 (jp t (k + 1)) w4) := (by rw [HN.out]; simpa using hown4 : Own w.heap.size v4 (jp t (k + 1)) w4)
        have HB4 : Hid (Below w.heap.size w w4) := hbl.out.trans hbl4
        clear hown4 hbl4
        go_wp2
        go_roundw
        case rel => exact ⟨k + 1, by omega, by go_num, HO4, HB4⟩
        case measure => simp [intOf]; omega
    · obtain rfl : k = t.length := by omega
      have HO := hown.out
      rw [jp_all] at HO
      have hconv := own_back HO
      clear HO hown
      go_wp2
      go_ret
      exact ⟨rfl, hbl.out⟩

end Oc
end Go.Proofs.YthdepdgmlngafabDoor
