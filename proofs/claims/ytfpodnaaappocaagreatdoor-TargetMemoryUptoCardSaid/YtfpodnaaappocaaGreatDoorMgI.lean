/- Several texts as one. -/
import Derived.Test.YtfpodnaaappocaaGreatDoorMgE
import Derived.Test.YtfpodnaaappocaaGreatDoorMgG
import Derived.Test.YtfpodnaaappocaaGreatDoorMgF
import Derived.Test.YtfpodnaaappocaaGreatDoorMgH
/-
  octet.Trim, by strings.Trim.
-/
set_option linter.unusedVariables false
set_option linter.unusedSimpArgs false
namespace Go.Proofs.YtfpodnaaappocaaGreatDoor
open Go.RowKit Go.Shelf Go.Lib
namespace Oc

end Oc
end Go.Proofs.YtfpodnaaappocaaGreatDoor

/-
  Slices of texts of the call's own; octet.List.
-/
set_option linter.unusedVariables false
set_option linter.unusedSimpArgs false
namespace Go.Proofs.YtfpodnaaappocaaGreatDoor
open Go.RowKit Go.Shelf
namespace Oc

def encS (t : List (List UInt8)) : List Value := t.map fun l => .string (str l)
/-- A slice of texts of the call's own. -/
def OwnS (B : Nat) (v : Value) (t : List (List UInt8)) (w : World) : Prop := w.ownsRow B 9 1 v t.length (encS t)
theorem ownS_nil (B : Nat) (w : World) : OwnS B (.slice none 0 0) [] w := World.ownsRow_nil w B 9 1
theorem ownS_empty (w : World) : OwnS w.heap.size (.slice (some ⟨w.heap.size, 0, none⟩) 0 0) [] (w.alloc (.cells #[] 9)) :=
  ⟨by simp [encS], .inr ⟨w.heap.size, 0, #[], rfl, Nat.le_refl _, heap_alloc_new w _, by simp, by decide, by simp, by simp [encS]⟩⟩
theorem OwnS.lower {B B' : Nat} {v : Value} {t : List (List UInt8)} {w : World} (h : OwnS B v t w) (hB : B' ≤ B) : OwnS B' v t w := by
  refine ⟨h.1, ?_⟩
  rcases h.2 with hn | ⟨g, cap, cur, rfl, hb, rest⟩
  · exact .inl hn
  · exact .inr ⟨g, cap, cur, rfl, by omega, rest⟩
theorem OwnS.below {B : Nat} {v : Value} {t : List (List UInt8)} {w w' : World} (h : OwnS B v t w) (b : Below w.heap.size w w') : OwnS B v t w' := by
  refine ⟨h.1, ?_⟩
  rcases h.2 with hn | ⟨g, cap, cur, rfl, hb, hg, rest⟩
  · exact .inl hn
  · refine .inr ⟨g, cap, cur, rfl, hb, ?_, rest⟩
    have hlt : g < w.heap.size := by
      rcases Nat.lt_or_ge g w.heap.size with h | h
      · exact h
      · simp [Array.getElem?_eq_none h] at hg
    rw [b.block g hlt]
    exact hg
theorem OwnS.form {B : Nat} {v : Value} {t : List (List UInt8)} {w : World} (h : OwnS B v t w) : ∃ a c, v = .slice a t.length c := by
  rcases h.2 with ⟨rfl, h0⟩ | ⟨g, cap, cur, rfl, _⟩
  · exact ⟨none, 0, by rw [h0]⟩
  · exact ⟨_, _, rfl⟩
theorem OwnS.cell {B : Nat} {t : List (List UInt8)} {w : World} {a : Option Addr} {c : Nat} (h : OwnS B (.slice a t.length c) t w) (j : Nat) (hj : j < t.length) :
    ∃ g, a = some ⟨g, 0, none⟩ ∧ t.length ≤ c ∧ w.cell? ⟨g, j, none⟩ = some (.string (str (t.getD j []))) := by
  rcases h.2 with ⟨hv, h0⟩ | ⟨g, cap, cur, hv, _, hg, hn, _, hsz, htake⟩
  · omega
  · injection hv with e1 e2 e3
    refine ⟨g, e1, by omega, ?_⟩
    have hc := World.ownsRow.cells h (g := g) (by rw [e1]; rfl) j (.string (str (t.getD j []))) (by
      unfold encS
      rw [List.getElem?_map, List.getElem?_eq_getElem hj, List.getD_eq_getElem?_getD, List.getElem?_eq_getElem hj]
      rfl)
    have ea : Addr.add ⟨g, 0, none⟩ j = ⟨g, j, none⟩ := by unfold Addr.add; split <;> simp_all
    rw [ea] at hc
    exact hc

theorem infoStr : (Tryz.prog.info? 9).map (fun i => (i.zero, i.size, i.bytes)) = some (some (.string ⟨#[]⟩), 1, 16) := by kernel_rfl
theorem infoS : ∃ i, Tryz.prog.info? 9 = some i ∧ i.zero = some (.string ⟨#[]⟩) ∧ i.size = 1 ∧ i.bytes = 16 := by
  obtain ⟨i0, hi, hz0, hz1, hz2⟩ := info_parts infoStr
  exact ⟨i0, hi, hz0, hz1, hz2⟩
/-- A text appended to a slice of the call's own. -/
theorem wp_appS {ops : Array Oper} {rest : List Oper} {o : Oper} {a : Act} {Q : Exit → Act → World → Prop} (hgd : o.guard = none) (s x : Operand)
    (ho : o.op = .call { callee := .builtin .append, args := #[s, x], argTypes := #[22, 22] }) (B : Nat) (v : Value) (t : List (List UInt8)) (W : World) (l : List UInt8)
    (hs : a.eval s = v) (hown : OwnS B v t W) (hx : a.eval x = .slice (some ⟨W.heap.size, 0, none⟩) 1 1) (hlen : t.length + 1 ≤ 4294967296) (hB : B ≤ W.heap.size)
    (h : ∀ v' w', OwnS B v' (t ++ [l]) w' → Below B W w' → wpList Tryz.prog ops Q rest (a.put o.dst v') w') : wpList Tryz.prog ops Q (o :: rest) a (W.alloc (.cells #[.string (str l)] 9)) := by
  obtain ⟨i0, hi, hz0, hz1, hz2⟩ := infoS
  refine wpList_append_own _ hgd s x 22 ho B 9 i0 (.string ⟨#[]⟩) 1 16 Tryz.underlying22 hi hz0 hz1 hz2 rfl (by decide) v t.length _ hs (World.ownsRow.alloc hown _) ⟨W.heap.size, 0, none⟩ 1 1 [.string (str l)] hx rfl ?_ ?_ ?_ ?_ ?_ ?_
  · intro j u hj
    match j, hj with
    | 0, hj => simp at hj; subst hj; simp [Addr.add]
  · intro u hu; simp at hu; subst hu; rfl
  · unfold maxLen; omega
  · omega
  · simp; omega
  · intro v' w' h1 h2 _
    refine h v' w' ?_ (((Below.refl B W).alloc hB _).grown h2 (by simp; omega) (fun k hk => (World.ownsRow.lt hown k hk).1))
    unfold OwnS
    rw [List.length_append]
    simpa [encS] using h1

theorem str_empty (l : List UInt8) : (str l).toList.isEmpty = decide (l = []) := by
  rw [ByteArray.toList_eq, str_list]
  cases l <;> simp

end Oc
end Go.Proofs.YtfpodnaaappocaaGreatDoor
