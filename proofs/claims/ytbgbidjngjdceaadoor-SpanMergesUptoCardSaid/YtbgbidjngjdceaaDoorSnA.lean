/-
  span: pairs of numbers in blocks; slices of spans.
-/
import Derived.Test.YtbgbidjngjdceaaDoorALib
import Derived.Test.YtbgbidjngjdceaaDoorSameL
import Derived.Lib.Strings
import Derived.Lib.Builder
import Derived.WalkMore
import Derived.Deep.QuietTactic
import Derived.Maps.AppendAt
set_option linter.unusedVariables false
set_option linter.unusedSimpArgs false
namespace Go.Proofs.YtbgbidjngjdceaaDoor
open Go.RowKit Go.Shelf
namespace Sn
open Oc Tg Ac

/-- A span: its ends. -/
abbrev Sp := Int × Int
def encN1 (p : Sp) : List Value := [.int .i64 p.1, .int .i64 p.2]
def encN (ps : List Sp) : List Value := ps.flatMap encN1
theorem encN_snoc (ps : List Sp) (p : Sp) : encN (ps ++ [p]) = encN ps ++ encN1 p := by unfold encN; rw [List.flatMap_append]; simp
theorem encN_len : ∀ ps : List Sp, (encN ps).length = ps.length * 2
  | [] => rfl
  | p :: ps => by
    have := encN_len ps
    unfold encN at *
    rw [List.flatMap_cons, List.length_append, this, List.length_cons]
    show 2 + _ = _
    omega
/-- A slice of spans (of the type T) of the call's own. -/
def OwnN (T B : Nat) (v : Value) (ps : List Sp) (w : World) : Prop := w.ownsRow B T 2 v ps.length (encN ps)
theorem ownN_nil (T B : Nat) (w : World) : OwnN T B (.slice none 0 0) [] w := World.ownsRow_nil w B T 2
theorem ownN_empty {B : Nat} (T : Nat) (w : World) (hB : B ≤ w.heap.size) : OwnN T B (.slice (some ⟨w.heap.size, 0, none⟩) 0 0) [] (w.alloc (.cells #[] T)) :=
  ⟨by simp [encN], .inr ⟨w.heap.size, 0, #[], rfl, hB, heap_alloc_new w _, by simp, by decide, by simp, by simp [encN]⟩⟩
theorem OwnN.below {T B : Nat} {v : Value} {t : List Sp} {w w' : World} (h : OwnN T B v t w) (b : Below w.heap.size w w') : OwnN T B v t w' := by
  refine ⟨h.1, ?_⟩
  rcases h.2 with hn | ⟨g, cap, cur, rfl, hb, hg, rest⟩
  · exact .inl hn
  · refine .inr ⟨g, cap, cur, rfl, hb, ?_, rest⟩
    have hlt : g < w.heap.size := by
      rcases Nat.lt_or_ge g w.heap.size with h | h
      · exact h
      · simp [Array.getElem?_eq_none h] at hg
    rw [b.block g hlt]
    exact hg
theorem OwnN.mono {T B B' : Nat} {v : Value} {t : List Sp} {w : World} (h : OwnN T B v t w) (hB : B' ≤ B) : OwnN T B' v t w := by
  refine ⟨h.1, ?_⟩
  rcases h.2 with hn | ⟨g, cap, cur, rfl, hb, rest⟩
  · exact .inl hn
  · exact .inr ⟨g, cap, cur, rfl, by omega, rest⟩
theorem OwnN.form {T B : Nat} {v : Value} {t : List Sp} {w : World} (h : OwnN T B v t w) : ∃ a c, v = .slice a t.length c := by
  rcases h.2 with ⟨rfl, h0⟩ | ⟨g, cap, cur, rfl, _⟩
  · exact ⟨none, 0, by rw [h0]⟩
  · exact ⟨_, _, rfl⟩

/-- A span appended to a slice of the call's own. -/
theorem wp_appN {ops : Array Oper} {rest : List Oper} {o : Oper} {a : Act} {Q : Exit → Act → World → Prop} (T S : Nat) (hinfo : (Tryd.prog.info? T).map (fun i => (i.zero, i.size, i.bytes)) = some (some (.agg #[.int .i64 0, .int .i64 0]), 2, 16))
    (hund : Tryd.prog.underlying S = some (.slice T)) (hgd : o.guard = none) (s x : Operand)
    (ho : o.op = .call { callee := .builtin .append, args := #[s, x], argTypes := #[S, S] }) (B : Nat) (v : Value) (t : List Sp) (W : World) (p : Sp) (n1 n2 : Int) (h1 : n1 = p.1) (h2 : n2 = p.2)
    (hs : a.eval s = v) (hown : OwnN T B v t W) (g : Nat) (hx : a.eval x = .slice (some ⟨g, 0, none⟩) 1 1) (hg : g = W.heap.size) (hlen : t.length + 1 ≤ 2147483648) (hB : B ≤ W.heap.size)
    (h : ∀ v' w', OwnN T B v' (t ++ [p]) w' → Below B W w' → wpList Tryd.prog ops Q rest (a.put o.dst v') w') : wpList Tryd.prog ops Q (o :: rest) a (W.alloc (.cells #[.int .i64 n1, .int .i64 n2] T)) := by
  subst h1 h2 hg
  obtain ⟨i0, hi, hz0, hz1, hz2⟩ := info_parts hinfo
  refine wpList_append_own _ hgd s x S ho B T i0 (.agg #[.int .i64 0, .int .i64 0]) 2 16 hund hi hz0 hz1 hz2 rfl (by decide) v t.length _ hs (World.ownsRow.alloc hown _) ⟨W.heap.size, 0, none⟩ 1 1 (encN1 p) hx rfl ?_ ?_ ?_ ?_ ?_ ?_
  · intro j u hj
    unfold encN1 at hj
    match j, hj with
    | 0, hj => simp at hj; subst hj; simp [Addr.add]
    | 1, hj => simp at hj; subst hj; simp [Addr.add]
  · intro u hu
    unfold encN1 at hu
    simp at hu
    rcases hu with rfl | rfl <;> rfl
  · unfold maxLen; omega
  · omega
  · simp; omega
  · intro v' w' h1 h2 _
    refine h v' w' ?_ (((Below.refl B W).alloc hB _).grown h2 (by simp; omega) (fun k hk => (World.ownsRow.lt hown k hk).1))
    unfold OwnN
    rw [encN_snoc, List.length_append]
    exact h1

theorem infoN : (Tryd.prog.info? 44).map (fun i => (i.zero, i.size, i.bytes)) = some (some (.agg #[.int .i64 0, .int .i64 0]), 2, 16) := by kernel_rfl

theorem infoN2 : (Tryd.prog.info? 45).map (fun i => (i.zero, i.size, i.bytes)) = some (some (.agg #[.int .i64 0, .int .i64 0]), 2, 16) := by kernel_rfl

def nthN (t : List Sp) (j : Nat) : Sp := t.getD j (0, 0)
/-- A slice that reads as these spans. -/
def RdN (v : Value) (t : List Sp) (w : World) : Prop :=
  ∃ a c, v = .slice a t.length c ∧ (t = [] ∨ ∃ g o, a = some ⟨g, o, none⟩ ∧ t.length ≤ c ∧ ∀ j, j < t.length → w.cell? ⟨g, o + j * 2, none⟩ = some (.int .i64 (nthN t j).1) ∧ w.cell? ⟨g, o + j * 2 + 1, none⟩ = some (.int .i64 (nthN t j).2))
theorem encN_at : ∀ (t : List Sp) (j : Nat), j < t.length → (encN t)[j * 2]? = some (.int .i64 (nthN t j).1) ∧ (encN t)[j * 2 + 1]? = some (.int .i64 (nthN t j).2)
  | [], j, h => by simp at h
  | p :: t, 0, _ => ⟨rfl, rfl⟩
  | p :: t, j + 1, h => by
    have ih := encN_at t j (by simpa using h)
    have e : encN (p :: t) = [.int .i64 p.1, .int .i64 p.2] ++ encN t := rfl
    rw [e]
    have n : nthN (p :: t) (j + 1) = nthN t j := by unfold nthN; simp
    rw [n, show (j + 1) * 2 = j * 2 + 2 by omega, show j * 2 + 2 + 1 = (j * 2 + 1) + 2 by omega]
    exact ih
theorem OwnN.rd {T B : Nat} {v : Value} {t : List Sp} {w : World} (h : OwnN T B v t w) : RdN v t w := by
  have hall := h
  rcases h.2 with ⟨rfl, h0⟩ | ⟨g, cap, cur, rfl, _, hg, hn, _⟩
  · exact ⟨none, 0, by rw [h0], .inl (List.length_eq_zero_iff.1 h0)⟩
  · refine ⟨_, _, rfl, .inr ⟨g, 0, rfl, by omega, fun j hj => ?_⟩⟩
    obtain ⟨e0, e1⟩ := encN_at t j hj
    have ea : ∀ k, Addr.add ⟨g, 0, none⟩ k = ⟨g, 0 + k, none⟩ := fun k => by unfold Addr.add; split <;> simp_all
    have c0 := World.ownsRow.cells hall (g := g) rfl _ _ e0
    have c1 := World.ownsRow.cells hall (g := g) rfl _ _ e1
    rw [ea] at c0 c1
    exact ⟨c0, c1⟩
theorem RdN.below {v : Value} {t : List Sp} {w w' : World} (h : RdN v t w) (b : Below w.heap.size w w') : RdN v t w' := by
  obtain ⟨a, c, rfl, h⟩ := h
  refine ⟨a, c, rfl, ?_⟩
  rcases h with h | ⟨g, o, e, hc, hcell⟩
  · exact .inl h
  · refine .inr ⟨g, o, e, hc, fun j hj => ?_⟩
    obtain ⟨h1, h2⟩ := hcell j hj
    rw [b.cell (p := ⟨g, o + j * 2, none⟩) (World.block_lt_of_cell? w _ h1), b.cell (p := ⟨g, o + j * 2 + 1, none⟩) (World.block_lt_of_cell? w _ h2)]
    exact ⟨h1, h2⟩

/-- A span lies in a block. -/
def PB (T : Nat) (w : World) (g : Nat) (t : Sp) : Prop := w.heap[g]? = some (.cells #[.int .i64 t.1, .int .i64 t.2] T (0, 0))
theorem PB.c0 {T : Nat} {w : World} {g : Nat} {t : Sp} (h : PB T w g t) : w.cell? ⟨g, 0, none⟩ = some (.int .i64 t.1) := by
  have := Lib.cell_of_heap h 0
  simpa using this
theorem PB.c1 {T : Nat} {w : World} {g : Nat} {t : Sp} (h : PB T w g t) : w.cell? ⟨g, 1, none⟩ = some (.int .i64 t.2) := by
  have := Lib.cell_of_heap h 1
  simpa using this
theorem PB.f {T : Nat} {w : World} {g : Nat} {t : Sp} (h : PB T w g t) (j : Nat) : w.frozen? ⟨g, j, none⟩ = false := Lib.frozen_of_heap h j
theorem PB.lt {T : Nat} {w : World} {g : Nat} {t : Sp} (h : PB T w g t) : g < w.heap.size := by
  rcases Nat.lt_or_ge g w.heap.size with h' | h'
  · exact h'
  · unfold PB at h; simp [Array.getElem?_eq_none h'] at h
theorem PB.set {T : Nat} {w : World} {g : Nat} {t : Sp} (h : PB T w g t) (a b : Int) : PB T ((w.setCell ⟨g, 0, none⟩ (.int .i64 a)).setCell ⟨g, 1, none⟩ (.int .i64 b)) g (a, b) := by
  unfold PB at h ⊢
  simp [World.setCell, Array.getElem?_modify, h]
theorem PB.other {T : Nat} {w : World} {g : Nat} {t : Sp} (h : PB T w g t) {p : Addr} (hp : p.block ≠ g) (v : Value) : PB T (w.setCell p v) g t := by
  unfold PB at h ⊢
  simp [World.setCell, Array.getElem?_modify, h, hp]
theorem PB.below {T : Nat} {w w' : World} {g : Nat} {t : Sp} (h : PB T w g t) (b : Below w.heap.size w w') : PB T w' g t := by
  unfold PB at *
  rw [b.block g (PB.lt h)]
  exact h
theorem PB.new (T : Nat) (w : World) (x : Sp) : PB T (w.alloc (.cells #[.int .i64 x.1, .int .i64 x.2] T)) w.heap.size x := heap_alloc_new w _
theorem PB.alloc {T : Nat} {w : World} {g : Nat} {t : Sp} (h : PB T w g t) (o : Obj) : PB T (w.alloc o) g t := h.below ((Below.refl _ w).alloc (Nat.le_refl _) _)

end Sn
end Go.Proofs.YtbgbidjngjdceaaDoor
