/-
  A slice of ranges of the call's own, as their cells lie.
-/
import Derived.Test.YthfckgdaencagaaGreatDoorMgT
import Derived.Test.YthfckgdaencagaaGreatDoorMgU
import Derived.Test.YthfckgdaencagaaGreatDoorMgV
import Derived.Maps.AppendAt
set_option maxRecDepth 100000
set_option linter.unusedVariables false
set_option linter.unusedSimpArgs false
namespace Go.Proofs.YthfckgdaencagaaGreatDoor
open Go.RowKit Go.Shelf
namespace Ac
open Oc Tg

/-- A range as its cells lie. -/
structure Rw where
  ty : ByteArray
  sub : ByteArray
  a : Option Addr
  n : Nat
  c : Nat
  q : Int
def rw0 : Rw := ⟨⟨#[]⟩, ⟨#[]⟩, none, 0, 0, 0⟩
def nthO (t : List Rw) (j : Nat) : Rw := t.getD j rw0
def encO1 (r : Rw) : List Value := [.string r.ty, .string r.sub, .slice r.a r.n r.c, .int .i64 r.q]
def encO (l : List Rw) : List Value := l.flatMap encO1
theorem encO_snoc (l : List Rw) (r : Rw) : encO (l ++ [r]) = encO l ++ encO1 r := by unfold encO; rw [List.flatMap_append]; simp
def OwnO (T B : Nat) (v : Value) (l : List Rw) (w : World) : Prop := w.ownsRow B T 4 v l.length (encO l)
theorem ownO_nil (T B : Nat) (w : World) : OwnO T B (.slice none 0 0) [] w := World.ownsRow_nil w B T 4
theorem OwnO.below {T B : Nat} {v : Value} {t : List Rw} {w w' : World} (h : OwnO T B v t w) (b : Below w.heap.size w w') : OwnO T B v t w' := by
  refine ⟨h.1, ?_⟩
  rcases h.2 with hn | ⟨g, cap, cur, rfl, hb, hg, rest⟩
  · exact .inl hn
  · refine .inr ⟨g, cap, cur, rfl, hb, ?_, rest⟩
    have hlt : g < w.heap.size := by
      rcases Nat.lt_or_ge g w.heap.size with h | h
      · exact h
      · simp [Array.getElem?_eq_none h] at hg
    rw [b.block g hlt]
    exact hg
theorem OwnO.setBelow {T B : Nat} {v : Value} {t : List Rw} {w : World} (h : OwnO T B v t w) {a : Addr} (ha : a.block < B) (u : Value) : OwnO T B v t (w.setCell a u) := ownsRow_setCell_below h ha u
theorem OwnO.lt {T B : Nat} {v : Value} {t : List Rw} {w : World} (h : OwnO T B v t w) {k : Nat} (e : v.ownBlock = some k) : k < w.heap.size := by
  rcases h.2 with ⟨rfl, _⟩ | ⟨g, cap, cur, rfl, _, hg, _⟩
  · cases e
  · have e' : g = k := by simpa [Value.ownBlock] using e
    subst e'
    rcases Nat.lt_or_ge g w.heap.size with h | h
    · exact h
    · simp [Array.getElem?_eq_none h] at hg
theorem infoO : (Tryz.prog.info? 48).map (fun i => (i.zero, i.size, i.bytes)) = some (some (.agg #[.string ⟨#[]⟩, .string ⟨#[]⟩, .slice none 0 0, .int .i64 0]), 4, 64) := by kernel_rfl

theorem wp_appO {ops : Array Oper} {rest : List Oper} {o : Oper} {a : Act} {Q : Exit → Act → World → Prop} (T S : Nat) (hinfo : (Tryz.prog.info? T).map (fun i => (i.zero, i.size, i.bytes)) = some (some (.agg #[.string ⟨#[]⟩, .string ⟨#[]⟩, .slice none 0 0, .int .i64 0]), 4, 64))
    (hund : Tryz.prog.underlying S = some (.slice T)) (hgd : o.guard = none) (s x : Operand)
    (ho : o.op = .call { callee := .builtin .append, args := #[s, x], argTypes := #[S, S] }) (B : Nat) (v : Value) (t : List Rw) (W : World) (p : Rw)
    (hs : a.eval s = v) (hown : OwnO T B v t W) (g : Nat) (hx : a.eval x = .slice (some ⟨g, 0, none⟩) 1 1) (hg : g = W.heap.size) (hlen : t.length + 1 ≤ 2147483648) (hB : B ≤ W.heap.size)
    (h : ∀ v' w', OwnO T B v' (t ++ [p]) w' → Below B W w' → (∀ k, k < W.heap.size → v.ownBlock ≠ some k → w'.heap[k]? = W.heap[k]?) → wpList Tryz.prog ops Q rest (a.put o.dst v') w') : wpList Tryz.prog ops Q (o :: rest) a (W.alloc (.cells #[.string p.ty, .string p.sub, .slice p.a p.n p.c, .int .i64 p.q] T)) := by
  subst hg
  obtain ⟨i0, hi, hz0, hz1, hz2⟩ := info_parts hinfo
  refine wpList_append_own_at _ hgd s x S ho B T i0 (.agg #[.string ⟨#[]⟩, .string ⟨#[]⟩, .slice none 0 0, .int .i64 0]) 4 64 hund hi hz0 hz1 hz2 rfl (by decide) v t.length _ hs (World.ownsRow.alloc hown _) ⟨W.heap.size, 0, none⟩ 1 1 (encO1 p) hx rfl ?_ ?_ ?_ ?_ ?_ ?_
  · intro j u hj
    unfold encO1 at hj
    match j, hj with
    | 0, hj => simp at hj; subst hj; simp [Addr.add]
    | 1, hj => simp at hj; subst hj; simp [Addr.add]
    | 2, hj => simp at hj; subst hj; simp [Addr.add]
    | 3, hj => simp at hj; subst hj; simp [Addr.add]
  · intro u hu
    unfold encO1 at hu
    simp at hu
    rcases hu with rfl | rfl | rfl | rfl <;> rfl
  · unfold maxLen; omega
  · omega
  · simp; omega
  · intro v' w' h1 h2 _ h4
    refine h v' w' ?_ (((Below.refl B W).alloc hB _).grown h2 (by simp; omega) (fun k hk => (World.ownsRow.lt hown k hk).1)) (fun k hk hne => (h2.block k (by simp; omega) (fun e => hne e.symm)).trans (Lib.alloc_old W _ k hk))
    unfold OwnO
    rw [encO_snoc, List.length_append]
    exact h1

/-- A slice that reads as these ranges' cells. -/
def RdO (v : Value) (t : List Rw) (w : World) : Prop :=
  ∃ a c, v = .slice a t.length c ∧ (t = [] ∨ ∃ g o, a = some ⟨g, o, none⟩ ∧ t.length ≤ c ∧ ∀ j, j < t.length → w.cell? ⟨g, o + j * 4, none⟩ = some (.string (nthO t j).ty) ∧ w.cell? ⟨g, o + j * 4 + 1, none⟩ = some (.string (nthO t j).sub) ∧ w.cell? ⟨g, o + j * 4 + 2, none⟩ = some (.slice (nthO t j).a (nthO t j).n (nthO t j).c) ∧ w.cell? ⟨g, o + j * 4 + 3, none⟩ = some (.int .i64 (nthO t j).q))
theorem encO_at : ∀ (t : List Rw) (j : Nat), j < t.length → (encO t)[j * 4]? = some (.string (nthO t j).ty) ∧ (encO t)[j * 4 + 1]? = some (.string (nthO t j).sub) ∧ (encO t)[j * 4 + 2]? = some (.slice (nthO t j).a (nthO t j).n (nthO t j).c) ∧ (encO t)[j * 4 + 3]? = some (.int .i64 (nthO t j).q)
  | [], j, h => by simp at h
  | p :: t, 0, _ => ⟨rfl, rfl, rfl, rfl⟩
  | p :: t, j + 1, h => by
    have ih := encO_at t j (by simpa using h)
    have e : encO (p :: t) = [.string p.ty, .string p.sub, .slice p.a p.n p.c, .int .i64 p.q] ++ encO t := rfl
    rw [e]
    have n : nthO (p :: t) (j + 1) = nthO t j := by unfold nthO; simp
    rw [n, show (j + 1) * 4 = j * 4 + 4 by omega, show j * 4 + 4 + 1 = (j * 4 + 1) + 4 by omega, show j * 4 + 4 + 2 = (j * 4 + 2) + 4 by omega, show j * 4 + 4 + 3 = (j * 4 + 3) + 4 by omega]
    exact ih
theorem OwnO.rd {T B : Nat} {v : Value} {t : List Rw} {w : World} (h : OwnO T B v t w) : RdO v t w := by
  have hall := h
  rcases h.2 with ⟨rfl, h0⟩ | ⟨g, cap, cur, rfl, _, hg, hn, _⟩
  · exact ⟨none, 0, by rw [h0], .inl (List.length_eq_zero_iff.1 h0)⟩
  · refine ⟨_, _, rfl, .inr ⟨g, 0, rfl, by omega, fun j hj => ?_⟩⟩
    obtain ⟨e0, e1, e2, e3⟩ := encO_at t j hj
    have ea : ∀ k, Addr.add ⟨g, 0, none⟩ k = ⟨g, 0 + k, none⟩ := fun k => by unfold Addr.add; split <;> simp_all
    have c0 := World.ownsRow.cells hall (g := g) rfl _ _ e0
    have c1 := World.ownsRow.cells hall (g := g) rfl _ _ e1
    have c2 := World.ownsRow.cells hall (g := g) rfl _ _ e2
    have c3 := World.ownsRow.cells hall (g := g) rfl _ _ e3
    rw [ea] at c0 c1 c2 c3
    exact ⟨c0, c1, c2, c3⟩
theorem RdO.below {v : Value} {t : List Rw} {w w' : World} (h : RdO v t w) (b : Below w.heap.size w w') : RdO v t w' := by
  obtain ⟨a, c, rfl, h⟩ := h
  refine ⟨a, c, rfl, ?_⟩
  rcases h with h | ⟨g, o, e, hc, hcell⟩
  · exact .inl h
  · refine .inr ⟨g, o, e, hc, fun j hj => ?_⟩
    obtain ⟨h1, h2, h3, h4⟩ := hcell j hj
    exact ⟨(b.cell (World.block_lt_of_cell? w _ h1)).trans h1, (b.cell (World.block_lt_of_cell? w _ h2)).trans h2, (b.cell (World.block_lt_of_cell? w _ h3)).trans h3, (b.cell (World.block_lt_of_cell? w _ h4)).trans h4⟩

/-- How narrow a range is: three numbers. -/
def nrw (m : Md) : Int × Int × Int := (nmd m.sub, nmd m.ty, (m.ps.length : Int))
def nrwO (r : Rw) : Int × Int × Int := (nmd r.sub, nmd r.ty, (r.n : Int))
def metR (m : Md) (r : Rng) : Bool := metM r.md.ty r.md.sub m.ty m.sub r.md.ps m.ps
def kq (r : Rng) : (Int × Int × Int) × Int := (nrw r.md, r.q)
def kqO (r : Rw) : (Int × Int × Int) × Int := (nrwO r, r.q)
/-- Those that are met; the greatest of them; how much is it liked. -/
def mets (t : List Rng) (m : Md) : List ((Int × Int × Int) × Int) := (t.filter (metR m)).map kq
def most (l : List ((Int × Int × Int) × Int)) : Int × Int × Int := l.foldl (fun a r => gr3 a r.1) (0, 0, 0)
def fstQ (x : Int × Int × Int) (l : List ((Int × Int × Int) × Int)) : Int := match l.find? (fun r => decide (r.1 = x)) with | some r => r.2 | none => 0
def likM (t : List Rng) (m : Md) : Int := if t = [] then 1000 else fstQ (most (mets t m)) (mets t m)
theorem mets_snoc_yes {t : List Rng} {m : Md} {k : Nat} (hk : k < t.length) (h : metR m (nthR t k) = true) : mets (t.take (k + 1)) m = mets (t.take k) m ++ [kq (nthR t k)] := by
  unfold mets
  have e : nthR t k = t[k] := by unfold nthR; rw [List.getD_eq_getElem?_getD, List.getElem?_eq_getElem hk]; rfl
  rw [e] at h ⊢
  rw [List.take_add_one, List.getElem?_eq_getElem hk, List.filter_append, List.map_append]
  simp [h]
theorem mets_snoc_no {t : List Rng} {m : Md} {k : Nat} (hk : k < t.length) (h : metR m (nthR t k) = false) : mets (t.take (k + 1)) m = mets (t.take k) m := by
  unfold mets
  have e : nthR t k = t[k] := by unfold nthR; rw [List.getD_eq_getElem?_getD, List.getElem?_eq_getElem hk]; rfl
  rw [e] at h
  rw [List.take_add_one, List.getElem?_eq_getElem hk, List.filter_append, List.map_append]
  simp [h]
theorem most_snoc (l : List ((Int × Int × Int) × Int)) (r : (Int × Int × Int) × Int) : most (l ++ [r]) = gr3 (most l) r.1 := by unfold most; rw [List.foldl_append]; rfl
theorem fstQ_at {x : Int × Int × Int} : ∀ {l : List ((Int × Int × Int) × Int)} {k : Nat}, k < l.length → (∀ j, j < k → (l.getD j ((0, 0, 0), 0)).1 ≠ x) → (l.getD k ((0, 0, 0), 0)).1 = x → fstQ x l = (l.getD k ((0, 0, 0), 0)).2
  | [], k, h, _, _ => by simp at h
  | r :: l, 0, _, _, h => by
    have h' : r.1 = x := h
    unfold fstQ
    rw [List.find?_cons_of_pos (by simp [h'])]
    rfl
  | r :: l, k + 1, hk, hall, h => by
    have h0 : r.1 ≠ x := hall 0 (by omega)
    have ih := fstQ_at (x := x) (l := l) (k := k) (by simpa using hk) (fun j hj => by have := hall (j + 1) (by omega); simpa using this) (by simpa using h)
    have e : fstQ x (r :: l) = fstQ x l := by unfold fstQ; rw [List.find?_cons_of_neg (by simp [h0])]
    rw [e, ih]
    simp
theorem fstQ_none {x : Int × Int × Int} : ∀ {l : List ((Int × Int × Int) × Int)}, (∀ j, j < l.length → (l.getD j ((0, 0, 0), 0)).1 ≠ x) → fstQ x l = 0
  | [], _ => rfl
  | r :: l, hall => by
    have h0 : r.1 ≠ x := hall 0 (by simp)
    have ih := fstQ_none (x := x) (l := l) (fun j hj => by have := hall (j + 1) (by simpa using hj); simpa using this)
    have e : fstQ x (r :: l) = fstQ x l := by unfold fstQ; rw [List.find?_cons_of_neg (by simp [h0])]
    rw [e, ih]
theorem kqO_at {l : List Rw} {j : Nat} (hj : j < l.length) : (l.map kqO).getD j ((0, 0, 0), 0) = kqO (nthO l j) := by
  unfold nthO
  rw [List.getD_eq_getElem?_getD, List.getD_eq_getElem?_getD, List.getElem?_map, List.getElem?_eq_getElem hj]
  rfl

end Ac
end Go.Proofs.YthfckgdaencagaaGreatDoor
