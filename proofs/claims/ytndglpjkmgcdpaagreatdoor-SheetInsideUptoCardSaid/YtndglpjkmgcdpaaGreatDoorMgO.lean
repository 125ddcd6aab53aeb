/- Several texts as one. -/
import Derived.Test.YtndglpjkmgcdpaaGreatDoorMgN
import Derived.Test.YtndglpjkmgcdpaaGreatDoorMgL
import Derived.Test.YtndglpjkmgcdpaaGreatDoorMgB
import Derived.Maps.OwnSet
/-
  Texts held against texts: the law's own 'same'.
-/
set_option linter.unusedVariables false
set_option linter.unusedSimpArgs false
namespace Go.Proofs.YtndglpjkmgcdpaaGreatDoor
open Go.RowKit Go.Shelf
namespace Oc

/-- A slice that reads as these texts. -/
def RdS (v : Value) (t : List (List UInt8)) (w : World) : Prop :=
  ∃ a c, v = .slice a t.length c ∧ (t = [] ∨ ∃ g o, a = some ⟨g, o, none⟩ ∧ t.length ≤ c ∧ ∀ j, j < t.length → w.cell? ⟨g, o + j, none⟩ = some (.string (str (t.getD j []))))
theorem OwnS.rd {B : Nat} {v : Value} {t : List (List UInt8)} {w : World} (h : OwnS B v t w) : RdS v t w := by
  obtain ⟨a, c, rfl⟩ := h.form
  refine ⟨a, c, rfl, ?_⟩
  cases t with
  | nil => exact .inl rfl
  | cons x t =>
    right
    obtain ⟨g, e, hc, _⟩ := h.cell 0 (by simp)
    refine ⟨g, 0, e, hc, fun j hj => ?_⟩
    obtain ⟨g', e', _, hcell⟩ := h.cell j hj
    rw [e] at e'
    injection e' with e'
    injection e' with e1
    subst e1
    rw [Nat.zero_add]
    exact hcell
theorem RdS.below {v : Value} {t : List (List UInt8)} {w w' : World} (h : RdS v t w) (b : Below w.heap.size w w') : RdS v t w' := by
  obtain ⟨a, c, rfl, h⟩ := h
  refine ⟨a, c, rfl, ?_⟩
  rcases h with h | ⟨g, o, e, hc, hcell⟩
  · exact .inl h
  · refine .inr ⟨g, o, e, hc, fun j hj => ?_⟩
    have h1 := hcell j hj
    rw [b.cell (p := ⟨g, o + j, none⟩) (World.block_lt_of_cell? w _ h1)]
    exact h1

theorem drawn_again (w : World) (n m : Nat) : Hid (∃ k, w.drewN (n + m) = w.drewN k) := ⟨_, rfl⟩
theorem drawn_twice (w : World) (n m : Nat) : ∃ k, (w.drewN n).drewN m = w.drewN k := ⟨n + m, World.drewN_drewN ..⟩

end Oc
end Go.Proofs.YtndglpjkmgcdpaaGreatDoor

/-
  Parameters held against parameters: the law's own 'alike'.
-/
set_option linter.unusedVariables false
set_option linter.unusedSimpArgs false
namespace Go.Proofs.YtndglpjkmgcdpaaGreatDoor
open Go.RowKit Go.Shelf
namespace Oc

def nth (t : List Prm) (j : Nat) : Prm := t.getD j ([], [], false)
/-- A slice that reads as these parameters. -/
def RdP (v : Value) (t : List Prm) (w : World) : Prop :=
  ∃ a c, v = .slice a t.length c ∧ (t = [] ∨ ∃ g o, a = some ⟨g, o, none⟩ ∧ t.length ≤ c ∧ ∀ j, j < t.length → w.cell? ⟨g, o + j * 3, none⟩ = some (.string (str (nth t j).1)) ∧ w.cell? ⟨g, o + j * 3 + 1, none⟩ = some (.string (str (nth t j).2.1)) ∧ w.cell? ⟨g, o + j * 3 + 2, none⟩ = some (.bool (nth t j).2.2))
theorem encP_at : ∀ (t : List Prm) (j : Nat), j < t.length → (encP t)[j * 3]? = some (.string (str (nth t j).1)) ∧ (encP t)[j * 3 + 1]? = some (.string (str (nth t j).2.1)) ∧ (encP t)[j * 3 + 2]? = some (.bool (nth t j).2.2)
  | [], j, h => by simp at h
  | p :: t, 0, _ => ⟨rfl, rfl, rfl⟩
  | p :: t, j + 1, h => by
    have ih := encP_at t j (by simpa using h)
    have e : encP (p :: t) = [.string (str p.1), .string (str p.2.1), .bool p.2.2] ++ encP t := rfl
    rw [e]
    have n : nth (p :: t) (j + 1) = nth t j := by unfold nth; simp
    rw [n, show (j + 1) * 3 = j * 3 + 3 by omega, show j * 3 + 3 + 1 = (j * 3 + 1) + 3 by omega, show j * 3 + 3 + 2 = (j * 3 + 2) + 3 by omega]
    exact ih
theorem OwnP.rd {T B : Nat} {v : Value} {t : List Prm} {w : World} (h : OwnP T B v t w) : RdP v t w := by
  have hall := h
  rcases h.2 with ⟨rfl, h0⟩ | ⟨g, cap, cur, rfl, _, hg, hn, _⟩
  · exact ⟨none, 0, by rw [h0], .inl (List.length_eq_zero_iff.1 h0)⟩
  · refine ⟨_, _, rfl, .inr ⟨g, 0, rfl, by omega, fun j hj => ?_⟩⟩
    obtain ⟨e0, e1, e2⟩ := encP_at t j hj
    have ea : ∀ k, Addr.add ⟨g, 0, none⟩ k = ⟨g, 0 + k, none⟩ := fun k => by unfold Addr.add; split <;> simp_all
    have c0 := World.ownsRow.cells hall (g := g) rfl _ _ e0
    have c1 := World.ownsRow.cells hall (g := g) rfl _ _ e1
    have c2 := World.ownsRow.cells hall (g := g) rfl _ _ e2
    rw [ea] at c0 c1 c2
    exact ⟨c0, c1, c2⟩
theorem RdP.below {v : Value} {t : List Prm} {w w' : World} (h : RdP v t w) (b : Below w.heap.size w w') : RdP v t w' := by
  obtain ⟨a, c, rfl, h⟩ := h
  refine ⟨a, c, rfl, ?_⟩
  rcases h with h | ⟨g, o, e, hc, hcell⟩
  · exact .inl h
  · refine .inr ⟨g, o, e, hc, fun j hj => ?_⟩
    obtain ⟨h1, h2, h3⟩ := hcell j hj
    rw [b.cell (p := ⟨g, o + j * 3, none⟩) (World.block_lt_of_cell? w _ h1), b.cell (p := ⟨g, o + j * 3 + 1, none⟩) (World.block_lt_of_cell? w _ h2), b.cell (p := ⟨g, o + j * 3 + 2, none⟩) (World.block_lt_of_cell? w _ h3)]
    exact ⟨h1, h2, h3⟩

theorem pgo_short : ∀ (f : Nat) (r : List UInt8) (y : List Prm × Nat), pgo f r = some y → y.1.length ≤ r.length
  | 0, r, y, h => by cases h
  | f + 1, r, y, h => by
    rw [pgo] at h
    cases hp : pstep r with
    | none => rw [hp] at h; cases h
    | some o =>
      rw [hp] at h
      cases o with
      | none => cases h; exact Nat.zero_le _
      | some x =>
        have hx := pstep_le r x hp
        obtain ⟨z, hz, e⟩ := Option.map_eq_some_iff.1 h
        have ih := pgo_short f _ z hz
        rw [List.length_drop] at ih
        cases e
        show (x.2 ++ z.1).length ≤ _
        rw [List.length_append]
        omega
theorem paramsR_short (l : List UInt8) : (paramsR l).1.length ≤ l.length := by
  unfold paramsR
  cases h : prm l with
  | none => exact Nat.zero_le _
  | some y => exact pgo_short _ _ _ h

end Oc
end Go.Proofs.YtndglpjkmgcdpaaGreatDoor

/-
  A set of texts that the call makes, its size; sheet.lowerNames.
-/
set_option linter.unusedVariables false
set_option linter.unusedSimpArgs false
namespace Go.Proofs.YtndglpjkmgcdpaaGreatDoor
open Go.RowKit Go.Shelf
namespace Ds
open Oc

def litS (x : List UInt8) : Lit := .string x
def setS (L : List (List UInt8)) : DataW Unit := Maps.setOf (.agg []) (L.map litS)
/-- Block B is a map whose keys are L. -/
def MS (B n : Nat) (L : List (List UInt8)) (w : World) : Prop := w.ownsMap Tryz.prog 9 (unitElem (H := Unit)) B n (setS L)
theorem lawS : Maps.Keyed Tryz.prog 9 := Maps.string_keyed Tryz.underlying9
theorem keyS (x : List UInt8) (h : x.length ≤ maxLen) : keyOf Tryz.prog 9 (.string (str x)) = some (litS x) := by
  have := WideMaps.keyOf_string_mk (P := Tryz.prog) Tryz.underlying9 (s := str x) (by rw [str_size]; exact h)
  rw [str_list] at this
  exact this
theorem same_litS (x y : List UInt8) : (litS x).sameKey (litS y) = (x == y) := rfl
theorem setS_snoc (L : List (List UInt8)) (x : List UInt8) : setS (L ++ [x]) = (setS L).put (litS x) (.agg []) := by
  unfold setS
  rw [List.map_append, List.map_singleton, Maps.setOf_snoc]
theorem MS.below {B n : Nat} {L : List (List UInt8)} {w w' : World} (h : MS B n L w) (b : Below w.heap.size w w') : MS B n L w' := by
  obtain ⟨es, clock, hb, r⟩ := h
  exact ⟨es, clock, (b.block _ (Array.getElem?_eq_some_iff.1 hb).1).trans hb, r⟩
theorem MS.keep {B n : Nat} {L : List (List UInt8)} {w w' : World} (h : MS B n L w) (hb : w'.heap[B]? = w.heap[B]?) : MS B n L w' := by
  obtain ⟨es, clock, h1, r⟩ := h
  exact ⟨es, clock, hb.trans h1, r⟩
theorem MS.lt {B n : Nat} {L : List (List UInt8)} {w : World} (h : MS B n L w) : B < w.heap.size := World.ownsMap.lt h
theorem wp_put {ops : Array Oper} {rest : List Oper} {o : Oper} {a : Act} {Q : Exit → Act → World → Prop} (w : World) (hg : o.guard = none) (m x v : Operand) (hop : o.op = Op.mapUpdate 229 m x v)
    (B n : Nat) (L : List (List UInt8)) (hm : a.eval m = .map (some B)) (h : MS B n L w) (hn : n < maxLen) (k : List UInt8) (hk : k.length ≤ maxLen) (s : ByteArray) (hs : s = str k) (hx : a.eval x = .string s) (hv : a.eval v = .agg #[])
    (hK : ∀ w', Hid (MS B (n + 1) (L ++ [k]) w') → Hid (w.mapTurned w' B) → wpList Tryz.prog ops Q rest (a.put o.dst undef) w') : wpList Tryz.prog ops Q (o :: rest) a w := by
  refine wpList_plain hg fun K' hK' => ?_
  obtain ⟨w', hrun, r1, r2⟩ := World.ownsMap.store (t := 229) h lawS Tryz.underlying229 hn (keyS k hk) unitElem_mk
  rw [← setS_snoc] at r1
  subst hs
  unfold Oper.wp
  simp [execOp, hop, hm, hx, hv, hrun, Result.andThen]
  exact hK' _ _ (hK w' r1 r2)
theorem turned_block {w w' : World} {B : Nat} (h : w.mapTurned w' B) (k : Nat) (hk : k ≠ B) : w'.heap[k]? = w.heap[k]? := by
  obtain ⟨es, clock, es', clock', hb, rfl⟩ := h
  exact ChangeMaps.heap_setBlock_other hb (.map es' clock') hk
theorem turned_below {n : Nat} {w0 w w' : World} {B : Nat} (hb : Below n w0 w) (hn : n ≤ w.heap.size) (hB : n ≤ B) (h : w.mapTurned w' B) : Below n w0 w' := hb.grown h.grown hn (fun k hk => by cases hk; exact hB)
theorem OwnP.keepB {T B : Nat} {v : Value} {t : List Prm} {w w' : World} {C : Nat} (h : OwnP T B v t w) (hv : v.ownBlock ≠ some C) (hk : ∀ k, k < w.heap.size → k ≠ C → w'.heap[k]? = w.heap[k]?) : OwnP T B v t w' := by
  refine ⟨h.1, ?_⟩
  rcases h.2 with hn | ⟨g, cap, cur, rfl, hb, hg, rest⟩
  · exact .inl hn
  · refine .inr ⟨g, cap, cur, rfl, hb, ?_, rest⟩
    rw [hk g (Array.getElem?_eq_some_iff.1 hg).1 (fun e => hv (by rw [e]; rfl))]
    exact hg

/-- How many different ones there are. -/
theorem addKey_len : ∀ (L : List (List UInt8)) (acc : List (List UInt8)), ((L.map litS).foldl Maps.addKey (acc.map litS)).length ≤ acc.length + L.length
  | [], acc => by simp
  | x :: r, acc => by
    rw [List.map_cons, List.foldl_cons]
    unfold Maps.addKey
    split
    · have := addKey_len r acc; unfold Maps.addKey at this; rw [List.length_cons]; omega
    · have := addKey_len r (acc ++ [x])
      rw [List.map_append, List.length_append] at this
      unfold Maps.addKey at this
      simp at this ⊢
      omega
theorem any_same (acc : List (List UInt8)) (x : List UInt8) : ((acc.map litS).any fun y => y.sameKey (litS x)) = acc.contains x := by
  induction acc with
  | nil => rfl
  | cons a r ih =>
    rw [List.map_cons, List.any_cons, ih, same_litS, List.contains_cons, Bool.beq_comm]
def apartFrom (acc L : List (List UInt8)) : Bool := noTwo L && L.all fun x => !acc.contains x
theorem size_noTwo : ∀ (L : List (List UInt8)) (acc : List (List UInt8)), ((L.map litS).foldl Maps.addKey (acc.map litS)).length = acc.length + L.length ↔ apartFrom acc L = true
  | [], acc => by simp [apartFrom, noTwo]
  | x :: r, acc => by
    rw [List.map_cons, List.foldl_cons]
    have e : Maps.addKey (acc.map litS) (litS x) = if acc.contains x then acc.map litS else (acc ++ [x]).map litS := by
      unfold Maps.addKey
      rw [any_same]
      split <;> simp
    rw [e]
    cases hx : acc.contains x with
    | true =>
      rw [if_pos rfl]
      have := addKey_len r acc
      constructor
      · intro h; rw [List.length_cons] at h; omega
      · intro h; unfold apartFrom at h; rw [List.all_cons, hx] at h; simp at h
    | false =>
      rw [if_neg (by simp), show acc.length + (x :: r).length = (acc ++ [x]).length + r.length by simp; omega, size_noTwo r (acc ++ [x])]
      unfold apartFrom
      rw [List.all_cons, hx, noTwo]
      rw [Bool.eq_iff_iff.symm]
      have h2 : (r.all fun y => !(acc ++ [x]).contains y) = ((r.all fun y => !acc.contains y) && !r.contains x) := by
        clear e hx
        induction r with
        | nil => rfl
        | cons y r ih =>
          rw [List.all_cons, List.all_cons, ih, List.contains_cons]
          have : (acc ++ [x]).contains y = (acc.contains y || (x == y)) := by
            rw [List.contains_eq_any_beq, List.contains_eq_any_beq, List.any_append]
            simp [Bool.beq_comm]
          rw [this]
          cases acc.contains y <;> cases (x == y) <;> simp [Bool.and_comm]
      rw [h2]
      cases noTwo r <;> cases (r.all fun y => !acc.contains y) <;> cases r.contains x <;> rfl
theorem set_len (L : List (List UInt8)) : (Maps.size (setS L) = L.length) ↔ noTwo L = true := by
  unfold setS
  rw [Maps.size_setOf _ _ (by intro y hy; obtain ⟨z, _, rfl⟩ := List.mem_map.1 hy; trivial)]
  have := size_noTwo L []
  rw [List.map_nil, List.length_nil, Nat.zero_add] at this
  rw [this]
  unfold apartFrom
  simp

end Ds
end Go.Proofs.YtndglpjkmgcdpaaGreatDoor
