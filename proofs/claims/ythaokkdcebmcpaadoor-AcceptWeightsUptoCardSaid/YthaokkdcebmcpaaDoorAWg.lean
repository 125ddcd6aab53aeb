/-
  Words with qualities: plainly; slices of them.
-/
import Derived.Test.YthaokkdcebmcpaaDoorAMe
import Derived.Test.YthaokkdcebmcpaaDoorAQl
import Derived.Test.YthaokkdcebmcpaaDoorToks
import Derived.Deep.QuietTactic
import Derived.Maps.AppendAt
set_option linter.unusedVariables false
set_option linter.unusedSimpArgs false
namespace Go.Proofs.YthaokkdcebmcpaaDoor
open Go.RowKit Go.Shelf
namespace Ac
open Oc Tg

/-- A word with its quality. -/
abbrev Wt := List UInt8 × Int
def encW1 (p : Wt) : List Value := [.string (str p.1), .int .i64 p.2]
def encW (ps : List Wt) : List Value := ps.flatMap encW1
theorem encW_snoc (ps : List Wt) (p : Wt) : encW (ps ++ [p]) = encW ps ++ encW1 p := by unfold encW; rw [List.flatMap_append]; simp
theorem encW_len : ∀ ps : List Wt, (encW ps).length = ps.length * 2
  | [] => rfl
  | p :: ps => by
    have := encW_len ps
    unfold encW at *
    rw [List.flatMap_cons, List.length_append, this, List.length_cons]
    show 2 + _ = _
    omega
/-- A slice of parameters (of the type T) of the call's own. -/
def OwnW (T B : Nat) (v : Value) (ps : List Wt) (w : World) : Prop := w.ownsRow B T 2 v ps.length (encW ps)
theorem ownW_nil (T B : Nat) (w : World) : OwnW T B (.slice none 0 0) [] w := World.ownsRow_nil w B T 2
theorem ownW_empty {B : Nat} (T : Nat) (w : World) (hB : B ≤ w.heap.size) : OwnW T B (.slice (some ⟨w.heap.size, 0, none⟩) 0 0) [] (w.alloc (.cells #[] T)) :=
  ⟨by simp [encW], .inr ⟨w.heap.size, 0, #[], rfl, hB, heap_alloc_new w _, by simp, by decide, by simp, by simp [encW]⟩⟩
theorem OwnW.below {T B : Nat} {v : Value} {t : List Wt} {w w' : World} (h : OwnW T B v t w) (b : Below w.heap.size w w') : OwnW T B v t w' := by
  refine ⟨h.1, ?_⟩
  rcases h.2 with hn | ⟨g, cap, cur, rfl, hb, hg, rest⟩
  · exact .inl hn
  · refine .inr ⟨g, cap, cur, rfl, hb, ?_, rest⟩
    have hlt : g < w.heap.size := by
      rcases Nat.lt_or_ge g w.heap.size with h | h
      · exact h
      · simp [Array.getElem?_eq_none h] at hg
    rw [b.block g hlt]
    exact hg

theorem OwnW.mono {T B B' : Nat} {v : Value} {t : List Wt} {w : World} (h : OwnW T B v t w) (hB : B' ≤ B) : OwnW T B' v t w := by
  refine ⟨h.1, ?_⟩
  rcases h.2 with hn | ⟨g, cap, cur, rfl, hb, rest⟩
  · exact .inl hn
  · exact .inr ⟨g, cap, cur, rfl, by omega, rest⟩
/-- A parameter appended to a slice of the call's own. -/
theorem wp_appW {ops : Array Oper} {rest : List Oper} {o : Oper} {a : Act} {Q : Exit → Act → World → Prop} (T S : Nat) (hinfo : (Tryd.prog.info? T).map (fun i => (i.zero, i.size, i.bytes)) = some (some (.agg #[.string ⟨#[]⟩, .int .i64 0]), 2, 24))
    (hund : Tryd.prog.underlying S = some (.slice T)) (hgd : o.guard = none) (s x : Operand)
    (ho : o.op = .call { callee := .builtin .append, args := #[s, x], argTypes := #[S, S] }) (B : Nat) (v : Value) (t : List Wt) (W : World) (p : Wt) (n1 : ByteArray) (n2 : Int) (h1 : n1 = str p.1) (h2 : n2 = p.2)
    (hs : a.eval s = v) (hown : OwnW T B v t W) (g : Nat) (hx : a.eval x = .slice (some ⟨g, 0, none⟩) 1 1) (hg : g = W.heap.size) (hlen : t.length + 1 ≤ 2147483648) (hB : B ≤ W.heap.size)
    (h : ∀ v' w', OwnW T B v' (t ++ [p]) w' → Below B W w' → wpList Tryd.prog ops Q rest (a.put o.dst v') w') : wpList Tryd.prog ops Q (o :: rest) a (W.alloc (.cells #[.string n1, .int .i64 n2] T)) := by
  subst h1 h2 hg
  obtain ⟨i0, hi, hz0, hz1, hz2⟩ := info_parts hinfo
  refine wpList_append_own _ hgd s x S ho B T i0 (.agg #[.string ⟨#[]⟩, .int .i64 0]) 2 24 hund hi hz0 hz1 hz2 rfl (by decide) v t.length _ hs (World.ownsRow.alloc hown _) ⟨W.heap.size, 0, none⟩ 1 1 (encW1 p) hx rfl ?_ ?_ ?_ ?_ ?_ ?_
  · intro j u hj
    unfold encW1 at hj
    match j, hj with
    | 0, hj => simp at hj; subst hj; simp [Addr.add]
    | 1, hj => simp at hj; subst hj; simp [Addr.add]
  · intro u hu
    unfold encW1 at hu
    simp at hu
    rcases hu with rfl | rfl <;> rfl
  · unfold maxLen; omega
  · omega
  · simp; omega
  · intro v' w' h1 h2 _
    refine h v' w' ?_ (((Below.refl B W).alloc hB _).grown h2 (by simp; omega) (fun k hk => (World.ownsRow.lt hown k hk).1))
    unfold OwnW
    rw [encW_snoc, List.length_append]
    exact h1

theorem infoW : (Tryd.prog.info? 96).map (fun i => (i.zero, i.size, i.bytes)) = some (some (.agg #[.string ⟨#[]⟩, .int .i64 0]), 2, 24) := by kernel_rfl

def nthW (t : List Wt) (j : Nat) : Wt := t.getD j ([], 0)
/-- A slice that reads as these parameters. -/
def RdW (v : Value) (t : List Wt) (w : World) : Prop :=
  ∃ a c, v = .slice a t.length c ∧ (t = [] ∨ ∃ g o, a = some ⟨g, o, none⟩ ∧ t.length ≤ c ∧ ∀ j, j < t.length → w.cell? ⟨g, o + j * 2, none⟩ = some (.string (str (nthW t j).1)) ∧ w.cell? ⟨g, o + j * 2 + 1, none⟩ = some (.int .i64 (nthW t j).2))
theorem encW_at : ∀ (t : List Wt) (j : Nat), j < t.length → (encW t)[j * 2]? = some (.string (str (nthW t j).1)) ∧ (encW t)[j * 2 + 1]? = some (.int .i64 (nthW t j).2)
  | [], j, h => by simp at h
  | p :: t, 0, _ => ⟨rfl, rfl⟩
  | p :: t, j + 1, h => by
    have ih := encW_at t j (by simpa using h)
    have e : encW (p :: t) = [.string (str p.1), .int .i64 p.2] ++ encW t := rfl
    rw [e]
    have n : nthW (p :: t) (j + 1) = nthW t j := by unfold nthW; simp
    rw [n, show (j + 1) * 2 = j * 2 + 2 by omega, show j * 2 + 2 + 1 = (j * 2 + 1) + 2 by omega]
    exact ih
theorem OwnW.rd {T B : Nat} {v : Value} {t : List Wt} {w : World} (h : OwnW T B v t w) : RdW v t w := by
  have hall := h
  rcases h.2 with ⟨rfl, h0⟩ | ⟨g, cap, cur, rfl, _, hg, hn, _⟩
  · exact ⟨none, 0, by rw [h0], .inl (List.length_eq_zero_iff.1 h0)⟩
  · refine ⟨_, _, rfl, .inr ⟨g, 0, rfl, by omega, fun j hj => ?_⟩⟩
    obtain ⟨e0, e1⟩ := encW_at t j hj
    have ea : ∀ k, Addr.add ⟨g, 0, none⟩ k = ⟨g, 0 + k, none⟩ := fun k => by unfold Addr.add; split <;> simp_all
    have c0 := World.ownsRow.cells hall (g := g) rfl _ _ e0
    have c1 := World.ownsRow.cells hall (g := g) rfl _ _ e1
    rw [ea] at c0 c1
    exact ⟨c0, c1⟩
theorem RdW.below {v : Value} {t : List Wt} {w w' : World} (h : RdW v t w) (b : Below w.heap.size w w') : RdW v t w' := by
  obtain ⟨a, c, rfl, h⟩ := h
  refine ⟨a, c, rfl, ?_⟩
  rcases h with h | ⟨g, o, e, hc, hcell⟩
  · exact .inl h
  · refine .inr ⟨g, o, e, hc, fun j hj => ?_⟩
    obtain ⟨h1, h2⟩ := hcell j hj
    rw [b.cell (p := ⟨g, o + j * 2, none⟩) (World.block_lt_of_cell? w _ h1), b.cell (p := ⟨g, o + j * 2 + 1, none⟩) (World.block_lt_of_cell? w _ h2)]
    exact ⟨h1, h2⟩
theorem infoW2 : (Tryd.prog.info? 99).map (fun i => (i.zero, i.size, i.bytes)) = some (some (.agg #[.string ⟨#[]⟩, .int .i64 0]), 2, 24) := by kernel_rfl

/-- What the first q says. -/
def wq (ps : List Prm) : Int × Int := match ps.find? isQ with | none => (1000, 0) | some p => qual p.2.1
/-- A word with its quality, or an error. -/
def wt (l : List UInt8) : Wt × Int := match wrd l with
  | none => (([], 0), 10)
  | some x => if (wq x.2).2 = 0 then ((lower x.1, (wq x.2).1), 0) else (([], 0), (wq x.2).2)
def wts : List (List UInt8) → List Wt × Int
  | [] => ([], 0)
  | x :: r => if (wt x).2 ≠ 0 then ([], (wt x).2) else if (wts r).2 ≠ 0 then ([], (wts r).2) else ((wt x).1 :: (wts r).1, 0)
def weightsR (l : List UInt8) : List Wt × Int := if (listR l).2 ≠ 0 then ([], (listR l).2) else wts (listR l).1
theorem wts_err : ∀ (t : List (List UInt8)) (k : Nat), k < t.length → (∀ j, j < k → (wt (t.getD j [])).2 = 0) → (wt (t.getD k [])).2 ≠ 0 → wts t = ([], (wt (t.getD k [])).2)
  | [], k, h, _, _ => by simp at h
  | x :: t, 0, _, _, h => by
    have h' : (wt x).2 ≠ 0 := h
    unfold wts
    rw [if_pos h']
    rfl
  | x :: t, k + 1, hk, hall, h => by
    have h0 : (wt x).2 = 0 := hall 0 (by omega)
    have ih := wts_err t k (by simpa using hk) (fun j hj => hall (j + 1) (by omega)) h
    have e : (x :: t).getD (k + 1) [] = t.getD k [] := by simp
    rw [e] at h ⊢
    unfold wts
    rw [if_neg (by simp [h0]), ih, if_pos h]
theorem wts_ok : ∀ (t : List (List UInt8)), (∀ j, j < t.length → (wt (t.getD j [])).2 = 0) → wts t = (t.map (fun x => (wt x).1), 0)
  | [], _ => rfl
  | x :: t, hall => by
    have h0 : (wt x).2 = 0 := hall 0 (by simp)
    have ih := wts_ok t (fun j hj => hall (j + 1) (by simpa using hj))
    unfold wts
    rw [if_neg (by simp [h0]), ih, if_neg (by simp)]
    rfl
theorem take_wt (t : List (List UInt8)) (k : Nat) (hk : k < t.length) : (t.take (k + 1)).map (fun x => (wt x).1) = (t.take k).map (fun x => (wt x).1) ++ [(wt (t.getD k [])).1] := by
  rw [List.take_succ_eq_append_getElem hk, List.map_append, List.getD_eq_getElem?_getD, List.getElem?_eq_getElem hk]
  rfl
/-- Parameters without a value have the empty text. -/
def Bare (ps : List Prm) : Prop := ∀ p ∈ ps, p.2.2 = false → p.2.1 = []
theorem pstep_bare (r : List UInt8) (x : Nat × List Prm) (h : pstep r = some (some x)) : Bare x.2 := by
  unfold pstep at h
  split at h
  · obtain ⟨y, hy, e⟩ := Option.map_eq_some_iff.1 h
    cases e
    intro p hp hb
    split at hp
    · cases hp
    · simp at hp
      subst hp
      unfold rp at hy
      split at hy
      · obtain ⟨z, hz, e⟩ := Option.map_eq_some_iff.1 hy
        cases e
        cases hb
      · cases hy
        rfl
  · cases h
theorem pgo_bare : ∀ (f : Nat) (r : List UInt8) (y : List Prm × Nat), pgo f r = some y → Bare y.1
  | 0, r, y, h => by cases h
  | f + 1, r, y, h => by
    rw [pgo] at h
    cases hp : pstep r with
    | none => rw [hp] at h; cases h
    | some o =>
      rw [hp] at h
      cases o with
      | none =>
        cases h
        intro p hp
        cases hp
      | some x =>
        have he := pstep_bare r x hp
        obtain ⟨z, hz, e⟩ := Option.map_eq_some_iff.1 h
        have ih := pgo_bare f _ z hz
        cases e
        intro p hp
        rcases List.mem_append.1 hp with h | h
        · exact he p h
        · exact ih p h
theorem params_bare (l : List UInt8) : Bare (paramsR l).1 := by
  unfold paramsR
  cases h : prm l with
  | none => intro p hp; cases hp
  | some y => exact pgo_bare _ _ _ h

end Ac
end Go.Proofs.YthaokkdcebmcpaaDoor
