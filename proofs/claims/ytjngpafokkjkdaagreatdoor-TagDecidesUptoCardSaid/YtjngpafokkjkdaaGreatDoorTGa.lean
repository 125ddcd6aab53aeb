/-
  Slices of tags: of the call's own, read.
-/
import Derived.Test.YtjngpafokkjkdaaGreatDoorTPr
import Derived.Test.YtjngpafokkjkdaaGreatDoorFLn
import Derived.Deep.QuietTactic
import Derived.Maps.AppendAt
set_option linter.unusedVariables false
set_option linter.unusedSimpArgs false
namespace Go.Proofs.YtjngpafokkjkdaaGreatDoor
open Go.RowKit Go.Shelf
namespace Tt
open Oc Tg

abbrev Fl := Tg1
def encT1 (p : Fl) : List Value := [.bool p.1, .string (str p.2)]
def encT (ps : List Fl) : List Value := ps.flatMap encT1
theorem encT_snoc (ps : List Fl) (p : Fl) : encT (ps ++ [p]) = encT ps ++ encT1 p := by unfold encT; rw [List.flatMap_append]; simp
theorem encT_len : ∀ ps : List Fl, (encT ps).length = ps.length * 2
  | [] => rfl
  | p :: ps => by
    have := encT_len ps
    unfold encT at *
    rw [List.flatMap_cons, List.length_append, this, List.length_cons]
    show 2 + _ = _
    omega
/-- A slice of parameters (of the type T) of the call's own. -/
def OwnT (T B : Nat) (v : Value) (ps : List Fl) (w : World) : Prop := w.ownsRow B T 2 v ps.length (encT ps)
theorem ownT_nil (T B : Nat) (w : World) : OwnT T B (.slice none 0 0) [] w := World.ownsRow_nil w B T 2
theorem ownT_empty {B : Nat} (T : Nat) (w : World) (hB : B ≤ w.heap.size) : OwnT T B (.slice (some ⟨w.heap.size, 0, none⟩) 0 0) [] (w.alloc (.cells #[] T)) :=
  ⟨by simp [encT], .inr ⟨w.heap.size, 0, #[], rfl, hB, heap_alloc_new w _, by simp, by decide, by simp, by simp [encT]⟩⟩
theorem OwnT.below {T B : Nat} {v : Value} {t : List Fl} {w w' : World} (h : OwnT T B v t w) (b : Below w.heap.size w w') : OwnT T B v t w' := by
  refine ⟨h.1, ?_⟩
  rcases h.2 with hn | ⟨g, cap, cur, rfl, hb, hg, rest⟩
  · exact .inl hn
  · refine .inr ⟨g, cap, cur, rfl, hb, ?_, rest⟩
    have hlt : g < w.heap.size := by
      rcases Nat.lt_or_ge g w.heap.size with h | h
      · exact h
      · simp [Array.getElem?_eq_none h] at hg
    rw [b.block g hlt]
    exact hg

/-- A parameter appended to a slice of the call's own. -/
theorem wp_appT {ops : Array Oper} {rest : List Oper} {o : Oper} {a : Act} {Q : Exit → Act → World → Prop} (T S : Nat) (hinfo : (Tryz.prog.info? T).map (fun i => (i.zero, i.size, i.bytes)) = some (some (.agg #[.bool false, .string ⟨#[]⟩]), 2, 24))
    (hund : Tryz.prog.underlying S = some (.slice T)) (hgd : o.guard = none) (s x : Operand)
    (ho : o.op = .call { callee := .builtin .append, args := #[s, x], argTypes := #[S, S] }) (B : Nat) (v : Value) (t : List Fl) (W : World) (p : Fl) (n1 : Bool) (n2 : ByteArray) (h1 : n1 = p.1) (h2 : n2 = str p.2)
    (hs : a.eval s = v) (hown : OwnT T B v t W) (g : Nat) (hx : a.eval x = .slice (some ⟨g, 0, none⟩) 1 1) (hg : g = W.heap.size) (hlen : t.length + 1 ≤ 2147483648) (hB : B ≤ W.heap.size)
    (h : ∀ v' w', OwnT T B v' (t ++ [p]) w' → Below B W w' → wpList Tryz.prog ops Q rest (a.put o.dst v') w') : wpList Tryz.prog ops Q (o :: rest) a (W.alloc (.cells #[.bool n1, .string n2] T)) := by
  subst h1 h2 hg
  obtain ⟨i0, hi, hz0, hz1, hz2⟩ := info_parts hinfo
  refine wpList_append_own _ hgd s x S ho B T i0 (.agg #[.bool false, .string ⟨#[]⟩]) 2 24 hund hi hz0 hz1 hz2 rfl (by decide) v t.length _ hs (World.ownsRow.alloc hown _) ⟨W.heap.size, 0, none⟩ 1 1 (encT1 p) hx rfl ?_ ?_ ?_ ?_ ?_ ?_
  · intro j u hj
    unfold encT1 at hj
    match j, hj with
    | 0, hj => simp at hj; subst hj; simp [Addr.add]
    | 1, hj => simp at hj; subst hj; simp [Addr.add]
  · intro u hu
    unfold encT1 at hu
    simp at hu
    rcases hu with rfl | rfl <;> rfl
  · unfold maxLen; omega
  · omega
  · simp; omega
  · intro v' w' h1 h2 _
    refine h v' w' ?_ (((Below.refl B W).alloc hB _).grown h2 (by simp; omega) (fun k hk => (World.ownsRow.lt hown k hk).1))
    unfold OwnT
    rw [encT_snoc, List.length_append]
    exact h1

theorem infoT : (Tryz.prog.info? 26).map (fun i => (i.zero, i.size, i.bytes)) = some (some (.agg #[.bool false, .string ⟨#[]⟩]), 2, 24) := by kernel_rfl

def nth (t : List Fl) (j : Nat) : Fl := t.getD j (false, [])
/-- A slice that reads as these parameters. -/
def RdT (v : Value) (t : List Fl) (w : World) : Prop :=
  ∃ a c, v = .slice a t.length c ∧ (t = [] ∨ ∃ g o, a = some ⟨g, o, none⟩ ∧ t.length ≤ c ∧ ∀ j, j < t.length → w.cell? ⟨g, o + j * 2, none⟩ = some (.bool (nth t j).1) ∧ w.cell? ⟨g, o + j * 2 + 1, none⟩ = some (.string (str (nth t j).2)))
theorem encT_at : ∀ (t : List Fl) (j : Nat), j < t.length → (encT t)[j * 2]? = some (.bool (nth t j).1) ∧ (encT t)[j * 2 + 1]? = some (.string (str (nth t j).2))
  | [], j, h => by simp at h
  | p :: t, 0, _ => ⟨rfl, rfl⟩
  | p :: t, j + 1, h => by
    have ih := encT_at t j (by simpa using h)
    have e : encT (p :: t) = [.bool p.1, .string (str p.2)] ++ encT t := rfl
    rw [e]
    have n : nth (p :: t) (j + 1) = nth t j := by unfold nth; simp
    rw [n, show (j + 1) * 2 = j * 2 + 2 by omega, show j * 2 + 2 + 1 = (j * 2 + 1) + 2 by omega]
    exact ih
theorem OwnT.rd {T B : Nat} {v : Value} {t : List Fl} {w : World} (h : OwnT T B v t w) : RdT v t w := by
  have hall := h
  rcases h.2 with ⟨rfl, h0⟩ | ⟨g, cap, cur, rfl, _, hg, hn, _⟩
  · exact ⟨none, 0, by rw [h0], .inl (List.length_eq_zero_iff.1 h0)⟩
  · refine ⟨_, _, rfl, .inr ⟨g, 0, rfl, by omega, fun j hj => ?_⟩⟩
    obtain ⟨e0, e1⟩ := encT_at t j hj
    have ea : ∀ k, Addr.add ⟨g, 0, none⟩ k = ⟨g, 0 + k, none⟩ := fun k => by unfold Addr.add; split <;> simp_all
    have c0 := World.ownsRow.cells hall (g := g) rfl _ _ e0
    have c1 := World.ownsRow.cells hall (g := g) rfl _ _ e1
    rw [ea] at c0 c1
    exact ⟨c0, c1⟩
theorem RdT.below {v : Value} {t : List Fl} {w w' : World} (h : RdT v t w) (b : Below w.heap.size w w') : RdT v t w' := by
  obtain ⟨a, c, rfl, h⟩ := h
  refine ⟨a, c, rfl, ?_⟩
  rcases h with h | ⟨g, o, e, hc, hcell⟩
  · exact .inl h
  · refine .inr ⟨g, o, e, hc, fun j hj => ?_⟩
    obtain ⟨h1, h2⟩ := hcell j hj
    rw [b.cell (p := ⟨g, o + j * 2, none⟩) (World.block_lt_of_cell? w _ h1), b.cell (p := ⟨g, o + j * 2 + 1, none⟩) (World.block_lt_of_cell? w _ h2)]
    exact ⟨h1, h2⟩

theorem infoT2 : (Tryz.prog.info? 36).map (fun i => (i.zero, i.size, i.bytes)) = some (some (.agg #[.bool false, .string ⟨#[]⟩]), 2, 24) := by kernel_rfl

theorem drawn_again (w : World) (n m : Nat) : Hid (∃ k, w.drewN (n + m) = w.drewN k) := ⟨_, rfl⟩
theorem below_drew (w : World) (n : Nat) : Below w.heap.size w (w.drewN n) := below_drewN (Below.refl _ w) n
theorem RdT.drew {v : Value} {t : List Fl} {w : World} (h : RdT v t w) (n : Nat) : RdT v t (w.drewN n) := h.below (below_drew w n)
theorem take_nth (t : List Fl) (k : Nat) (h : k < t.length) : t.take (k + 1) = t.take k ++ [nth t k] := by
  unfold nth
  rw [List.take_add_one, List.getElem?_eq_getElem h, List.getD_eq_getElem?_getD, List.getElem?_eq_getElem h]; rfl
theorem rd_oneT (w : World) (T : Nat) (p : Fl) : RdT (.slice (some ⟨w.heap.size, 0, none⟩) 1 1) [p] (w.alloc (.cells #[.bool p.1, .string (str p.2)] T)) := by
  refine ⟨_, _, rfl, .inr ⟨w.heap.size, 0, rfl, by simp, fun j hj => ?_⟩⟩
  obtain rfl : j = 0 := by simp at hj; omega
  exact ⟨by simp [nth], by simp [nth]⟩

end Tt
end Go.Proofs.YtjngpafokkjkdaaGreatDoor
