import Derived.Test.YtdcfhnbagldilaaGreatDoorMgX
import Derived.Maps.AppendAt
set_option linter.unusedVariables false
set_option linter.unusedSimpArgs false
set_option maxRecDepth 100000
namespace Go.Proofs.YtdcfhnbagldilaaGreatDoor
open Go.RowKit Go.Shelf
namespace Ck
open Oc Tg _root_.Go.Proofs.YtdcfhnbagldilaaGreatDoor.Fd
theorem encF_set : ∀ (L : List Fl) (k : Nat) (p : Fl), k < L.length → ((encF L).set (k * 2) (.string (str p.1))).set (k * 2 + 1) (.string (str p.2)) = encF (L.set k p)
  | [], k, p, h => by simp at h
  | q :: L, 0, p, _ => rfl
  | q :: L, k + 1, p, h => by
    have ih := encF_set L k p (by simpa using h)
    have e1 : (k + 1) * 2 = k * 2 + 1 + 1 := by omega
    show ((Value.string (str q.1) :: Value.string (str q.2) :: encF L).set ((k + 1) * 2) _).set ((k + 1) * 2 + 1) _ = Value.string (str q.1) :: Value.string (str q.2) :: encF (L.set k p)
    rw [e1]
    simp only [List.set_cons_succ]
    rw [ih]
theorem own_cell2 {T B n c : Nat} {g k : Nat} {L : List Fl} {w : World} (h : OwnF T B (.slice (some ⟨g, 0, none⟩) n c) L w) (hk : k < L.length) : w.cell? ⟨g, k * 2, none⟩ = some (.string (str (Fd.nth L k).1)) ∧ w.cell? ⟨g, k * 2 + 1, none⟩ = some (.string (str (Fd.nth L k).2)) ∧ (∀ j, w.frozen? ⟨g, j, none⟩ = false) ∧ n ≤ c := by
  have hall := h
  rcases h.2 with ⟨hv, _⟩ | ⟨g', cap, cur, hv, hb, hg, hn, _⟩
  · cases hv
  · injection hv with e1 e2 e3
    injection e1 with e1
    injection e1 with e1
    subst e1 e2 e3
    obtain ⟨a1, a2⟩ := encF_at L k hk
    have c0 := World.ownsRow.cells hall (g := g) rfl _ _ a1
    have c1 := World.ownsRow.cells hall (g := g) rfl _ _ a2
    have ea : ∀ j, Addr.add ⟨g, 0, none⟩ j = ⟨g, j, none⟩ := fun j => by unfold Addr.add; split <;> simp_all
    rw [ea] at c0 c1
    exact ⟨c0, c1, fun j => Lib.frozen_of_heap hg j, hn⟩
theorem own_store {T B n c g k : Nat} {L : List Fl} {w : World} (h : OwnF T B (.slice (some ⟨g, 0, none⟩) n c) L w) (hk : k < L.length) (p : Fl) : OwnF T B (.slice (some ⟨g, 0, none⟩) n c) (L.set k p) ((w.setCell ⟨g, k * 2, none⟩ (.string (str p.1))).setCell ⟨g, k * 2 + 1, none⟩ (.string (str p.2))) := by
  rcases h.2 with ⟨hv, _⟩ | ⟨g', cap, cur, hv, hb, hg, hn, hm, hs, ht⟩
  · cases hv
  · injection hv with e1 e2 e3
    injection e1 with e1
    injection e1 with e1
    subst e1 e2 e3
    refine ⟨by rw [encF_len], .inr ⟨g, c, (cur.setIfInBounds (k * 2) (.string (str p.1))).setIfInBounds (k * 2 + 1) (.string (str p.2)), by rw [List.length_set], hb, ?_, by rw [List.length_set]; exact hn, hm, by simp [hs], ?_⟩⟩
    · simp [World.setCell, Array.getElem?_modify, hg]
    · rw [Array.toList_setIfInBounds, List.take_set, Array.toList_setIfInBounds, List.take_set, List.length_set, ht, encF_set L k p hk]
theorem but_store {bs : List Nat} {x w : World} (h : But bs x w) {g : Nat} (hg : g ∈ bs) (i j : Nat) (u v : Value) : But bs x ((w.setCell ⟨g, i, none⟩ u).setCell ⟨g, j, none⟩ v) := (h.setCell (p := ⟨g, i, none⟩) hg u).setCell (p := ⟨g, j, none⟩) hg v
theorem wp_appF3 {ops : Array Oper} {rest : List Oper} {o : Oper} {a : Act} {Q : Exit → Act → World → Prop} (hgd : o.guard = none) (s x : Operand)
    (ho : o.op = .call { callee := .builtin .append, args := #[s, x], argTypes := #[25, 25] }) (B : Nat) (v : Value) (t : List Fl) (W : World) (p : Fl) (n1 n2 : ByteArray) (h1 : n1 = str p.1) (h2 : n2 = str p.2)
    (hs : a.eval s = v) (hown : OwnF 47 B v t W) (g : Nat) (hx : a.eval x = .slice (some ⟨g, 0, none⟩) 1 1) (hg : g = W.heap.size) (hlen : t.length + 1 ≤ 2147483648) (hB : B ≤ W.heap.size)
    (h : ∀ v' w', OwnF 47 B v' (t ++ [p]) w' → Goes v.ownBlock.toList W v'.ownBlock.toList w' → wpList Tryz.prog ops Q rest (a.put o.dst v') w') : wpList Tryz.prog ops Q (o :: rest) a (W.alloc (.cells #[.string n1, .string n2] 47)) := by
  subst h1 h2 hg
  obtain ⟨i0, hi, hz0, hz1, hz2⟩ := info_parts infoF
  refine wpList_append_own_at _ hgd s x 25 ho B 47 i0 (.agg #[.string ⟨#[]⟩, .string ⟨#[]⟩]) 2 32 Tryz.underlying25 hi hz0 hz1 hz2 rfl (by decide) v t.length _ hs (World.ownsRow.alloc hown _) ⟨W.heap.size, 0, none⟩ 1 1 (encF1 p) hx rfl ?_ ?_ ?_ ?_ ?_ ?_
  · intro j u hj
    unfold encF1 at hj
    match j, hj with
    | 0, hj => simp at hj; subst hj; simp [Addr.add]
    | 1, hj => simp at hj; subst hj; simp [Addr.add]
  · intro u hu
    unfold encF1 at hu
    simp at hu
    rcases hu with rfl | rfl <;> rfl
  · unfold maxLen; omega
  · omega
  · simp; omega
  · intro v' w' h1 h2 _ h4
    refine h v' w' ?_ ⟨((But.refl _ W).alloc _).grown h2 (fun k hk => by rw [hk]; simp), fun y hy => ?_⟩
    · unfold OwnF
      rw [encF_snoc, List.length_append]
      exact h1
    · rcases h4 with e | e
      · rw [e] at hy; exact .inl hy
      · rw [e] at hy
        simp at hy
        right
        omega
end Ck
end Go.Proofs.YtdcfhnbagldilaaGreatDoor
