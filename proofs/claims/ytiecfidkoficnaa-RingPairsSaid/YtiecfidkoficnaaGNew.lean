/-
  'append([]byte{}, p...)': a copy of the call's own.
-/
import Derived.Test.YtiecfidkoficnaaGLaw
import Derived.Test.YtiecfidkoficnaaGArg
set_option linter.unusedVariables false
set_option linter.unusedSimpArgs false
namespace Go.Proofs.Ytiecfidkoficnaa
open Go.RowKit
namespace Rg

theorem own_empty (W : World) : (W.alloc (.cells #[] 5)).ownsRow W.heap.size 5 1 (.slice (some ⟨W.heap.size, 0, none⟩) 0 0) ([] : List UInt8).length (bv []) := owns_heap (l := []) (heap_alloc_new _ _) (Nat.le_refl _) rfl (by unfold maxLen; simp)
theorem owns_slice {w : World} {B T S : Nat} {v : Value} {n : Nat} {xs : List Value} (h : w.ownsRow B T S v n xs) : ∃ a c, v = .slice a n c ∧ n ≤ c := by
  rcases h.2 with ⟨e, h0⟩ | ⟨g, c, _, e, _, _, hc, _⟩
  · exact ⟨none, 0, by rw [e, h0], by omega⟩
  · exact ⟨_, c, e, hc⟩

theorem wp_new {ops : Array Oper} {rest : List Oper} {o : Oper} {a : Act} {Q : Exit → Act → World → Prop} (hw : Region.wanted o (yielded ops a.tmps) = true) (s x : Operand)
    (ho : o.op = .call { callee := .builtin .append, args := #[s, x], argTypes := #[25, 25] }) (W : World) (y : Value) (u : List UInt8) (n : Nat) (hn : n = u.length)
    (hs : a.eval s = .slice (some ⟨W.heap.size, 0, none⟩) 0 0) (hx : a.eval x = y) (hy : RdB W y u) (hlen : u.length ≤ 140737488355328)
    (h : ∀ a' c' w', Hid (w'.ownsRow W.heap.size 5 1 (.slice a' n c') n (bv u)) → Hid (Below W.heap.size W w') → wpList Try.prog ops Q rest (a.put o.dst (.slice a' n c')) w') : wpList Try.prog ops Q (o :: rest) a (W.alloc (.cells #[] 5)) := by
  subst hn
  refine wp_appB hw s x ho W.heap.size _ y [] u hs (own_empty W) hx (hy.below ((Below.refl _ W).alloc (Nat.le_refl _) _)) (by simpa using hlen) (by simp) ?_
  intro v' w' h1 h2
  obtain ⟨a', c', rfl, _⟩ := owns_slice h1.out
  exact h a' c' w' h1.out (((Below.refl _ W).alloc (Nat.le_refl _) _).grown h2.out (by simp) (fun k hk => by cases hk; exact Nat.le_refl _))
theorem step_new {ops : Array Oper} {o : Oper} {a : Act} {K : Act → World → Prop} {Q : Exit → Act → World → Prop} {E : Prop} (hgd : o.guard = none) (s x : Operand)
    (ho : o.op = .call { callee := .builtin .append, args := #[s, x], argTypes := #[25, 25] }) (W : World) (y : Value) (u : List UInt8) (n : Nat) (hn : n = u.length)
    (hs : a.eval s = .slice (some ⟨W.heap.size, 0, none⟩) 0 0) (hx : a.eval x = y) (hy : RdB W y u) (hlen : u.length ≤ 140737488355328)
    (h : ∀ a' c' w', Hid (w'.ownsRow W.heap.size 5 1 (.slice a' n c') n (bv u)) → Hid (Below W.heap.size W w') → K (a.put o.dst (.slice a' n c')) w') : if Region.wanted o (yielded ops a.tmps) = true then Oper.wp Try.prog o a (W.alloc (.cells #[] 5)) K Q else E := by
  subst hn
  refine step_appB hgd s x ho W.heap.size _ y [] u hs (own_empty W) hx (hy.below ((Below.refl _ W).alloc (Nat.le_refl _) _)) (by simpa using hlen) (by simp) ?_
  intro v' w' h1 h2
  obtain ⟨a', c', rfl, _⟩ := owns_slice h1.out
  exact h a' c' w' h1.out (((Below.refl _ W).alloc (Nat.le_refl _) _).grown h2.out (by simp) (fun k hk => by cases hk; exact Nat.le_refl _))

theorem own_cap {w : World} {B T S n c : Nat} {a : Option Addr} {xs : List Value} (h : w.ownsRow B T S (.slice a n c) n xs) : c ≤ 9223372036854775807 := by
  rcases h.2 with ⟨e, _⟩ | ⟨g, c', _, e, _, _, _, hm, _⟩
  · injection e with _ _ e; omega
  · injection e with _ _ e; rw [e]; unfold maxLen at hm; omega
theorem bv_len' {w : World} {B T n : Nat} {v : Value} {l : List UInt8} (h : w.ownsRow B T 1 v n (bv l)) : w.ownsRow B T 1 v l.length (bv l) := by
  have hn := owns_len h
  subst hn
  exact h

theorem rd_len {w : World} {a : Option Addr} {n c : Nat} {l : List UInt8} (h : RdB w (.slice a n c) l) : n = l.length ∧ n ≤ c := by
  obtain ⟨a', c', e, hc, _⟩ := h
  injection e with _ e2 e3
  subst e3
  exact ⟨e2, by omega⟩

end Rg
end Go.Proofs.Ytiecfidkoficnaa
