/-
  The law's ranges: ranges as the document has them.
-/
import Derived.Test.YthfckgdaencagaaGreatDoorALi
import Derived.Test.YthfckgdaencagaaGreatDoorMgW
import Derived.Deep.RegionLaw
import Derived.Laws.AppendOwn
set_option maxRecDepth 100000
set_option linter.unusedVariables false
set_option linter.unusedSimpArgs false
namespace Go.Proofs.YthfckgdaencagaaGreatDoor
open Go.RowKit Go.Shelf
namespace Ac
open Oc Tg

theorem infoO2 : (Tryz.prog.info? 58).map (fun i => (i.zero, i.size, i.bytes)) = some (some (.agg #[.string ⟨#[]⟩, .string ⟨#[]⟩, .slice none 0 0, .int .i64 0]), 4, 64) := by kernel_rfl
theorem ownO_empty {B : Nat} (T : Nat) (w : World) (hB : B ≤ w.heap.size) : OwnO T B (.slice (some ⟨w.heap.size, 0, none⟩) 0 0) [] (w.alloc (.cells #[] T)) :=
  ⟨by simp [encO], .inr ⟨w.heap.size, 0, #[], rfl, hB, heap_alloc_new w _, by simp, by decide, by simp, by simp [encO]⟩⟩

theorem step_appO {ops : Array Oper} {o : Oper} {a : Act} {K : Act → World → Prop} {Q : Exit → Act → World → Prop} {E : Prop} (T S : Nat) (hinfo : (Tryz.prog.info? T).map (fun i => (i.zero, i.size, i.bytes)) = some (some (.agg #[.string ⟨#[]⟩, .string ⟨#[]⟩, .slice none 0 0, .int .i64 0]), 4, 64))
    (hund : Tryz.prog.underlying S = some (.slice T)) (hgd : o.guard = none) (s x : Operand)
    (ho : o.op = .call { callee := .builtin .append, args := #[s, x], argTypes := #[S, S] }) (B : Nat) (v : Value) (t : List Rw) (W : World) (p : Rw)
    (hs : a.eval s = v) (hown : OwnO T B v t W) (g : Nat) (hx : a.eval x = .slice (some ⟨g, 0, none⟩) 1 1) (hg : g = W.heap.size) (hlen : t.length + 1 ≤ 2147483648) (hB : B ≤ W.heap.size)
    (h : ∀ v' w', OwnO T B v' (t ++ [p]) w' → Below B W w' → (∀ k, k < W.heap.size → v.ownBlock ≠ some k → w'.heap[k]? = W.heap[k]?) → K (a.put o.dst v') w') : if Region.wanted o (yielded ops a.tmps) = true then Oper.wp Tryz.prog o a (W.alloc (.cells #[.string p.ty, .string p.sub, .slice p.a p.n p.c, .int .i64 p.q] T)) K Q else E := by
  subst hg
  have hw : Region.wanted o (yielded ops a.tmps) = true := by simp [Region.wanted, hgd]
  rw [if_pos hw]
  obtain ⟨i0, hi, hz0, hz1, hz2⟩ := info_parts hinfo
  refine wp_append_own _ s x S ho B T i0 (.agg #[.string ⟨#[]⟩, .string ⟨#[]⟩, .slice none 0 0, .int .i64 0]) 4 64 hund hi hz0 hz1 hz2 rfl (by decide) v t.length _ hs (World.ownsRow.alloc hown _) ⟨W.heap.size, 0, none⟩ 1 1 (encO1 p) hx rfl ?_ ?_ ?_ ?_ ?_ ?_
  · intro j u hj
    unfold encO1 at hj
    match j, hj with
    | 0, hj => simp at hj; subst hj; simp [Addr.add]
    | 1, hj => simp at hj; subst hj; simp [Addr.add]
    | 2, hj => simp at hj; subst hj; simp [Addr.add]
    | 3, hj => simp at hj; subst hj; simp [Addr.add]
  · intro u hu
    unfold encO1 at hu
    simp at hu
    rcases hu with rfl | rfl | rfl | rfl <;> rfl
  · unfold maxLen; omega
  · omega
  · simp; omega
  · intro v' w' h1 h2 _
    refine h v' w' ?_ (((Below.refl B W).alloc hB _).grown h2 (by simp; omega) (fun k hk => (World.ownsRow.lt hown k hk).1)) (fun k hk hne => (h2.block k (by simp; omega) (fun e => hne e.symm)).trans (Lib.alloc_old W _ k hk))
    unfold OwnO
    rw [encO_snoc, List.length_append]
    exact h1

/-- A row of another type stays where ranges are appended. -/
theorem keepOP {T T' B B' : Nat} {v u : Value} {t : List Rw} {ps : List Prm} {W w' : World} (ho : OwnO T B v t W) (hp : OwnP T' B' u ps W) (hT : T' ≠ T) (hk : ∀ k, k < W.heap.size → v.ownBlock ≠ some k → w'.heap[k]? = W.heap[k]?) : OwnP T' B' u ps w' := by
  refine ⟨hp.1, ?_⟩
  rcases hp.2 with hn | ⟨g, cap, cur, rfl, hb, hg, rest⟩
  · exact .inl hn
  · refine .inr ⟨g, cap, cur, rfl, hb, ?_, rest⟩
    have hlt : g < W.heap.size := by
      rcases Nat.lt_or_ge g W.heap.size with h | h
      · exact h
      · simp [Array.getElem?_eq_none h] at hg
    rw [hk g hlt ?_]
    · exact hg
    · intro e
      rcases ho.2 with ⟨rfl, _⟩ | ⟨g2, cap2, cur2, rfl, _, hg2, _⟩
      · cases e
      · have e' : g2 = g := by simpa [Value.ownBlock] using e
        subst e'
        rw [hg] at hg2
        simp at hg2
        exact hT hg2.2
theorem nilP_own {T B : Nat} {u : Value} {ps : List Prm} {w : World} (h : OwnP T B u ps w) : NilP u ps := trivial
/-- Ranges as they lie, against ranges. -/
def LikeO (T : Nat) (ms : List Rw) (t : List Rng) (W : World) : Prop := ∀ j, j < ms.length → (nthO ms j).ty = (nthR t j).md.ty ∧ (nthO ms j).sub = (nthR t j).md.sub ∧ (nthO ms j).q = (nthR t j).q ∧ OwnP T 0 (.slice (nthO ms j).a (nthO ms j).n (nthO ms j).c) (nthR t j).md.ps W
theorem LikeO.below {T : Nat} {ms : List Rw} {t : List Rng} {W W' : World} (h : LikeO T ms t W) (b : Below W.heap.size W W') : LikeO T ms t W' := fun j hj => by
  obtain ⟨h1, h2, h3, h4⟩ := h j hj
  exact ⟨h1, h2, h3, h4.below b⟩
theorem nthO_snoc (ms : List Rw) (r : Rw) : nthO (ms ++ [r]) ms.length = r := by unfold nthO; simp [List.getD_eq_getElem?_getD]
theorem nthO_old (ms : List Rw) (r : Rw) {j : Nat} (h : j < ms.length) : nthO (ms ++ [r]) j = nthO ms j := by
  unfold nthO
  rw [List.getD_eq_getElem?_getD, List.getD_eq_getElem?_getD, List.getElem?_append_left h]
theorem RdRg.of_like {T T' B : Nat} {ms : List Rw} {t : List Rng} {v : Value} {W : World} (ho : OwnO T B v ms W) (hl : LikeO T' ms t W) (hn : ms.length = t.length) (hz : ∀ j, j < t.length → inZ (nthR t j).q) : RdRg v t W := by
  obtain ⟨a, c, rfl, h⟩ := ho.rd
  refine ⟨a, c, by rw [hn], ?_⟩
  rcases h with h | ⟨g, o, e, hc, hcell⟩
  · left
    rw [h] at hn
    exact List.length_eq_zero_iff.1 hn.symm
  · refine .inr ⟨g, o, e, by omega, fun j hj => ?_⟩
    obtain ⟨c0, c1, c2, c3⟩ := hcell j (by omega)
    obtain ⟨e0, e1, e2, e3⟩ := hl j (by omega)
    rw [e0] at c0
    rw [e1] at c1
    rw [e2] at c3
    exact ⟨⟨⟨c0, c1, _, c2, e3.rd, nilP_own e3⟩, c3⟩, hz j hj⟩

theorem LikeO.snoc {T T' B n c : Nat} {a : Option Addr} {ms : List Rw} {t : List Rng} {v7 : Value} {W w7 : World} {N1 N2 : ByteArray} {q : Int} (hl : LikeO T ms t W) (ho : OwnO T' B v7 ms W) (hT : T ≠ T') (hp : OwnP T 0 (.slice a n c) (nthR t ms.length).md.ps W) (hk : ∀ k, k < W.heap.size → v7.ownBlock ≠ some k → w7.heap[k]? = W.heap[k]?) (e1 : N1 = (nthR t ms.length).md.ty) (e2 : N2 = (nthR t ms.length).md.sub) (e3 : q = (nthR t ms.length).q) : LikeO T (ms ++ [⟨N1, N2, a, n, c, q⟩]) t w7 := by
  intro j hj
  rw [List.length_append] at hj
  rcases Nat.lt_or_ge j ms.length with h | h
  · rw [nthO_old _ _ h]
    obtain ⟨h1, h2, h3, h4⟩ := hl j h
    exact ⟨h1, h2, h3, keepOP ho h4 hT hk⟩
  · obtain rfl : j = ms.length := by simp at hj; omega
    rw [nthO_snoc]
    exact ⟨e1, e2, e3, keepOP ho hp hT hk⟩

end Ac
end Go.Proofs.YthfckgdaencagaaGreatDoor
