/- Several texts as one. -/
import Derived.Test.YthfckgdaencagaaGreatDoorACh
import Derived.Laws.AppendOwn
import Derived.Deep.QuietTactic
import Derived.BigQuiet
import Derived.Test.YthfckgdaencagaaGreatDoorARg
import Derived.Test.YthfckgdaencagaaGreatDoorARl
/-
  Slices of numbers (at a seat without weights); the first of the greatest.
-/
set_option linter.unusedVariables false
set_option linter.unusedSimpArgs false
namespace Go.Proofs.YthfckgdaencagaaGreatDoor
open Go.RowKit Go.Shelf
namespace Ac
open Oc Tg

def encI (l : List Int) : List Value := l.map fun x => Value.int .i64 x
/-- A slice of numbers of the call's own. -/
def OwnI (B : Nat) (v : Value) (l : List Int) (w : World) : Prop := w.ownsRow B 3 1 v l.length (encI l)
theorem ownI_empty {B : Nat} (w : World) (hB : B ≤ w.heap.size) : OwnI B (.slice (some ⟨w.heap.size, 0, none⟩) 0 0) [] (w.alloc (.cells #[] 3)) :=
  ⟨by simp [encI], .inr ⟨w.heap.size, 0, #[], rfl, hB, heap_alloc_new w _, by simp, by decide, by simp, by simp [encI]⟩⟩
theorem infoI : (Tryz.prog.info? 3).map (fun i => (i.zero, i.size, i.bytes)) = some (some (.int .i64 0), 1, 8) := by kernel_rfl

theorem wp_appI {ops : Array Oper} {rest : List Oper} {o : Oper} {a : Act} {Q : Exit → Act → World → Prop} (hgd : o.guard = none) (s x : Operand)
    (ho : o.op = .call { callee := .builtin .append, args := #[s, x], argTypes := #[70, 70] }) (B : Nat) (v : Value) (l : List Int) (W : World) (y : Int)
    (hs : a.eval s = v) (hown : OwnI B v l W) (g : Nat) (hx : a.eval x = .slice (some ⟨g, 0, none⟩) 1 1) (hg : g = W.heap.size) (hlen : l.length + 1 ≤ 2147483648) (hB : B ≤ W.heap.size)
    (h : ∀ v' w', OwnI B v' (l ++ [y]) w' → Below B W w' → wpList Tryz.prog ops Q rest (a.put o.dst v') w') : wpList Tryz.prog ops Q (o :: rest) a (W.alloc (.cells #[.int .i64 y] 3)) := by
  subst hg
  obtain ⟨i0, hi, hz0, hz1, hz2⟩ := info_parts infoI
  refine wpList_append_own _ hgd s x 70 ho B 3 i0 (.int .i64 0) 1 8 Tryz.underlying70 hi hz0 hz1 hz2 rfl (by decide) v l.length _ hs (World.ownsRow.alloc hown _) ⟨W.heap.size, 0, none⟩ 1 1 [.int .i64 y] hx rfl ?_ ?_ ?_ ?_ ?_ ?_
  · intro j u hj
    match j, hj with
    | 0, hj => simp at hj; subst hj; simp [Addr.add]
  · intro u hu
    simp at hu
    subst hu
    rfl
  · unfold maxLen; omega
  · omega
  · simp; omega
  · intro v' w' h1 h2 _
    refine h v' w' ?_ (((Below.refl B W).alloc hB _).grown h2 (by simp; omega) (fun k hk => (World.ownsRow.lt hown k hk).1))
    unfold OwnI encI
    rw [List.map_append, List.length_append]
    exact h1

/-- A slice that reads as these numbers. -/
def RdI (v : Value) (l : List Int) (w : World) : Prop :=
  ∃ a c, v = .slice a l.length c ∧ (l = [] ∨ ∃ g o, a = some ⟨g, o, none⟩ ∧ l.length ≤ c ∧ ∀ j, j < l.length → w.cell? ⟨g, o + j, none⟩ = some (.int .i64 (l.getD j 0)))
theorem OwnI.rd {B : Nat} {v : Value} {l : List Int} {w : World} (h : OwnI B v l w) : RdI v l w := by
  have hall := h
  rcases h.2 with ⟨rfl, h0⟩ | ⟨g, cap, cur, rfl, hb, hg, hc, _⟩
  · exact ⟨none, 0, by rw [h0], .inl (List.length_eq_zero_iff.1 h0)⟩
  · refine ⟨some ⟨g, 0, none⟩, cap, rfl, .inr ⟨g, 0, rfl, by omega, fun j hj => ?_⟩⟩
    have := World.ownsRow.cells hall (g := g) rfl j (.int .i64 (l.getD j 0)) (by unfold encI; rw [List.getElem?_map, List.getD_eq_getElem?_getD, List.getElem?_eq_getElem hj]; rfl)
    rw [Nat.zero_add]
    have ea : Addr.add ⟨g, 0, none⟩ j = ⟨g, j, none⟩ := by unfold Addr.add; split <;> simp_all
    rw [ea] at this
    exact this
theorem RdI.below {v : Value} {l : List Int} {w w' : World} (h : RdI v l w) (b : Below w.heap.size w w') : RdI v l w' := by
  obtain ⟨a, c, rfl, h⟩ := h
  refine ⟨a, c, rfl, ?_⟩
  rcases h with h | ⟨g, o, e, hc, hcell⟩
  · exact .inl h
  · refine .inr ⟨g, o, e, hc, fun j hj => ?_⟩
    have h1 := hcell j hj
    rw [b.cell (p := ⟨g, o + j, none⟩) (World.block_lt_of_cell? w _ h1)]
    exact h1
theorem OwnI.below {B : Nat} {v : Value} {l : List Int} {w w' : World} (h : OwnI B v l w) (b : Below w.heap.size w w') : OwnI B v l w' := by
  refine ⟨h.1, ?_⟩
  rcases h.2 with hn | ⟨g, cap, cur, rfl, hb, hg, rest⟩
  · exact .inl hn
  · exact .inr ⟨g, cap, cur, rfl, hb, (b.block g (Array.getElem?_eq_some_iff.1 hg).1).trans hg, rest⟩

set_option maxRecDepth 100000 in
set_option maxHeartbeats 2000000 in
theorem rfirst_any (v : Value) (l : List Int) (hl : l.length ≤ 16777216) (w : World) (hr : RdI v l w) :
    Calls Tryz.prog 26 #[v] w fun e w' => e = .returned (.int .i64 (bsM (fun k => l.getD k 0) l.length).1) ∧ Below w.heap.size w w' := by
  obtain ⟨a, c, rfl, hr⟩ := hr
  obtain ⟨f, hf⟩ : ∃ f : Nat → Int, f = fun k => l.getD k 0 := ⟨_, rfl⟩
  have HR : Hid (l = [] ∨ ∃ g o, a = some ⟨g, o, none⟩ ∧ l.length ≤ c ∧ ∀ j, j < l.length → w.cell? ⟨g, o + j, none⟩ = some (.int .i64 (f j))) := (by rw [hf]; exact hr : _ ∨ _)
  rw [← hf]
  clear hr hf
  go_enter Tryz.func26, Tryz.ntmps26
  go_wp2
  go_loopw [3, 4, 5] (fun b m i wr => ∃ k n : Nat, k ≤ l.length ∧ b = .int .i64 (bsM f k).1 ∧ m = .int .i64 (bsM f k).2 ∧ i = .int .i64 k ∧ wr = w.drewN n) (fun _ _ i _ => l.length - (intOf i).toNat)
  case atStart => exact ⟨0, 0, Nat.zero_le _, rfl, rfl, rfl, rfl⟩
  case round =>
    obtain ⟨k, n, hk, rfl, rfl, rfl, rfl⟩ := hrel
    by_cases hlt : k < l.length
    · rcases HR.out with h | ⟨g, o, rfl, hc, hcell⟩
      · rw [h] at hlt; simp at hlt
      have d := hcell k hlt
      clear hcell
      have YY : (bsM f k).2 < f k → Hid (bsM f (k + 1) = ((k : Int), f k)) := fun h => bsM_yes h
      have NN : f k ≤ (bsM f k).2 → Hid (bsM f (k + 1) = bsM f k) := fun h => bsM_no (Int.not_lt.2 h)
      generalize f k = X at d YY NN
      generalize hM : (bsM f k).2 = M at *
      have HM : Hid ((bsM f k).2 = M) := hM
      clear hM
      by_cases hq : M < X
      · have yy := YY hq
        clear YY NN
        go_wp2_with fail
        go_quiet (fail)
        go_wp2
        go_roundw
        case rel => exact ⟨k + 1, n + nq, by omega, by rw [yy.out], by rw [yy.out], by go_num, rfl⟩
        case measure => simp [intOf]; omega
      · have nn := NN (Int.not_lt.1 hq)
        clear YY NN
        go_wp2
        go_roundw
        case rel => exact ⟨k + 1, n, by omega, by rw [nn.out], by rw [nn.out, HM.out], by go_num, rfl⟩
        case measure => simp [intOf]; omega
    · obtain rfl : k = l.length := by omega
      go_wp2
      go_ret
      exact ⟨rfl, below_drewN (Below.refl _ _) _⟩

end Ac
end Go.Proofs.YthfckgdaencagaaGreatDoor

/-
  The law's offers; the document's Choose.
-/
set_option maxRecDepth 100000
set_option linter.unusedVariables false
set_option linter.unusedSimpArgs false
namespace Go.Proofs.YthfckgdaencagaaGreatDoor
open Go.RowKit Go.Shelf
namespace Ac
open Oc Tg

/-- A media type as its cells lie. -/
structure Mw where
  ty : ByteArray
  sub : ByteArray
  a : Option Addr
  n : Nat
  c : Nat
def mw0 : Mw := ⟨⟨#[]⟩, ⟨#[]⟩, none, 0, 0⟩
def nthQ (t : List Mw) (j : Nat) : Mw := t.getD j mw0
def encQ1 (r : Mw) : List Value := [.string r.ty, .string r.sub, .slice r.a r.n r.c]
def encQ (l : List Mw) : List Value := l.flatMap encQ1
theorem encQ_snoc (l : List Mw) (r : Mw) : encQ (l ++ [r]) = encQ l ++ encQ1 r := by unfold encQ; rw [List.flatMap_append]; simp
def OwnQ (T B : Nat) (v : Value) (l : List Mw) (w : World) : Prop := w.ownsRow B T 3 v l.length (encQ l)
theorem ownQ_empty {B : Nat} (T : Nat) (w : World) (hB : B ≤ w.heap.size) : OwnQ T B (.slice (some ⟨w.heap.size, 0, none⟩) 0 0) [] (w.alloc (.cells #[] T)) :=
  ⟨by simp [encQ], .inr ⟨w.heap.size, 0, #[], rfl, hB, heap_alloc_new w _, by simp, by decide, by simp, by simp [encQ]⟩⟩
theorem OwnQ.below {T B : Nat} {v : Value} {t : List Mw} {w w' : World} (h : OwnQ T B v t w) (b : Below w.heap.size w w') : OwnQ T B v t w' := by
  refine ⟨h.1, ?_⟩
  rcases h.2 with hn | ⟨g, cap, cur, rfl, hb, hg, rest⟩
  · exact .inl hn
  · exact .inr ⟨g, cap, cur, rfl, hb, (b.block g (Array.getElem?_eq_some_iff.1 hg).1).trans hg, rest⟩
theorem infoQ : (Tryz.prog.info? 40).map (fun i => (i.zero, i.size, i.bytes)) = some (some (.agg #[.string ⟨#[]⟩, .string ⟨#[]⟩, .slice none 0 0]), 3, 56) := by kernel_rfl

theorem wp_appQ {ops : Array Oper} {rest : List Oper} {o : Oper} {a : Act} {Q : Exit → Act → World → Prop} (T S : Nat) (hinfo : (Tryz.prog.info? T).map (fun i => (i.zero, i.size, i.bytes)) = some (some (.agg #[.string ⟨#[]⟩, .string ⟨#[]⟩, .slice none 0 0]), 3, 56))
    (hund : Tryz.prog.underlying S = some (.slice T)) (hgd : o.guard = none) (s x : Operand)
    (ho : o.op = .call { callee := .builtin .append, args := #[s, x], argTypes := #[S, S] }) (B : Nat) (v : Value) (t : List Mw) (W : World) (p : Mw)
    (hs : a.eval s = v) (hown : OwnQ T B v t W) (g : Nat) (hx : a.eval x = .slice (some ⟨g, 0, none⟩) 1 1) (hg : g = W.heap.size) (hlen : t.length + 1 ≤ 2147483648) (hB : B ≤ W.heap.size)
    (h : ∀ v' w', OwnQ T B v' (t ++ [p]) w' → Below B W w' → (∀ k, k < W.heap.size → v.ownBlock ≠ some k → w'.heap[k]? = W.heap[k]?) → wpList Tryz.prog ops Q rest (a.put o.dst v') w') : wpList Tryz.prog ops Q (o :: rest) a (W.alloc (.cells #[.string p.ty, .string p.sub, .slice p.a p.n p.c] T)) := by
  subst hg
  obtain ⟨i0, hi, hz0, hz1, hz2⟩ := info_parts hinfo
  refine wpList_append_own_at _ hgd s x S ho B T i0 (.agg #[.string ⟨#[]⟩, .string ⟨#[]⟩, .slice none 0 0]) 3 56 hund hi hz0 hz1 hz2 rfl (by decide) v t.length _ hs (World.ownsRow.alloc hown _) ⟨W.heap.size, 0, none⟩ 1 1 (encQ1 p) hx rfl ?_ ?_ ?_ ?_ ?_ ?_
  · intro j u hj
    unfold encQ1 at hj
    match j, hj with
    | 0, hj => simp at hj; subst hj; simp [Addr.add]
    | 1, hj => simp at hj; subst hj; simp [Addr.add]
    | 2, hj => simp at hj; subst hj; simp [Addr.add]
  · intro u hu
    unfold encQ1 at hu
    simp at hu
    rcases hu with rfl | rfl | rfl <;> rfl
  · unfold maxLen; omega
  · omega
  · simp; omega
  · intro v' w' h1 h2 _ h4
    refine h v' w' ?_ (((Below.refl B W).alloc hB _).grown h2 (by simp; omega) (fun k hk => (World.ownsRow.lt hown k hk).1)) (fun k hk hne => (h2.block k (by simp; omega) (fun e => hne e.symm)).trans (Lib.alloc_old W _ k hk))
    unfold OwnQ
    rw [encQ_snoc, List.length_append]
    exact h1
theorem encQ_at : ∀ (t : List Mw) (j : Nat), j < t.length → (encQ t)[j * 3]? = some (.string (nthQ t j).ty) ∧ (encQ t)[j * 3 + 1]? = some (.string (nthQ t j).sub) ∧ (encQ t)[j * 3 + 2]? = some (.slice (nthQ t j).a (nthQ t j).n (nthQ t j).c)
  | [], j, h => by simp at h
  | p :: t, 0, _ => ⟨rfl, rfl, rfl⟩
  | p :: t, j + 1, h => by
    have ih := encQ_at t j (by simpa using h)
    have e : encQ (p :: t) = [.string p.ty, .string p.sub, .slice p.a p.n p.c] ++ encQ t := rfl
    rw [e]
    have n : nthQ (p :: t) (j + 1) = nthQ t j := by unfold nthQ; simp
    rw [n, show (j + 1) * 3 = j * 3 + 3 by omega, show j * 3 + 3 + 1 = (j * 3 + 1) + 3 by omega, show j * 3 + 3 + 2 = (j * 3 + 2) + 3 by omega]
    exact ih
theorem keepQP {T T' B B' : Nat} {v u : Value} {t : List Mw} {ps : List Prm} {W w' : World} (ho : OwnQ T B v t W) (hp : OwnP T' B' u ps W) (hT : T' ≠ T) (hk : ∀ k, k < W.heap.size → v.ownBlock ≠ some k → w'.heap[k]? = W.heap[k]?) : OwnP T' B' u ps w' := by
  refine ⟨hp.1, ?_⟩
  rcases hp.2 with hn | ⟨g, cap, cur, rfl, hb, hg, rest⟩
  · exact .inl hn
  · refine .inr ⟨g, cap, cur, rfl, hb, ?_, rest⟩
    rw [hk g (Array.getElem?_eq_some_iff.1 hg).1 ?_]
    · exact hg
    · intro e
      rcases ho.2 with ⟨rfl, _⟩ | ⟨g2, cap2, cur2, rfl, _, hg2, _⟩
      · cases e
      · have e' : g2 = g := by simpa [Value.ownBlock] using e
        subst e'
        rw [hg] at hg2
        simp at hg2
        exact hT hg2.2
def LikeQ (T : Nat) (ms : List Mw) (t : List Md) (W : World) : Prop := ∀ j, j < ms.length → (nthQ ms j).ty = (nthM t j).ty ∧ (nthQ ms j).sub = (nthM t j).sub ∧ OwnP T 0 (.slice (nthQ ms j).a (nthQ ms j).n (nthQ ms j).c) (nthM t j).ps W
theorem LikeQ.below {T : Nat} {ms : List Mw} {t : List Md} {W W' : World} (h : LikeQ T ms t W) (b : Below W.heap.size W W') : LikeQ T ms t W' := fun j hj => by
  obtain ⟨h1, h2, h4⟩ := h j hj
  exact ⟨h1, h2, h4.below b⟩
theorem nthQ_snoc (ms : List Mw) (r : Mw) : nthQ (ms ++ [r]) ms.length = r := by unfold nthQ; simp [List.getD_eq_getElem?_getD]
theorem nthQ_old (ms : List Mw) (r : Mw) {j : Nat} (h : j < ms.length) : nthQ (ms ++ [r]) j = nthQ ms j := by
  unfold nthQ
  rw [List.getD_eq_getElem?_getD, List.getD_eq_getElem?_getD, List.getElem?_append_left h]
theorem LikeQ.snoc {T T' B n c : Nat} {a : Option Addr} {ms : List Mw} {t : List Md} {v7 : Value} {W w7 : World} {N1 N2 : ByteArray} (hl : LikeQ T ms t W) (ho : OwnQ T' B v7 ms W) (hT : T ≠ T') (hp : OwnP T 0 (.slice a n c) (nthM t ms.length).ps W) (hk : ∀ k, k < W.heap.size → v7.ownBlock ≠ some k → w7.heap[k]? = W.heap[k]?) (e1 : N1 = (nthM t ms.length).ty) (e2 : N2 = (nthM t ms.length).sub) : LikeQ T (ms ++ [⟨N1, N2, a, n, c⟩]) t w7 := by
  intro j hj
  rw [List.length_append] at hj
  rcases Nat.lt_or_ge j ms.length with h | h
  · rw [nthQ_old _ _ h]
    obtain ⟨h1, h2, h4⟩ := hl j h
    exact ⟨h1, h2, keepQP ho h4 hT hk⟩
  · obtain rfl : j = ms.length := by simp at hj; omega
    rw [nthQ_snoc]
    exact ⟨e1, e2, keepQP ho hp hT hk⟩
theorem RdMs.of_like {T T' B : Nat} {ms : List Mw} {t : List Md} {v : Value} {W : World} (h : OwnQ T B v ms W) (hl : LikeQ T' ms t W) (hn : ms.length = t.length) : RdMs v t W := by
  have hall := h
  rcases h.2 with ⟨rfl, h0⟩ | ⟨g, cap, cur, rfl, _, hg, hnn, _⟩
  · have ht : t = [] := List.length_eq_zero_iff.1 (by rw [← hn]; exact h0)
    exact ⟨none, 0, by rw [ht]; rfl, .inl ht⟩
  · refine ⟨_, _, by rw [← hn], .inr ⟨g, 0, rfl, by omega, fun j hj => ?_⟩⟩
    obtain ⟨e0, e1, e2⟩ := encQ_at ms j (by omega)
    have ea : ∀ k, Addr.add ⟨g, 0, none⟩ k = ⟨g, 0 + k, none⟩ := fun k => by unfold Addr.add; split <;> simp_all
    have c0 := World.ownsRow.cells hall (g := g) rfl _ _ e0
    have c1 := World.ownsRow.cells hall (g := g) rfl _ _ e1
    have c2 := World.ownsRow.cells hall (g := g) rfl _ _ e2
    rw [ea] at c0 c1 c2
    obtain ⟨l0, l1, l2⟩ := hl j (by omega)
    rw [l0] at c0
    rw [l1] at c1
    exact ⟨c0, c1, _, c2, l2.rd, nilP_own l2⟩

end Ac
end Go.Proofs.YthfckgdaencagaaGreatDoor
