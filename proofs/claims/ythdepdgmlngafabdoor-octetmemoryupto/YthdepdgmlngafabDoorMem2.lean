/-
  The law OctetMemory: its appends.
-/
import Derived.Test.YthdepdgmlngafabDoorMem1
set_option linter.unusedVariables false
set_option linter.unusedSimpArgs false
namespace Go.Proofs.YthdepdgmlngafabDoor
open Go.RowKit Go.Shelf
namespace Oc
variable {B : Nat} {A E : List (List UInt8)} {C : List Prm} {na nc nl np : Nat} {V : Nat → Value} {N : Nat → Nat} {X : Nat → List Value} {w w' : World}

theorem owns_one {w : World} {B T S n : Nat} {v : Value} {xs : List Value} (h : w.ownsRow B T S v n xs) : v.oneCell' = true := by
  rcases owns_form h with ⟨rfl, _⟩ | ⟨g, cap, rfl, _⟩ <;> rfl
theorem infoL : (Tryd.prog.info? 22).map (fun i => (i.zero, i.size, i.bytes)) = some (some (.slice none 0 0), 1, 24) := by kernel_rfl
theorem infoC : (Tryd.prog.info? 34).map (fun i => (i.zero, i.size, i.bytes)) = some (some (.slice none 0 0), 1, 24) := by kernel_rfl
theorem empty_row {B T : Nat} (w : World) (hB : B ≤ w.heap.size) : (w.alloc (.cells #[] T)).ownsRow B T 1 (.slice (some ⟨w.heap.size, 0, none⟩) 0 0) 0 [] :=
  ⟨by simp, .inr ⟨w.heap.size, 0, #[], rfl, hB, heap_alloc_new w _, by simp, by decide, by simp, by simp⟩⟩
theorem Mx.start {w1 w2 w3 w4 : World} {vl vk vp : Value} (hB : B ≤ w1.heap.size) (h2 : OwnS w1.heap.size vl A w2) (b2 : Below w1.heap.size w1 w2) (h3 : OwnS w2.heap.size vk E w3) (b3 : Below w2.heap.size w2 w3) (h4 : OwnP 64 w3.heap.size vp C w4) (b4 : Below w3.heap.size w3 w4) :
    ∃ V, (∃ N X, Mx B A E C 0 0 0 0 V N X ((w4.alloc (.cells #[] 22)).alloc (.cells #[] 34))) ∧ V 0 = .slice (some ⟨w4.heap.size, 0, none⟩) 0 0 ∧ V 1 = .slice (some ⟨w4.heap.size + 1, 0, none⟩) 0 0 ∧ V 2 = vl ∧ V 3 = vk ∧ V 4 = vp := by
  have F0 : Fam B (fun _ => False) tyM szM (fun _ => 0) (fun _ => .slice none 0 0) (fun _ => []) w1 := ⟨fun _ h => h.elim, fun _ _ _ h => h.elim⟩
  have s2 := b2.size
  have s3 := b3.size
  have s4 := b4.size
  have F2 := F0.add (i := 2) (fun h => h) b2 hB (v := vl) (n := A.length) (x := encS A) h2
  have F3 := F2.add (i := 3) (by simp) b3 (by omega) (v := vk) (n := E.length) (x := encS E) h3
  have F4 := F3.add (i := 4) (by simp) b4 (by omega) (v := vp) (n := C.length) (x := encP C) h4
  have F5 := F4.add (i := 0) (by simp) ((Below.refl _ w4).alloc (Nat.le_refl _) (.cells #[] 22)) (by omega) (v := .slice (some ⟨w4.heap.size, 0, none⟩) 0 0) (n := 0) (x := []) (empty_row w4 (Nat.le_refl _))
  have F6 := F5.add (i := 1) (by simp) ((Below.refl _ (w4.alloc (.cells #[] 22))).alloc (Nat.le_refl _) (.cells #[] 34)) (by simp; omega) (v := .slice (some ⟨(w4.alloc (.cells #[] 22)).heap.size, 0, none⟩) 0 0) (n := 0) (x := []) (empty_row _ (Nat.le_refl _))
  refine ⟨_, ⟨_, _, ⟨F6.dom (fun j hj => by unfold Oc.dom at hj; omega), ?_, ?_, ?_, ?_, ?_, ?_, ?_, ?_, ?_, ?_, ?_, ?_⟩⟩, ?_, ?_, ?_, ?_, ?_⟩
  all_goals first | (intro q hq; omega) | (simp [upd]; done)
theorem wp_appL {ops : Array Oper} {rest : List Oper} {o : Oper} {a : Act} {Q : Exit → Act → World → Prop} {W : World} (hgd : o.guard = none) (s x : Operand)
    (ho : o.op = .call { callee := .builtin .append, args := #[s, x], argTypes := #[47, 47] }) (M : ∃ N X, Mx B A E C na nc nl np V N X W) (hl : nl + 2 ≤ na) (h6 : na ≤ 6) (v0 : Value) (hs0 : a.eval s = v0) (hv0 : v0 = V 0) (va vb : Value) (ha : V (10 + nl) = va) (hb : V (10 + nl + 1) = vb)
    (g : Nat) (hx : a.eval x = .slice (some ⟨g, 0, none⟩) 2 2) (hg : g = W.heap.size) (hB : B ≤ W.heap.size)
    (h : ∀ v' w', (∃ N X, Mx B A E C na nc (nl + 2) np (upd V 0 v') N X w') → Below B W w' → wpList Tryd.prog ops Q rest (a.put o.dst v') w') : wpList Tryd.prog ops Q (o :: rest) a (W.alloc (.cells #[va, vb] 22)) := by
  obtain ⟨N, X, M⟩ := M
  subst hg ha hb
  have hs := hs0.trans hv0
  have hown := M.fam.own 0 (by unfold dom; omega)
  rw [M.n0] at hown
  refine wp_keep hgd s x 47 ho B 22 (.slice none 0 0) 1 24 Tryd.underlying47 infoL rfl (by decide) (V 0) nl (X 0) W [V (10 + nl), V (10 + nl + 1)] hs hown 2 (by decide) hx rfl ?_ (by omega) (by decide) hB ?_
  · intro u hu
    simp at hu
    rcases hu with rfl | rfl
    · exact owns_one (M.fam.own (10 + nl) (by unfold dom; omega))
    · exact owns_one (M.fam.own (10 + nl + 1) (by unfold dom; omega))
  · intro v' w' h1 h2 h3 h4
    refine h v' w' (M.appL hl h1 h2 ?_) ((Below.refl B W).grown h2 hB (fun k hk => (World.ownsRow.lt hown k hk).1))
    rcases h4 with ⟨g, cap, e1, e2⟩ | h4
    · left; rw [e1, e2]; rfl
    · exact .inr h4
theorem wp_appC {ops : Array Oper} {rest : List Oper} {o : Oper} {a : Act} {Q : Exit → Act → World → Prop} {W : World} (hgd : o.guard = none) (s x : Operand)
    (ho : o.op = .call { callee := .builtin .append, args := #[s, x], argTypes := #[48, 48] }) (M : ∃ N X, Mx B A E C na nc nl np V N X W) (hl : np + 1 ≤ nc) (h6 : nc ≤ 6) (v0 : Value) (hs0 : a.eval s = v0) (hv0 : v0 = V 1) (va : Value) (ha : V (20 + np) = va)
    (g : Nat) (hx : a.eval x = .slice (some ⟨g, 0, none⟩) 1 1) (hg : g = W.heap.size) (hB : B ≤ W.heap.size)
    (h : ∀ v' w', (∃ N X, Mx B A E C na nc nl (np + 1) (upd V 1 v') N X w') → Below B W w' → wpList Tryd.prog ops Q rest (a.put o.dst v') w') : wpList Tryd.prog ops Q (o :: rest) a (W.alloc (.cells #[va] 34)) := by
  obtain ⟨N, X, M⟩ := M
  subst hg ha
  have hs := hs0.trans hv0
  have hown := M.fam.own 1 (by unfold dom; omega)
  rw [M.n1] at hown
  refine wp_keep hgd s x 48 ho B 34 (.slice none 0 0) 1 24 Tryd.underlying48 infoC rfl (by decide) (V 1) np (X 1) W [V (20 + np)] hs hown 1 (by decide) hx rfl ?_ (by omega) (by decide) hB ?_
  · intro u hu
    simp at hu
    subst hu
    exact owns_one (M.fam.own (20 + np) (by unfold dom; omega))
  · intro v' w' h1 h2 h3 h4
    refine h v' w' (M.appP hl h1 h2 ?_) ((Below.refl B W).grown h2 hB (fun k hk => (World.ownsRow.lt hown k hk).1))
    rcases h4 with ⟨g, cap, e1, e2⟩ | h4
    · left; rw [e1, e2]; rfl
    · exact .inr h4
/-- A text more under another name. -/
theorem wp_growS {ops : Array Oper} {rest : List Oper} {o : Oper} {a : Act} {Q : Exit → Act → World → Prop} {W : World} (hgd : o.guard = none) (s x : Operand)
    (ho : o.op = .call { callee := .builtin .append, args := #[s, x], argTypes := #[22, 22] }) {q m : Nat} (hq : q < 6) (gv : Value) (P : PhA B A E C V (10 + q) gv m W) (hn : nA A E q + m + 1 ≤ 2147483648) (hs : a.eval s = gv) (y : ByteArray)
    (g : Nat) (hx : a.eval x = .slice (some ⟨g, 0, none⟩) 1 1) (hg : g = W.heap.size) (hB : B ≤ W.heap.size)
    (h : ∀ v' w', PhA B A E C V (10 + q) v' (m + 1) w' → Below B W w' → wpList Tryd.prog ops Q rest (a.put o.dst v') w') : wpList Tryd.prog ops Q (o :: rest) a (W.alloc (.cells #[.string y] 9)) := by
  obtain ⟨N, X, M, ha, hc, ys, h1, h2, h3⟩ := P
  subst hg
  have hown := h1
  rw [ty_s q hq, sz_s q hq] at hown
  obtain ⟨i0, hi, hz0, hz1, hz2⟩ := infoS
  refine wp_keep hgd s x 22 ho B 9 (.string ⟨#[]⟩) 1 16 Tryd.underlying22 infoStr rfl (by decide) gv (N (10 + q) + m) ys W [.string y] hs hown 1 (by decide) hx rfl ?_ (by rw [M.ns q hq]; omega) (by decide) hB ?_
  · intro u hu
    simp at hu
    subst hu
    rfl
  · intro v' w' k1 k2 k3 k4
    have st := M.fam.step (i := 10 + q) (m := m) (by unfold dom; omega) h1 h2 h3 (w' := w') (gv' := v') (news := [.string y]) (by rw [ty_s q hq, sz_s q hq]; exact k1) k2 (by rw [ty_s q hq, sz_s q hq]; exact k3) k4
    exact h v' w' ⟨N, X, { M with fam := st.1 }, ha, hc, st.2⟩ ((Below.refl B W).grown k2 hB (fun k hk => (World.ownsRow.lt hown k hk).1))
/-- A parameter more under another name. -/
theorem wp_growP {ops : Array Oper} {rest : List Oper} {o : Oper} {a : Act} {Q : Exit → Act → World → Prop} {W : World} (hgd : o.guard = none) (s x : Operand)
    (ho : o.op = .call { callee := .builtin .append, args := #[s, x], argTypes := #[34, 34] }) {q m : Nat} (hq : q < 3) (gv : Value) (P : PhA B A E C V (20 + q) gv m W) (hn : C.length + m + 1 ≤ 2147483648) (hs : a.eval s = gv) (y y2 : ByteArray) (b : Bool)
    (g : Nat) (hx : a.eval x = .slice (some ⟨g, 0, none⟩) 1 1) (hg : g = W.heap.size) (hB : B ≤ W.heap.size)
    (h : ∀ v' w', PhA B A E C V (20 + q) v' (m + 1) w' → Below B W w' → wpList Tryd.prog ops Q rest (a.put o.dst v') w') : wpList Tryd.prog ops Q (o :: rest) a (W.alloc (.cells #[.string y, .string y2, .bool b] 51)) := by
  obtain ⟨N, X, M, ha, hc, ys, h1, h2, h3⟩ := P
  subst hg
  have hown := h1
  rw [ty_p q, sz_p q] at hown
  refine wp_keep hgd s x 34 ho B 51 (.agg #[.string ⟨#[]⟩, .string ⟨#[]⟩, .bool false]) 3 40 Tryd.underlying34 infoP rfl (by decide) gv (N (20 + q) + m) ys W [.string y, .string y2, .bool b] hs hown 1 (by decide) hx rfl ?_ (by rw [M.nc q hq]; omega) (by decide) hB ?_
  · intro u hu
    simp at hu
    rcases hu with rfl | rfl | rfl <;> rfl
  · intro v' w' k1 k2 k3 k4
    have st := M.fam.step (i := 20 + q) (m := m) (by unfold dom; omega) h1 h2 h3 (w' := w') (gv' := v') (news := [.string y, .string y2, .bool b]) (by rw [ty_p q, sz_p q]; exact k1) k2 (by rw [ty_p q, sz_p q]; exact k3) k4
    exact h v' w' ⟨N, X, { M with fam := st.1 }, ha, hc, st.2⟩ ((Below.refl B W).grown k2 hB (fun k hk => (World.ownsRow.lt hown k hk).1))

end Oc
end Go.Proofs.YthdepdgmlngafabDoor
