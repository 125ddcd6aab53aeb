/-
  Lists of elements of two cells that came out, kept in a list of lists; two rows beside them; all apart. Marked and grown.
-/
import Derived.Test.YtggmidkmpgjnoaaDoorMgH
set_option linter.unusedVariables false
set_option linter.unusedSimpArgs false
namespace Go.Proofs.YtggmidkmpgjnoaaDoor
open Go.RowKit Go.Shelf
namespace Zm
open Oc

def tyZ (TL T TR : Nat) (i : Nat) : Nat := if i = 0 then TL else if i < 10 then TR else T
def szZ (i : Nat) : Nat := if i = 0 then 1 else 2
def domZ (na j : Nat) : Prop := j ≤ 2 ∨ (10 ≤ j ∧ j < 10 + na)
theorem ty_z {TL T TR : Nat} (q : Nat) : tyZ TL T TR (10 + q) = T := by unfold tyZ; rw [if_neg (by omega), if_neg (by omega)]
theorem sz_z (q : Nat) : szZ (10 + q) = 2 := by unfold szZ; rw [if_neg (by omega)]

structure Mz (TL T TR B : Nat) (L : Nat → Nat) (m1 m2 : Nat) (r1 r2 : List Value) (na nl : Nat) (V : Nat → Value) (N : Nat → Nat) (X : Nat → List Value) (w : World) : Prop where
  fam : Fam B (domZ na) (tyZ TL T TR) szZ N V X w
  n0 : N 0 = nl
  n1 : N 1 = m1
  n2 : N 2 = m2
  ns : ∀ q, q < na → N (10 + q) = L q
  x0 : X 0 = (List.range nl).map (fun q => V (10 + q))
  x1 : X 1 = r1
  x2 : X 2 = r2

variable {TL T TR B : Nat} {L : Nat → Nat} {m1 m2 : Nat} {r1 r2 : List Value} {na nl : Nat} {V : Nat → Value} {N : Nat → Nat} {X : Nat → List Value} {w w' : World}
theorem Mz.below (M : Mz TL T TR B L m1 m2 r1 r2 na nl V N X w) (b : Below w.heap.size w w') : Mz TL T TR B L m1 m2 r1 r2 na nl V N X w' := { M with fam := M.fam.below b }
theorem restr {D D' : Nat → Prop} {T S : Nat → Nat} (F : Fam B D T S N V X w) (h : ∀ j, D' j → D j) : Fam B D' T S N V X w := ⟨fun i hi => F.own i (h i hi), fun i j g hi hj => F.apart i j g (h i hi) (h j hj)⟩
/-- A list more. -/
theorem Mz.addS (M : Mz TL T TR B L m1 m2 r1 r2 na nl V N X w) (hl : nl ≤ na) (b : Below w.heap.size w w') (hB : B ≤ w.heap.size) {v : Value} {n : Nat} {x : List Value} (h : w'.ownsRow w.heap.size T 2 v n x) (ht : n = L na) :
    ∃ N' X', Mz TL T TR B L m1 m2 r1 r2 (na + 1) nl (upd V (10 + na) v) N' X' w' := by
  have hnd : ¬ domZ na (10 + na) := by unfold domZ; omega
  have F := M.fam.add (i := 10 + na) hnd b hB (v := v) (n := n) (x := x) (by rw [ty_z na, sz_z na]; exact h)
  refine ⟨_, _, ⟨restr F (fun j hj => by unfold domZ at *; omega), ?_, ?_, ?_, ?_, ?_, ?_, ?_⟩⟩
  · rw [upd_other _ _ (by omega)]; exact M.n0
  · rw [upd_other _ _ (by omega)]; exact M.n1
  · rw [upd_other _ _ (by omega)]; exact M.n2
  · intro q hq
    by_cases e : q = na
    · rw [e, upd_same]; exact ht
    · rw [upd_other _ _ (by omega)]; exact M.ns q (by omega)
  · rw [upd_other _ _ (by omega), M.x0]
    refine List.map_congr_left (fun q hq => ?_)
    rw [upd_other _ _ (by have := List.mem_range.1 hq; omega)]
  · rw [upd_other _ _ (by omega)]; exact M.x1
  · rw [upd_other _ _ (by omega)]; exact M.x2
theorem range_snoc {α : Type} (n : Nat) (f : Nat → α) : (List.range (n + 1)).map f = (List.range n).map f ++ [f n] := by rw [List.range_succ, List.map_append]; rfl
theorem range_more {α : Type} (n k : Nat) (f : Nat → α) : (List.range (n + k)).map f = (List.range n).map f ++ (List.range k).map (fun i => f (n + i)) := by rw [List.range_add, List.map_append, List.map_map]; rfl
/-- Lists are told to the list of lists. -/
theorem Mz.appL (M : Mz TL T TR B L m1 m2 r1 r2 na nl V N X w) (k : Nat) (hl : nl + k ≤ na) {v : Value} (h1 : w'.ownsRow B TL 1 v (nl + k) (X 0 ++ (List.range k).map (fun i => V (10 + (nl + i))))) (hg : w.grownBy w' (V 0).ownBlock) (hv : v.ownBlock = (V 0).ownBlock ∨ ∃ g, v.ownBlock = some g ∧ w.heap.size ≤ g) :
    ∃ N' X', Mz TL T TR B L m1 m2 r1 r2 na (nl + k) (upd V 0 v) N' X' w' := by
  have F := M.fam.put (i := 0) (by unfold domZ; omega) hg (v := v) (n := nl + k) (x := X 0 ++ (List.range k).map (fun i => V (10 + (nl + i)))) h1 hv
  refine ⟨_, _, ⟨F, ?_, ?_, ?_, ?_, ?_, ?_, ?_⟩⟩
  · rw [upd_same]
  · rw [upd_other _ _ (by omega)]; exact M.n1
  · rw [upd_other _ _ (by omega)]; exact M.n2
  · intro q hq
    rw [upd_other _ _ (by omega)]; exact M.ns q hq
  · rw [upd_same, M.x0, range_more]
    congr 1
    · exact List.map_congr_left (fun q hq => (upd_other _ _ (by omega)).symm)
    · exact List.map_congr_left (fun q hq => (upd_other _ _ (by omega)).symm)
  · rw [upd_other _ _ (by omega)]; exact M.x1
  · rw [upd_other _ _ (by omega)]; exact M.x2

/-! What is written -/
def Da (K : Nat) (L : Nat → Nat) (dg : Nat → Nat → Value × Value) (X : Nat → List Value) (i j : Nat) : Prop := ∀ q c, q < K → c < L q → (q < i ∨ q = i ∧ c < j) → (X (10 + q))[c * 2]? = some (dg q c).1 ∧ (X (10 + q))[c * 2 + 1]? = some (dg q c).2
def Ph (TL T TR B K : Nat) (L : Nat → Nat) (m1 m2 : Nat) (r1 r2 : List Value) (dg : Nat → Nat → Value × Value) (V : Nat → Value) (i j : Nat) (w : World) : Prop := ∃ N X, Mz TL T TR B L m1 m2 r1 r2 K K V N X w ∧ Da K L dg X i j
variable {K i j : Nat} {dg : Nat → Nat → Value × Value}
theorem Ph.start (M : ∃ N X, Mz TL T TR B L m1 m2 r1 r2 K K V N X w) : Ph TL T TR B K L m1 m2 r1 r2 dg V 0 0 w := by
  obtain ⟨N, X, M⟩ := M
  exact ⟨N, X, M, fun q c _ _ h => by omega⟩
theorem Ph.below (P : Ph TL T TR B K L m1 m2 r1 r2 dg V i j w) (b : Below w.heap.size w w') : Ph TL T TR B K L m1 m2 r1 r2 dg V i j w' := by
  obtain ⟨N, X, M, h⟩ := P
  exact ⟨N, X, M.below b, h⟩
theorem Ph.nextS (P : Ph TL T TR B K L m1 m2 r1 r2 dg V i (L i) w) : Ph TL T TR B K L m1 m2 r1 r2 dg V (i + 1) 0 w := by
  obtain ⟨N, X, M, ha⟩ := P
  refine ⟨N, X, M, fun q c hq hn h => ha q c hq hn ?_⟩
  by_cases e : q = i
  · right; exact ⟨e, e ▸ hn⟩
  · left; omega
theorem Ph.formS (P : Ph TL T TR B K L m1 m2 r1 r2 dg V i j w) (q : Nat) (hq : q < K) : (V (10 + q) = .slice none 0 0 ∧ L q = 0) ∨ ∃ g cap, V (10 + q) = .slice (some ⟨g, 0, none⟩) (L q) cap ∧ L q ≤ cap := by
  obtain ⟨N, X, M, _⟩ := P
  have := owns_form (M.fam.own (10 + q) (by unfold domZ; omega))
  rwa [M.ns q hq] at this
theorem Ph.lenS (P : Ph TL T TR B K L m1 m2 r1 r2 dg V i j w) (q : Nat) (hq : q < K) : ∃ a c, V (10 + q) = .slice a (L q) c := by
  rcases P.formS q hq with ⟨e, h⟩ | ⟨g, cap, e, _⟩
  · exact ⟨none, 0, by rw [e, h]⟩
  · exact ⟨_, _, e⟩
theorem Ph.formL (P : Ph TL T TR B K L m1 m2 r1 r2 dg V i j w) (hK : 0 < K) : ∃ g cap, V 0 = .slice (some ⟨g, 0, none⟩) K cap ∧ K ≤ cap := by
  obtain ⟨N, X, M, _⟩ := P
  have := owns_form (M.fam.own 0 (by unfold domZ; omega))
  rw [M.n0] at this
  rcases this with ⟨_, h⟩ | h
  · omega
  · exact h
theorem Ph.cellL (P : Ph TL T TR B K L m1 m2 r1 r2 dg V i j w) {g cap : Nat} (hv : V 0 = .slice (some ⟨g, 0, none⟩) K cap) (q : Nat) (hq : q < K) : w.cell? ⟨g, q, none⟩ = some (V (10 + q)) := by
  obtain ⟨N, X, M, _⟩ := P
  have h := M.fam.own 0 (by unfold domZ; omega)
  rw [hv, M.n0] at h
  refine owns_cell h ?_
  rw [M.x0]
  simp [hq]
theorem Ph.geS (P : Ph TL T TR B K L m1 m2 r1 r2 dg V i j w) (q : Nat) (hq : q < K) {g n cap : Nat} (hv : V (10 + q) = .slice (some ⟨g, 0, none⟩) n cap) : B ≤ g := by
  obtain ⟨N, X, M, _⟩ := P
  exact (World.ownsRow.lt (M.fam.own (10 + q) (by unfold domZ; omega)) g (by rw [hv]; rfl)).1
/-- What is at hand of a list's cell ahead of a write. -/
theorem Ph.freeS (P : Ph TL T TR B K L m1 m2 r1 r2 dg V i j w) (q : Nat) (hq : q < K) {g cap : Nat} (hv : V (10 + q) = .slice (some ⟨g, 0, none⟩) (L q) cap) (c : Nat) (hc : c < L q * 2) : (∃ u, w.cell? ⟨g, c, none⟩ = some u) ∧ w.frozen? ⟨g, c, none⟩ = false := by
  obtain ⟨N, X, M, _⟩ := P
  have h := M.fam.own (10 + q) (by unfold domZ; omega)
  rw [hv, M.ns q hq] at h
  have hl := h.1
  rw [sz_z q] at hl
  exact ⟨⟨_, owns_cell h (List.getElem?_eq_getElem (by omega : c < (X (10 + q)).length))⟩, owns_free h c⟩
theorem set2 (xs : List Value) (c c' : Nat) (a b : Value) (h : c * 2 + 1 < xs.length) : ((xs.set (c * 2) a).set (c * 2 + 1) b)[c' * 2]? = (if c' = c then some a else xs[c' * 2]?) ∧ ((xs.set (c * 2) a).set (c * 2 + 1) b)[c' * 2 + 1]? = (if c' = c then some b else xs[c' * 2 + 1]?) := by
  constructor
  · rw [List.getElem?_set_ne (by omega), List.getElem?_set]
    by_cases e : c' = c
    · subst e; rw [if_pos rfl, if_pos (by omega), if_pos rfl]
    · rw [if_neg (by omega), if_neg e]
  · rw [List.getElem?_set]
    by_cases e : c' = c
    · subst e; rw [if_pos rfl, if_pos (by simpa using h), if_pos rfl]
    · rw [if_neg (by omega), List.getElem?_set_ne (by omega), if_neg e]
/-- An element is written. -/
theorem Ph.setS (P : Ph TL T TR B K L m1 m2 r1 r2 dg V i j w) (hi : i < K) (hj : j < L i) {g cap : Nat} (hv : V (10 + i) = .slice (some ⟨g, 0, none⟩) (L i) cap) :
    Ph TL T TR B K L m1 m2 r1 r2 dg V i (j + 1) ((w.setCell ⟨g, j * 2, none⟩ (dg i j).1).setCell ⟨g, j * 2 + 1, none⟩ (dg i j).2) := by
  obtain ⟨N, X, M, ha⟩ := P
  have hN := M.ns i hi
  have hd : domZ K (10 + i) := by unfold domZ; omega
  have hv' : V (10 + i) = .slice (some ⟨g, 0, none⟩) (N (10 + i)) cap := by rw [hN]; exact hv
  have F := (M.fam.set hd hv' (j * 2) (dg i j).1).set hd hv' (j * 2 + 1) (dg i j).2
  have hl := (M.fam.own (10 + i) hd).1
  rw [sz_z i, hN] at hl
  refine ⟨N, _, ⟨F, M.n0, M.n1, M.n2, M.ns, ?_, ?_, ?_⟩, fun q c hq hn h => ?_⟩
  · rw [upd_other _ _ (by omega), upd_other _ _ (by omega)]; exact M.x0
  · rw [upd_other _ _ (by omega), upd_other _ _ (by omega)]; exact M.x1
  · rw [upd_other _ _ (by omega), upd_other _ _ (by omega)]; exact M.x2
  · by_cases e : q = i
    · subst e
      rw [upd_same, upd_same]
      have hs := set2 (X (10 + q)) j c (dg q j).1 (dg q j).2 (by omega)
      rw [hs.1, hs.2]
      by_cases e2 : c = j
      · subst e2
        rw [if_pos rfl, if_pos rfl]
        exact ⟨rfl, rfl⟩
      · rw [if_neg e2, if_neg e2]
        exact ha q c hq hn (by omega)
    · rw [upd_other _ _ (by omega), upd_other _ _ (by omega)]
      exact ha q c hq hn (by omega)
theorem Ph.readS (P : Ph TL T TR B K L m1 m2 r1 r2 dg V K 0 w) (q : Nat) (hq : q < K) {g cap : Nat} (hv : V (10 + q) = .slice (some ⟨g, 0, none⟩) (L q) cap) (c : Nat) (hc : c < L q) : w.cell? ⟨g, c * 2, none⟩ = some (dg q c).1 ∧ w.cell? ⟨g, c * 2 + 1, none⟩ = some (dg q c).2 := by
  obtain ⟨N, X, M, ha⟩ := P
  have h := M.fam.own (10 + q) (by unfold domZ; omega)
  rw [hv, M.ns q hq] at h
  have := ha q c hq hc (.inl hq)
  exact ⟨owns_cell h this.1, owns_cell h this.2⟩
theorem Mz.rows (M : Mz TL T TR B L m1 m2 r1 r2 na nl V N X w) : w.ownsRow B TR 2 (V 1) m1 r1 ∧ w.ownsRow B TR 2 (V 2) m2 r2 := by
  have h1 := M.fam.own 1 (by unfold domZ; omega)
  have h2 := M.fam.own 2 (by unfold domZ; omega)
  rw [M.n1, M.x1] at h1
  rw [M.n2, M.x2] at h2
  exact ⟨h1, h2⟩
theorem Ph.rows (P : Ph TL T TR B K L m1 m2 r1 r2 dg V i j w) : w.ownsRow B TR 2 (V 1) m1 r1 ∧ w.ownsRow B TR 2 (V 2) m2 r2 := by
  obtain ⟨N, X, M, _⟩ := P
  exact M.rows
/-- A list under another name, grown. -/
def PhA (TL T TR B K : Nat) (L : Nat → Nat) (m1 m2 : Nat) (r1 r2 : List Value) (dg : Nat → Nat → Value × Value) (V : Nat → Value) (r : Nat) (gv : Value) (m : Nat) (w : World) : Prop := ∃ N X, Mz TL T TR B L m1 m2 r1 r2 K K V N X w ∧ Da K L dg X K 0 ∧ Alias B (domZ K) (tyZ TL T TR) szZ N V X (10 + r) gv m w
theorem Ph.alias (P : Ph TL T TR B K L m1 m2 r1 r2 dg V K 0 w) (r : Nat) (hr : r < K) : PhA TL T TR B K L m1 m2 r1 r2 dg V r (V (10 + r)) 0 w := by
  obtain ⟨N, X, M, h1⟩ := P
  exact ⟨N, X, M, h1, M.fam.alias (by unfold domZ; omega)⟩
theorem PhA.done {r m : Nat} {gv : Value} (P : PhA TL T TR B K L m1 m2 r1 r2 dg V r gv m w) : Ph TL T TR B K L m1 m2 r1 r2 dg V K 0 w := by
  obtain ⟨N, X, M, h1, _⟩ := P
  exact ⟨N, X, M, h1⟩
theorem PhA.below {r m : Nat} {gv : Value} (P : PhA TL T TR B K L m1 m2 r1 r2 dg V r gv m w) (b : Below w.heap.size w w') : PhA TL T TR B K L m1 m2 r1 r2 dg V r gv m w' := by
  obtain ⟨N, X, M, h1, h3⟩ := P
  exact ⟨N, X, M.below b, h1, h3.below b⟩

/-! Appends -/
theorem owns_one {w : World} {B T S n : Nat} {v : Value} {xs : List Value} (h : w.ownsRow B T S v n xs) : v.oneCell' = true := by
  rcases owns_form h with ⟨rfl, _⟩ | ⟨g, cap, rfl, _⟩ <;> rfl
theorem empty_row {B T : Nat} (w : World) (hB : B ≤ w.heap.size) : (w.alloc (.cells #[] T)).ownsRow B T 1 (.slice (some ⟨w.heap.size, 0, none⟩) 0 0) 0 [] :=
  ⟨by simp, .inr ⟨w.heap.size, 0, #[], rfl, hB, heap_alloc_new w _, by simp, by decide, by simp, by simp⟩⟩
theorem Mz.start {w1 w2 w3 : World} {v1 v2 : Value} (hB : B ≤ w1.heap.size) (h2 : w2.ownsRow w1.heap.size TR 2 v1 m1 r1) (b2 : Below w1.heap.size w1 w2) (h3 : w3.ownsRow w2.heap.size TR 2 v2 m2 r2) (b3 : Below w2.heap.size w2 w3) :
    ∃ V, (∃ N X, Mz TL T TR B L m1 m2 r1 r2 0 0 V N X (w3.alloc (.cells #[] TL))) ∧ V 0 = .slice (some ⟨w3.heap.size, 0, none⟩) 0 0 ∧ V 1 = v1 ∧ V 2 = v2 := by
  have F0 : Fam B (fun _ => False) (tyZ TL T TR) szZ (fun _ => 0) (fun _ => .slice none 0 0) (fun _ => []) w1 := ⟨fun _ h => h.elim, fun _ _ _ h => h.elim⟩
  have s2 := b2.size
  have s3 := b3.size
  have F2 := F0.add (i := 1) (fun h => h) b2 hB (v := v1) (n := m1) (x := r1) h2
  have F3 := F2.add (i := 2) (by simp) b3 (by omega) (v := v2) (n := m2) (x := r2) h3
  have F5 := F3.add (i := 0) (by simp) ((Below.refl _ w3).alloc (Nat.le_refl _) (.cells #[] TL)) (by omega) (v := .slice (some ⟨w3.heap.size, 0, none⟩) 0 0) (n := 0) (x := []) (empty_row w3 (Nat.le_refl _))
  refine ⟨_, ⟨_, _, ⟨restr F5 (fun j hj => by unfold domZ at hj; omega), ?_, ?_, ?_, ?_, ?_, ?_, ?_⟩⟩, ?_, ?_, ?_⟩
  all_goals first | (intro q hq; omega) | (simp [upd]; done)
/-- Lists appended to the list of lists. -/
theorem wp_appZ {ops : Array Oper} {rest : List Oper} {o : Oper} {a : Act} {Q : Exit → Act → World → Prop} {W : World} (LL : Nat) (hund : Tryd.prog.underlying LL = some (.slice TL)) (hinfo : (Tryd.prog.info? TL).map (fun i => (i.zero, i.size, i.bytes)) = some (some (.slice none 0 0), 1, 24)) (hgd : o.guard = none) (s x : Operand)
    (ho : o.op = .call { callee := .builtin .append, args := #[s, x], argTypes := #[LL, LL] }) (M : ∃ N X, Mz TL T TR B L m1 m2 r1 r2 na nl V N X W) (k : Nat) (hk : 0 < k) (hl : nl + k ≤ na) (h6 : na ≤ 1000) (v0 : Value) (hs0 : a.eval s = v0) (hv0 : v0 = V 0) (vs : List Value) (hvs : vs = (List.range k).map (fun i => V (10 + (nl + i))))
    (g : Nat) (hx : a.eval x = .slice (some ⟨g, 0, none⟩) k k) (hg : g = W.heap.size) (hB : B ≤ W.heap.size)
    (h : ∀ v' w', (∃ N X, Mz TL T TR B L m1 m2 r1 r2 na (nl + k) (upd V 0 v') N X w') → Below B W w' → wpList Tryd.prog ops Q rest (a.put o.dst v') w') : wpList Tryd.prog ops Q (o :: rest) a (W.alloc (.cells vs.toArray TL)) := by
  obtain ⟨N, X, M⟩ := M
  subst hg hvs
  have hs := hs0.trans hv0
  have hown := M.fam.own 0 (by unfold domZ; omega)
  rw [M.n0] at hown
  refine wp_keep hgd s x LL ho B TL (.slice none 0 0) 1 24 hund hinfo rfl (by decide) (V 0) nl (X 0) W ((List.range k).map (fun i => V (10 + (nl + i)))) hs hown k hk hx (by simp) ?_ (by omega) (by decide) hB ?_
  · intro u hu
    obtain ⟨i, hi, rfl⟩ := List.mem_map.1 hu
    have := List.mem_range.1 hi
    exact owns_one (M.fam.own (10 + (nl + i)) (by unfold domZ; omega))
  · intro v' w' h1 h2 h3 h4
    refine h v' w' (M.appL k hl h1 h2 ?_) ((Below.refl B W).grown h2 hB (fun k hk => (World.ownsRow.lt hown k hk).1))
    rcases h4 with ⟨g, cap, e1, e2⟩ | h4
    · left; rw [e1, e2]; rfl
    · exact .inr h4
/-- An element more under another name. -/
theorem wp_growZ {ops : Array Oper} {rest : List Oper} {o : Oper} {a : Act} {Q : Exit → Act → World → Prop} {W : World} (z0 z1 : Value) (by0 : Nat) (hby0 : by0 ≤ 65536) (hund : Tryd.prog.underlying TL = some (.slice T)) (hinfo : (Tryd.prog.info? T).map (fun i => (i.zero, i.size, i.bytes)) = some (some (.agg #[z0, z1]), 2, by0)) (hz : (Value.agg #[z0, z1]).cells.size = 2) (hgd : o.guard = none) (s x : Operand)
    (ho : o.op = .call { callee := .builtin .append, args := #[s, x], argTypes := #[TL, TL] }) {q m : Nat} (hq : q < K) (gv : Value) (P : PhA TL T TR B K L m1 m2 r1 r2 dg V q gv m W) (hn : L q + m + 1 ≤ 2147483648) (hs : a.eval s = gv) (y y2 : Value) (hy : y.oneCell' = true) (hy2 : y2.oneCell' = true)
    (g : Nat) (hx : a.eval x = .slice (some ⟨g, 0, none⟩) 1 1) (hg : g = W.heap.size) (hB : B ≤ W.heap.size)
    (h : ∀ v' w', PhA TL T TR B K L m1 m2 r1 r2 dg V q v' (m + 1) w' → Below B W w' → wpList Tryd.prog ops Q rest (a.put o.dst v') w') : wpList Tryd.prog ops Q (o :: rest) a (W.alloc (.cells #[y, y2] T)) := by
  obtain ⟨N, X, M, ha, ys, h1, h2, h3⟩ := P
  subst hg
  have hown := h1
  rw [ty_z q, sz_z q] at hown
  refine wp_keep hgd s x TL ho B T (.agg #[z0, z1]) 2 by0 hund hinfo hz (by decide) gv (N (10 + q) + m) ys W [y, y2] hs hown 1 (by decide) hx rfl ?_ (by rw [M.ns q hq]; omega) hby0 hB ?_
  · intro u hu
    simp at hu
    rcases hu with rfl | rfl
    · exact hy
    · exact hy2
  · intro v' w' k1 k2 k3 k4
    have st := M.fam.step (i := 10 + q) (m := m) (by unfold domZ; omega) h1 h2 h3 (w' := w') (gv' := v') (news := [y, y2]) (by rw [ty_z q, sz_z q]; exact k1) k2 (by rw [ty_z q, sz_z q]; exact k3) k4
    exact h v' w' ⟨N, X, { M with fam := st.1 }, ha, st.2⟩ ((Below.refl B W).grown k2 hB (fun k hk => (World.ownsRow.lt hown k hk).1))

end Zm
end Go.Proofs.YtggmidkmpgjnoaaDoor
