/-
  Two lists of lists that came out (elements of three cells, and of five), and some rows beside them; all apart. Marked and grown.
-/
import Derived.Test.YtlnlhhobmgiceaaGreatDoorMgW
set_option linter.unusedVariables false
set_option linter.unusedSimpArgs false
namespace Go.Proofs.YtlnlhhobmgiceaaGreatDoor
open Go.RowKit Go.Shelf
namespace Zq
open Oc

/-- What the rows are: the types of the two kinds of lists and of their elements; the rows beside them. -/
structure Kd where
  L1 : Nat
  T1 : Nat
  L2 : Nat
  T2 : Nat
  tf : Nat → Nat
  sf : Nat → Nat
  nf : Nat → Nat
  xf : Nat → List Value
  n1 : Nat → Nat
  n2 : Nat → Nat
def tyQ (k : Kd) (i : Nat) : Nat := if i = 0 then k.L1 else if i = 1 then k.L2 else if i < 10 then k.tf i else if i < 50 then k.T1 else k.T2
def szQ (k : Kd) (i : Nat) : Nat := if i < 2 then 1 else if i < 10 then k.sf i else if i < 50 then 3 else 5
def domQ (na nb j : Nat) : Prop := j < 5 ∨ (10 ≤ j ∧ j < 10 + na) ∨ (50 ≤ j ∧ j < 50 + nb)
theorem ty_1 (k : Kd) (q : Nat) (h : q < 40) : tyQ k (10 + q) = k.T1 := by unfold tyQ; rw [if_neg (by omega), if_neg (by omega), if_neg (by omega), if_pos (by omega)]
theorem sz_1 (k : Kd) (q : Nat) (h : q < 40) : szQ k (10 + q) = 3 := by unfold szQ; rw [if_neg (by omega), if_neg (by omega), if_pos (by omega)]
theorem ty_2 (k : Kd) (q : Nat) : tyQ k (50 + q) = k.T2 := by unfold tyQ; rw [if_neg (by omega), if_neg (by omega), if_neg (by omega), if_neg (by omega)]
theorem sz_2 (k : Kd) (q : Nat) : szQ k (50 + q) = 5 := by unfold szQ; rw [if_neg (by omega), if_neg (by omega), if_neg (by omega)]

structure Mq (k : Kd) (B na nb nl np : Nat) (V : Nat → Value) (N : Nat → Nat) (X : Nat → List Value) (w : World) : Prop where
  fam : Fam B (domQ na nb) (tyQ k) (szQ k) N V X w
  n0 : N 0 = nl
  n1 : N 1 = np
  nf : ∀ q, 2 ≤ q → q < 5 → N q = k.nf q
  ns : ∀ q, q < na → N (10 + q) = k.n1 q
  nc : ∀ q, q < nb → N (50 + q) = k.n2 q
  x0 : X 0 = (List.range nl).map (fun q => V (10 + q))
  x1 : X 1 = (List.range np).map (fun q => V (50 + q))
  xf : ∀ q, 2 ≤ q → q < 5 → X q = k.xf q

variable {k : Kd} {B na nb nl np : Nat} {V : Nat → Value} {N : Nat → Nat} {X : Nat → List Value} {w w' : World}
theorem Mq.below (M : Mq k B na nb nl np V N X w) (b : Below w.heap.size w w') : Mq k B na nb nl np V N X w' := { M with fam := M.fam.below b }
theorem restr {D D' : Nat → Prop} {T S : Nat → Nat} (F : Fam B D T S N V X w) (h : ∀ j, D' j → D j) : Fam B D' T S N V X w := ⟨fun i hi => F.own i (h i hi), fun i j g hi hj => F.apart i j g (h i hi) (h j hj)⟩
/-- A list of the first kind more. -/
theorem Mq.addA (M : Mq k B na nb nl np V N X w) (hn : na < 40) (hl : nl ≤ na) (b : Below w.heap.size w w') (hB : B ≤ w.heap.size) {v : Value} {n : Nat} {x : List Value} (h : w'.ownsRow w.heap.size k.T1 3 v n x) (ht : n = k.n1 na) :
    ∃ N' X', Mq k B (na + 1) nb nl np (upd V (10 + na) v) N' X' w' := by
  have hnd : ¬ domQ na nb (10 + na) := by unfold domQ; omega
  have F := M.fam.add (i := 10 + na) hnd b hB (v := v) (n := n) (x := x) (by rw [ty_1 k na hn, sz_1 k na hn]; exact h)
  refine ⟨_, _, ⟨restr F (fun j hj => by unfold domQ at *; omega), ?_, ?_, ?_, ?_, ?_, ?_, ?_, ?_⟩⟩
  · rw [upd_other _ _ (by omega)]; exact M.n0
  · rw [upd_other _ _ (by omega)]; exact M.n1
  · intro q h1 h2; rw [upd_other _ _ (by omega)]; exact M.nf q h1 h2
  · intro q hq
    by_cases e : q = na
    · rw [e, upd_same]; exact ht
    · rw [upd_other _ _ (by omega)]; exact M.ns q (by omega)
  · intro q hq
    rw [upd_other _ _ (by omega)]; exact M.nc q hq
  · rw [upd_other _ _ (by omega), M.x0]
    refine List.map_congr_left (fun q hq => ?_)
    rw [upd_other _ _ (by have := List.mem_range.1 hq; omega)]
  · rw [upd_other _ _ (by omega), M.x1]
    refine List.map_congr_left (fun q hq => ?_)
    rw [upd_other _ _ (by omega)]
  · intro q h1 h2; rw [upd_other _ _ (by omega)]; exact M.xf q h1 h2
/-- A list of the second kind more. -/
theorem Mq.addB (M : Mq k B na nb nl np V N X w) (hn : na ≤ 40) (hnl : nl ≤ na) (hl : np ≤ nb) (b : Below w.heap.size w w') (hB : B ≤ w.heap.size) {v : Value} {n : Nat} {x : List Value} (h : w'.ownsRow w.heap.size k.T2 5 v n x) (ht : n = k.n2 nb) :
    ∃ N' X', Mq k B na (nb + 1) nl np (upd V (50 + nb) v) N' X' w' := by
  have hnd : ¬ domQ na nb (50 + nb) := by unfold domQ; omega
  have F := M.fam.add (i := 50 + nb) hnd b hB (v := v) (n := n) (x := x) (by rw [ty_2 k nb, sz_2 k nb]; exact h)
  refine ⟨_, _, ⟨restr F (fun j hj => by unfold domQ at *; omega), ?_, ?_, ?_, ?_, ?_, ?_, ?_, ?_⟩⟩
  · rw [upd_other _ _ (by omega)]; exact M.n0
  · rw [upd_other _ _ (by omega)]; exact M.n1
  · intro q h1 h2; rw [upd_other _ _ (by omega)]; exact M.nf q h1 h2
  · intro q hq
    rw [upd_other _ _ (by omega)]; exact M.ns q hq
  · intro q hq
    by_cases e : q = nb
    · rw [e, upd_same]; exact ht
    · rw [upd_other _ _ (by omega)]; exact M.nc q (by omega)
  · rw [upd_other _ _ (by omega), M.x0]
    refine List.map_congr_left (fun q hq => ?_)
    rw [upd_other _ _ (by have := List.mem_range.1 hq; omega)]
  · rw [upd_other _ _ (by omega), M.x1]
    refine List.map_congr_left (fun q hq => ?_)
    rw [upd_other _ _ (by have := List.mem_range.1 hq; omega)]
  · intro q h1 h2; rw [upd_other _ _ (by omega)]; exact M.xf q h1 h2
theorem range_more {α : Type} (n k : Nat) (f : Nat → α) : (List.range (n + k)).map f = (List.range n).map f ++ (List.range k).map (fun i => f (n + i)) := by rw [List.range_add, List.map_append, List.map_map]; rfl
/-- Lists are told to the first list of lists. -/
theorem Mq.appA (M : Mq k B na nb nl np V N X w) (m : Nat) (hl : nl + m ≤ na) {v : Value} (h1 : w'.ownsRow B k.L1 1 v (nl + m) (X 0 ++ (List.range m).map (fun i => V (10 + (nl + i))))) (hg : w.grownBy w' (V 0).ownBlock) (hv : v.ownBlock = (V 0).ownBlock ∨ ∃ g, v.ownBlock = some g ∧ w.heap.size ≤ g) :
    ∃ N' X', Mq k B na nb (nl + m) np (upd V 0 v) N' X' w' := by
  have F := M.fam.put (i := 0) (by unfold domQ; omega) hg (v := v) (n := nl + m) (x := X 0 ++ (List.range m).map (fun i => V (10 + (nl + i)))) h1 hv
  refine ⟨_, _, ⟨F, ?_, ?_, ?_, ?_, ?_, ?_, ?_, ?_⟩⟩
  · rw [upd_same]
  · rw [upd_other _ _ (by omega)]; exact M.n1
  · intro q h1 h2; rw [upd_other _ _ (by omega)]; exact M.nf q h1 h2
  · intro q hq
    rw [upd_other _ _ (by omega)]; exact M.ns q hq
  · intro q hq
    rw [upd_other _ _ (by omega)]; exact M.nc q hq
  · rw [upd_same, M.x0, range_more]
    congr 1
    · exact List.map_congr_left (fun q hq => (upd_other _ _ (by omega)).symm)
    · exact List.map_congr_left (fun q hq => (upd_other _ _ (by omega)).symm)
  · rw [upd_other _ _ (by omega), M.x1]
    refine List.map_congr_left (fun q hq => ?_)
    rw [upd_other _ _ (by omega)]
  · intro q h1 h2; rw [upd_other _ _ (by omega)]; exact M.xf q h1 h2
theorem Mq.appB (M : Mq k B na nb nl np V N X w) (m : Nat) (hl : np + m ≤ nb) {v : Value} (h1 : w'.ownsRow B k.L2 1 v (np + m) (X 1 ++ (List.range m).map (fun i => V (50 + (np + i))))) (hg : w.grownBy w' (V 1).ownBlock) (hv : v.ownBlock = (V 1).ownBlock ∨ ∃ g, v.ownBlock = some g ∧ w.heap.size ≤ g) :
    ∃ N' X', Mq k B na nb nl (np + m) (upd V 1 v) N' X' w' := by
  have F := M.fam.put (i := 1) (by unfold domQ; omega) hg (v := v) (n := np + m) (x := X 1 ++ (List.range m).map (fun i => V (50 + (np + i)))) h1 hv
  refine ⟨_, _, ⟨F, ?_, ?_, ?_, ?_, ?_, ?_, ?_, ?_⟩⟩
  · rw [upd_other _ _ (by omega)]; exact M.n0
  · rw [upd_same]
  · intro q h1 h2; rw [upd_other _ _ (by omega)]; exact M.nf q h1 h2
  · intro q hq
    rw [upd_other _ _ (by omega)]; exact M.ns q hq
  · intro q hq
    rw [upd_other _ _ (by omega)]; exact M.nc q hq
  · rw [upd_other _ _ (by omega), M.x0]
    refine List.map_congr_left (fun q hq => ?_)
    rw [upd_other _ _ (by omega)]
  · rw [upd_same, M.x1, range_more]
    congr 1
    · exact List.map_congr_left (fun q hq => (upd_other _ _ (by omega)).symm)
    · exact List.map_congr_left (fun q hq => (upd_other _ _ (by omega)).symm)
  · intro q h1 h2; rw [upd_other _ _ (by omega)]; exact M.xf q h1 h2
theorem Mq.row (M : Mq k B na nb nl np V N X w) (q : Nat) (h1 : 2 ≤ q) (h2 : q < 5) : w.ownsRow B (k.tf q) (k.sf q) (V q) (k.nf q) (k.xf q) := by
  have h := M.fam.own q (by unfold domQ; omega)
  rw [M.nf q h1 h2, M.xf q h1 h2] at h
  have e1 : tyQ k q = k.tf q := by unfold tyQ; rw [if_neg (by omega), if_neg (by omega), if_pos (by omega)]
  have e2 : szQ k q = k.sf q := by unfold szQ; rw [if_neg (by omega), if_pos (by omega)]
  rwa [e1, e2] at h

/-! What is written -/
def dg (q c : Nat) : Value := .string ((⟨#[109, 97, 114, 107]⟩ : ByteArray) ++ str (Lib.itoa ((100 * q + c : Nat) : Int)))
theorem dg_int (q c : Nat) : .string ((⟨#[109, 97, 114, 107]⟩ : ByteArray) ++ str (Lib.itoa (100 * (q : Int) + (c : Int)))) = dg q c := by
  unfold dg
  rw [show ((100 * q + c : Nat) : Int) = 100 * (q : Int) + (c : Int) by omega]
def Da (K : Nat) (k : Kd) (X : Nat → List Value) (i j : Nat) : Prop := ∀ q c, q < K → c < k.n1 q → (q < i ∨ q = i ∧ c < j) → (X (10 + q))[c * 3]? = some (dg q c)
def Db (K : Nat) (k : Kd) (X : Nat → List Value) (i j : Nat) : Prop := ∀ q c, q < K → c < k.n2 q → (q < i ∨ q = i ∧ c < j) → (X (50 + q))[c * 5]? = some (dg q c)
/-- Six lists of the first kind, three of the second; marked up to a place. -/
def Pq (k : Kd) (B : Nat) (V : Nat → Value) (i j r s : Nat) (w : World) : Prop := ∃ N X, Mq k B 6 3 6 3 V N X w ∧ Da 6 k X i j ∧ Db 3 k X r s
variable {i j r s : Nat}
theorem Pq.start (M : ∃ N X, Mq k B 6 3 6 3 V N X w) : Pq k B V 0 0 0 0 w := by
  obtain ⟨N, X, M⟩ := M
  exact ⟨N, X, M, fun q c _ _ h => by omega, fun q c _ _ h => by omega⟩
theorem Pq.below (P : Pq k B V i j r s w) (b : Below w.heap.size w w') : Pq k B V i j r s w' := by
  obtain ⟨N, X, M, h⟩ := P
  exact ⟨N, X, M.below b, h⟩
theorem Pq.row (P : Pq k B V i j r s w) (q : Nat) (h1 : 2 ≤ q) (h2 : q < 5) : w.ownsRow B (k.tf q) (k.sf q) (V q) (k.nf q) (k.xf q) := by
  obtain ⟨N, X, M, _⟩ := P
  exact M.row q h1 h2
theorem Pq.nextA (P : Pq k B V i (k.n1 i) r s w) : Pq k B V (i + 1) 0 r s w := by
  obtain ⟨N, X, M, ha, hc⟩ := P
  refine ⟨N, X, M, fun q c hq hn h => ha q c hq hn ?_, hc⟩
  by_cases e : q = i
  · right; exact ⟨e, e ▸ hn⟩
  · left; omega
theorem Pq.nextB (P : Pq k B V i j r (k.n2 r) w) : Pq k B V i j (r + 1) 0 w := by
  obtain ⟨N, X, M, ha, hc⟩ := P
  refine ⟨N, X, M, ha, fun q c hq hn h => hc q c hq hn ?_⟩
  by_cases e : q = r
  · right; exact ⟨e, e ▸ hn⟩
  · left; omega
theorem Pq.formA (P : Pq k B V i j r s w) (q : Nat) (hq : q < 6) : (V (10 + q) = .slice none 0 0 ∧ k.n1 q = 0) ∨ ∃ g cap, V (10 + q) = .slice (some ⟨g, 0, none⟩) (k.n1 q) cap ∧ k.n1 q ≤ cap := by
  obtain ⟨N, X, M, _⟩ := P
  have := owns_form (M.fam.own (10 + q) (by unfold domQ; omega))
  rwa [M.ns q hq] at this
theorem Pq.formB (P : Pq k B V i j r s w) (q : Nat) (hq : q < 3) : (V (50 + q) = .slice none 0 0 ∧ k.n2 q = 0) ∨ ∃ g cap, V (50 + q) = .slice (some ⟨g, 0, none⟩) (k.n2 q) cap ∧ k.n2 q ≤ cap := by
  obtain ⟨N, X, M, _⟩ := P
  have := owns_form (M.fam.own (50 + q) (by unfold domQ; omega))
  rwa [M.nc q hq] at this
theorem Pq.lenA (P : Pq k B V i j r s w) (q : Nat) (hq : q < 6) : ∃ a c, V (10 + q) = .slice a (k.n1 q) c := by
  rcases P.formA q hq with ⟨e, h⟩ | ⟨g, cap, e, _⟩
  · exact ⟨none, 0, by rw [e, h]⟩
  · exact ⟨_, _, e⟩
theorem Pq.lenB (P : Pq k B V i j r s w) (q : Nat) (hq : q < 3) : ∃ a c, V (50 + q) = .slice a (k.n2 q) c := by
  rcases P.formB q hq with ⟨e, h⟩ | ⟨g, cap, e, _⟩
  · exact ⟨none, 0, by rw [e, h]⟩
  · exact ⟨_, _, e⟩
theorem Pq.form0 (P : Pq k B V i j r s w) : ∃ g cap, V 0 = .slice (some ⟨g, 0, none⟩) 6 cap ∧ 6 ≤ cap := by
  obtain ⟨N, X, M, _⟩ := P
  have := owns_form (M.fam.own 0 (by unfold domQ; omega))
  rw [M.n0] at this
  rcases this with ⟨_, h⟩ | h
  · cases h
  · exact h
theorem Pq.form1 (P : Pq k B V i j r s w) : ∃ g cap, V 1 = .slice (some ⟨g, 0, none⟩) 3 cap ∧ 3 ≤ cap := by
  obtain ⟨N, X, M, _⟩ := P
  have := owns_form (M.fam.own 1 (by unfold domQ; omega))
  rw [M.n1] at this
  rcases this with ⟨_, h⟩ | h
  · cases h
  · exact h
theorem Pq.cell0 (P : Pq k B V i j r s w) {g cap : Nat} (hv : V 0 = .slice (some ⟨g, 0, none⟩) 6 cap) (q : Nat) (hq : q < 6) : w.cell? ⟨g, q, none⟩ = some (V (10 + q)) := by
  obtain ⟨N, X, M, _⟩ := P
  have h := M.fam.own 0 (by unfold domQ; omega)
  rw [hv, M.n0] at h
  refine owns_cell h ?_
  rw [M.x0]
  simp [hq]
theorem Pq.cell1 (P : Pq k B V i j r s w) {g cap : Nat} (hv : V 1 = .slice (some ⟨g, 0, none⟩) 3 cap) (q : Nat) (hq : q < 3) : w.cell? ⟨g, q, none⟩ = some (V (50 + q)) := by
  obtain ⟨N, X, M, _⟩ := P
  have h := M.fam.own 1 (by unfold domQ; omega)
  rw [hv, M.n1] at h
  refine owns_cell h ?_
  rw [M.x1]
  simp [hq]
theorem Pq.geA (P : Pq k B V i j r s w) (q : Nat) (hq : q < 6) {g n cap : Nat} (hv : V (10 + q) = .slice (some ⟨g, 0, none⟩) n cap) : B ≤ g := by
  obtain ⟨N, X, M, _⟩ := P
  exact (World.ownsRow.lt (M.fam.own (10 + q) (by unfold domQ; omega)) g (by rw [hv]; rfl)).1
theorem Pq.geB (P : Pq k B V i j r s w) (q : Nat) (hq : q < 3) {g n cap : Nat} (hv : V (50 + q) = .slice (some ⟨g, 0, none⟩) n cap) : B ≤ g := by
  obtain ⟨N, X, M, _⟩ := P
  exact (World.ownsRow.lt (M.fam.own (50 + q) (by unfold domQ; omega)) g (by rw [hv]; rfl)).1
theorem Pq.freeA (P : Pq k B V i j r s w) (q : Nat) (hq : q < 6) {g cap : Nat} (hv : V (10 + q) = .slice (some ⟨g, 0, none⟩) (k.n1 q) cap) (c : Nat) (hc : c < k.n1 q * 3) : (∃ u, w.cell? ⟨g, c, none⟩ = some u) ∧ w.frozen? ⟨g, c, none⟩ = false := by
  obtain ⟨N, X, M, _⟩ := P
  have h := M.fam.own (10 + q) (by unfold domQ; omega)
  rw [hv, M.ns q hq] at h
  have hl := h.1
  rw [sz_1 k q (by omega)] at hl
  exact ⟨⟨_, owns_cell h (List.getElem?_eq_getElem (by omega : c < (X (10 + q)).length))⟩, owns_free h c⟩
theorem Pq.freeB (P : Pq k B V i j r s w) (q : Nat) (hq : q < 3) {g cap : Nat} (hv : V (50 + q) = .slice (some ⟨g, 0, none⟩) (k.n2 q) cap) (c : Nat) (hc : c < k.n2 q * 5) : (∃ u, w.cell? ⟨g, c, none⟩ = some u) ∧ w.frozen? ⟨g, c, none⟩ = false := by
  obtain ⟨N, X, M, _⟩ := P
  have h := M.fam.own (50 + q) (by unfold domQ; omega)
  rw [hv, M.nc q hq] at h
  have hl := h.1
  rw [sz_2 k q] at hl
  exact ⟨⟨_, owns_cell h (List.getElem?_eq_getElem (by omega : c < (X (50 + q)).length))⟩, owns_free h c⟩
theorem set3 (xs : List Value) (c c' : Nat) (a b d : Value) (h : c * 3 < xs.length) : (((xs.set (c * 3) a).set (c * 3 + 1) b).set (c * 3 + 2) d)[c' * 3]? = if c' = c then some a else xs[c' * 3]? := by
  rw [List.getElem?_set_ne (by omega), List.getElem?_set_ne (by omega), List.getElem?_set]
  by_cases e : c' = c
  · subst e; rw [if_pos rfl, if_pos h, if_pos rfl]
  · rw [if_neg (by omega), if_neg e]
theorem set5 (xs : List Value) (c c' : Nat) (a b d e f : Value) (h : c * 5 < xs.length) : (((((xs.set (c * 5) a).set (c * 5 + 1) b).set (c * 5 + 2) d).set (c * 5 + 3) e).set (c * 5 + 4) f)[c' * 5]? = if c' = c then some a else xs[c' * 5]? := by
  rw [List.getElem?_set_ne (by omega), List.getElem?_set_ne (by omega), List.getElem?_set_ne (by omega), List.getElem?_set_ne (by omega), List.getElem?_set]
  by_cases e : c' = c
  · subst e; rw [if_pos rfl, if_pos h, if_pos rfl]
  · rw [if_neg (by omega), if_neg e]
/-- An element of the first kind is written. -/
theorem Pq.setA (P : Pq k B V i j r s w) (hi : i < 6) (hj : j < k.n1 i) {g cap : Nat} (hv : V (10 + i) = .slice (some ⟨g, 0, none⟩) (k.n1 i) cap) (b d : Value) :
    Pq k B V i (j + 1) r s (((w.setCell ⟨g, j * 3, none⟩ (dg i j)).setCell ⟨g, j * 3 + 1, none⟩ b).setCell ⟨g, j * 3 + 2, none⟩ d) := by
  obtain ⟨N, X, M, ha, hc⟩ := P
  have hN := M.ns i hi
  have hd : domQ 6 3 (10 + i) := by unfold domQ; omega
  have hv' : V (10 + i) = .slice (some ⟨g, 0, none⟩) (N (10 + i)) cap := by rw [hN]; exact hv
  have F := ((M.fam.set hd hv' (j * 3) (dg i j)).set hd hv' (j * 3 + 1) b).set hd hv' (j * 3 + 2) d
  have hlen := (M.fam.own (10 + i) hd).1
  rw [sz_1 k i (by omega), hN] at hlen
  refine ⟨N, _, ⟨F, M.n0, M.n1, M.nf, M.ns, M.nc, ?_, ?_, ?_⟩, fun q c hq hn h => ?_, fun q c hq hn h => ?_⟩
  · rw [upd_other _ _ (by omega), upd_other _ _ (by omega), upd_other _ _ (by omega)]; exact M.x0
  · rw [upd_other _ _ (by omega), upd_other _ _ (by omega), upd_other _ _ (by omega)]; exact M.x1
  · intro q h1 h2; rw [upd_other _ _ (by omega), upd_other _ _ (by omega), upd_other _ _ (by omega)]; exact M.xf q h1 h2
  · by_cases e : q = i
    · subst e
      rw [upd_same, upd_same, upd_same, set3 _ _ _ _ _ _ (by omega)]
      by_cases e2 : c = j
      · rw [if_pos e2, e2]
      · rw [if_neg e2]
        exact ha q c hq hn (by omega)
    · rw [upd_other _ _ (by omega), upd_other _ _ (by omega), upd_other _ _ (by omega)]
      exact ha q c hq hn (by omega)
  · rw [upd_other _ _ (by omega), upd_other _ _ (by omega), upd_other _ _ (by omega)]
    exact hc q c hq hn h
/-- An element of the second kind is written. -/
theorem Pq.setB (P : Pq k B V i j r s w) (hi : r < 3) (hj : s < k.n2 r) {g cap : Nat} (hv : V (50 + r) = .slice (some ⟨g, 0, none⟩) (k.n2 r) cap) (b d e f : Value) :
    Pq k B V i j r (s + 1) (((((w.setCell ⟨g, s * 5, none⟩ (dg r s)).setCell ⟨g, s * 5 + 1, none⟩ b).setCell ⟨g, s * 5 + 2, none⟩ d).setCell ⟨g, s * 5 + 3, none⟩ e).setCell ⟨g, s * 5 + 4, none⟩ f) := by
  obtain ⟨N, X, M, ha, hc⟩ := P
  have hN := M.nc r hi
  have hd : domQ 6 3 (50 + r) := by unfold domQ; omega
  have hv' : V (50 + r) = .slice (some ⟨g, 0, none⟩) (N (50 + r)) cap := by rw [hN]; exact hv
  have F := ((((M.fam.set hd hv' (s * 5) (dg r s)).set hd hv' (s * 5 + 1) b).set hd hv' (s * 5 + 2) d).set hd hv' (s * 5 + 3) e).set hd hv' (s * 5 + 4) f
  have hlen := (M.fam.own (50 + r) hd).1
  rw [sz_2 k r, hN] at hlen
  refine ⟨N, _, ⟨F, M.n0, M.n1, M.nf, M.ns, M.nc, ?_, ?_, ?_⟩, fun q c hq hn h => ?_, fun q c hq hn h => ?_⟩
  · rw [upd_other _ _ (by omega), upd_other _ _ (by omega), upd_other _ _ (by omega), upd_other _ _ (by omega), upd_other _ _ (by omega)]; exact M.x0
  · rw [upd_other _ _ (by omega), upd_other _ _ (by omega), upd_other _ _ (by omega), upd_other _ _ (by omega), upd_other _ _ (by omega)]; exact M.x1
  · intro q h1 h2; rw [upd_other _ _ (by omega), upd_other _ _ (by omega), upd_other _ _ (by omega), upd_other _ _ (by omega), upd_other _ _ (by omega)]; exact M.xf q h1 h2
  · rw [upd_other _ _ (by omega), upd_other _ _ (by omega), upd_other _ _ (by omega), upd_other _ _ (by omega), upd_other _ _ (by omega)]
    exact ha q c hq hn h
  · by_cases e : q = r
    · subst e
      rw [upd_same, upd_same, upd_same, upd_same, upd_same, set5 _ _ _ _ _ _ _ _ (by omega)]
      by_cases e2 : c = s
      · rw [if_pos e2, e2]
      · rw [if_neg e2]
        exact hc q c hq hn (by omega)
    · rw [upd_other _ _ (by omega), upd_other _ _ (by omega), upd_other _ _ (by omega), upd_other _ _ (by omega), upd_other _ _ (by omega)]
      exact hc q c hq hn (by omega)
theorem Pq.readA (P : Pq k B V 6 0 r s w) (q : Nat) (hq : q < 6) {g cap : Nat} (hv : V (10 + q) = .slice (some ⟨g, 0, none⟩) (k.n1 q) cap) (c : Nat) (hc : c < k.n1 q) : w.cell? ⟨g, c * 3, none⟩ = some (dg q c) := by
  obtain ⟨N, X, M, ha, _⟩ := P
  have h := M.fam.own (10 + q) (by unfold domQ; omega)
  rw [hv, M.ns q hq] at h
  exact owns_cell h (ha q c hq hc (.inl hq))
theorem Pq.readB (P : Pq k B V i j 3 0 w) (q : Nat) (hq : q < 3) {g cap : Nat} (hv : V (50 + q) = .slice (some ⟨g, 0, none⟩) (k.n2 q) cap) (c : Nat) (hc : c < k.n2 q) : w.cell? ⟨g, c * 5, none⟩ = some (dg q c) := by
  obtain ⟨N, X, M, _, ha⟩ := P
  have h := M.fam.own (50 + q) (by unfold domQ; omega)
  rw [hv, M.nc q hq] at h
  exact owns_cell h (ha q c hq hc (.inl hq))
/-- A list under another name, grown. -/
def PqA (k : Kd) (B : Nat) (V : Nat → Value) (x : Nat) (gv : Value) (m : Nat) (w : World) : Prop := ∃ N X, Mq k B 6 3 6 3 V N X w ∧ Da 6 k X 6 0 ∧ Db 3 k X 3 0 ∧ Alias B (domQ 6 3) (tyQ k) (szQ k) N V X x gv m w
theorem Pq.alias (P : Pq k B V 6 0 3 0 w) (x : Nat) (hr : domQ 6 3 x) : PqA k B V x (V x) 0 w := by
  obtain ⟨N, X, M, h1, h2⟩ := P
  exact ⟨N, X, M, h1, h2, M.fam.alias hr⟩
theorem PqA.done {x m : Nat} {gv : Value} (P : PqA k B V x gv m w) : Pq k B V 6 0 3 0 w := by
  obtain ⟨N, X, M, h1, h2, _⟩ := P
  exact ⟨N, X, M, h1, h2⟩
theorem PqA.below {x m : Nat} {gv : Value} (P : PqA k B V x gv m w) (b : Below w.heap.size w w') : PqA k B V x gv m w' := by
  obtain ⟨N, X, M, h1, h2, h3⟩ := P
  exact ⟨N, X, M.below b, h1, h2, h3.below b⟩

/-! Appends -/
theorem owns_one {w : World} {B T S n : Nat} {v : Value} {xs : List Value} (h : w.ownsRow B T S v n xs) : v.oneCell' = true := by
  rcases owns_form h with ⟨rfl, _⟩ | ⟨g, cap, rfl, _⟩ <;> rfl
theorem empty_row {B T : Nat} (w : World) (hB : B ≤ w.heap.size) : (w.alloc (.cells #[] T)).ownsRow B T 1 (.slice (some ⟨w.heap.size, 0, none⟩) 0 0) 0 [] :=
  ⟨by simp, .inr ⟨w.heap.size, 0, #[], rfl, hB, heap_alloc_new w _, by simp, by decide, by simp, by simp⟩⟩
theorem Mq.start {w1 w2 w3 w4 : World} {v2 v3 v4 : Value} (hB : B ≤ w1.heap.size) (h2 : w2.ownsRow w1.heap.size (k.tf 2) (k.sf 2) v2 (k.nf 2) (k.xf 2)) (b2 : Below w1.heap.size w1 w2) (h3 : w3.ownsRow w2.heap.size (k.tf 3) (k.sf 3) v3 (k.nf 3) (k.xf 3)) (b3 : Below w2.heap.size w2 w3) (h4 : w4.ownsRow w3.heap.size (k.tf 4) (k.sf 4) v4 (k.nf 4) (k.xf 4)) (b4 : Below w3.heap.size w3 w4) :
    ∃ V, (∃ N X, Mq k B 0 0 0 0 V N X ((w4.alloc (.cells #[] k.L1)).alloc (.cells #[] k.L2))) ∧ V 0 = .slice (some ⟨w4.heap.size, 0, none⟩) 0 0 ∧ V 1 = .slice (some ⟨w4.heap.size + 1, 0, none⟩) 0 0 ∧ V 2 = v2 ∧ V 3 = v3 ∧ V 4 = v4 := by
  have F0 : Fam B (fun _ => False) (tyQ k) (szQ k) (fun _ => 0) (fun _ => .slice none 0 0) (fun _ => []) w1 := ⟨fun _ h => h.elim, fun _ _ _ h => h.elim⟩
  have s2 := b2.size
  have s3 := b3.size
  have s4 := b4.size
  have F2 := F0.add (i := 2) (fun h => h) b2 hB (v := v2) (n := k.nf 2) (x := k.xf 2) h2
  have F3 := F2.add (i := 3) (by simp) b3 (by omega) (v := v3) (n := k.nf 3) (x := k.xf 3) h3
  have F4 := F3.add (i := 4) (by simp) b4 (by omega) (v := v4) (n := k.nf 4) (x := k.xf 4) h4
  have F5 := F4.add (i := 0) (by simp) ((Below.refl _ w4).alloc (Nat.le_refl _) (.cells #[] k.L1)) (by omega) (v := .slice (some ⟨w4.heap.size, 0, none⟩) 0 0) (n := 0) (x := []) (empty_row w4 (Nat.le_refl _))
  have F6 := F5.add (i := 1) (by simp) ((Below.refl _ (w4.alloc (.cells #[] k.L1))).alloc (Nat.le_refl _) (.cells #[] k.L2)) (by simp; omega) (v := .slice (some ⟨(w4.alloc (.cells #[] k.L1)).heap.size, 0, none⟩) 0 0) (n := 0) (x := []) (empty_row _ (Nat.le_refl _))
  refine ⟨_, ⟨_, _, ⟨restr F6 (fun j hj => by unfold domQ at hj; omega), ?_, ?_, ?_, ?_, ?_, ?_, ?_, ?_⟩⟩, ?_, ?_, ?_, ?_, ?_⟩
  all_goals first | (intro q hq; omega) | (simp [upd]; done) | (intro q h1 h2; rcases (by omega : q = 2 ∨ q = 3 ∨ q = 4) with rfl | rfl | rfl <;> simp [upd])
theorem wp_appA {ops : Array Oper} {rest : List Oper} {o : Oper} {a : Act} {Q : Exit → Act → World → Prop} {W : World} (LL : Nat) (hund : Tryz.prog.underlying LL = some (.slice k.L1)) (hinfo : (Tryz.prog.info? k.L1).map (fun i => (i.zero, i.size, i.bytes)) = some (some (.slice none 0 0), 1, 24)) (hgd : o.guard = none) (s x : Operand)
    (ho : o.op = .call { callee := .builtin .append, args := #[s, x], argTypes := #[LL, LL] }) (M : ∃ N X, Mq k B na nb nl np V N X W) (m : Nat) (hk : 0 < m) (hl : nl + m ≤ na) (h6 : na ≤ 40) (v0 : Value) (hs0 : a.eval s = v0) (hv0 : v0 = V 0) (vs : List Value) (hvs : vs = (List.range m).map (fun i => V (10 + (nl + i))))
    (g : Nat) (hx : a.eval x = .slice (some ⟨g, 0, none⟩) m m) (hg : g = W.heap.size) (hB : B ≤ W.heap.size)
    (h : ∀ v' w', (∃ N X, Mq k B na nb (nl + m) np (upd V 0 v') N X w') → Below B W w' → wpList Tryz.prog ops Q rest (a.put o.dst v') w') : wpList Tryz.prog ops Q (o :: rest) a (W.alloc (.cells vs.toArray k.L1)) := by
  obtain ⟨N, X, M⟩ := M
  subst hg hvs
  have hs := hs0.trans hv0
  have hown := M.fam.own 0 (by unfold domQ; omega)
  rw [M.n0] at hown
  refine wp_keep hgd s x LL ho B k.L1 (.slice none 0 0) 1 24 hund hinfo rfl (by decide) (V 0) nl (X 0) W ((List.range m).map (fun i => V (10 + (nl + i)))) hs hown m hk hx (by simp) ?_ (by omega) (by decide) hB ?_
  · intro u hu
    obtain ⟨i, hi, rfl⟩ := List.mem_map.1 hu
    have := List.mem_range.1 hi
    exact owns_one (M.fam.own (10 + (nl + i)) (by unfold domQ; omega))
  · intro v' w' h1 h2 h3 h4
    refine h v' w' (M.appA m hl h1 h2 ?_) ((Below.refl B W).grown h2 hB (fun k hk => (World.ownsRow.lt hown k hk).1))
    rcases h4 with ⟨g, cap, e1, e2⟩ | h4
    · left; rw [e1, e2]; rfl
    · exact .inr h4
theorem wp_appB {ops : Array Oper} {rest : List Oper} {o : Oper} {a : Act} {Q : Exit → Act → World → Prop} {W : World} (LL : Nat) (hund : Tryz.prog.underlying LL = some (.slice k.L2)) (hinfo : (Tryz.prog.info? k.L2).map (fun i => (i.zero, i.size, i.bytes)) = some (some (.slice none 0 0), 1, 24)) (hgd : o.guard = none) (s x : Operand)
    (ho : o.op = .call { callee := .builtin .append, args := #[s, x], argTypes := #[LL, LL] }) (M : ∃ N X, Mq k B na nb nl np V N X W) (m : Nat) (hk : 0 < m) (hl : np + m ≤ nb) (h6 : nb ≤ 40) (v0 : Value) (hs0 : a.eval s = v0) (hv0 : v0 = V 1) (vs : List Value) (hvs : vs = (List.range m).map (fun i => V (50 + (np + i))))
    (g : Nat) (hx : a.eval x = .slice (some ⟨g, 0, none⟩) m m) (hg : g = W.heap.size) (hB : B ≤ W.heap.size)
    (h : ∀ v' w', (∃ N X, Mq k B na nb nl (np + m) (upd V 1 v') N X w') → Below B W w' → wpList Tryz.prog ops Q rest (a.put o.dst v') w') : wpList Tryz.prog ops Q (o :: rest) a (W.alloc (.cells vs.toArray k.L2)) := by
  obtain ⟨N, X, M⟩ := M
  subst hg hvs
  have hs := hs0.trans hv0
  have hown := M.fam.own 1 (by unfold domQ; omega)
  rw [M.n1] at hown
  refine wp_keep hgd s x LL ho B k.L2 (.slice none 0 0) 1 24 hund hinfo rfl (by decide) (V 1) np (X 1) W ((List.range m).map (fun i => V (50 + (np + i)))) hs hown m hk hx (by simp) ?_ (by omega) (by decide) hB ?_
  · intro u hu
    obtain ⟨i, hi, rfl⟩ := List.mem_map.1 hu
    have := List.mem_range.1 hi
    exact owns_one (M.fam.own (50 + (np + i)) (by unfold domQ; omega))
  · intro v' w' h1 h2 h3 h4
    refine h v' w' (M.appB m hl h1 h2 ?_) ((Below.refl B W).grown h2 hB (fun k hk => (World.ownsRow.lt hown k hk).1))
    rcases h4 with ⟨g, cap, e1, e2⟩ | h4
    · left; rw [e1, e2]; rfl
    · exact .inr h4
/-- An element more under another name. -/
theorem wp_growA {ops : Array Oper} {rest : List Oper} {o : Oper} {a : Act} {Q : Exit → Act → World → Prop} {W : World} (z : Value) (by0 : Nat) (hby0 : by0 ≤ 65536) (hund : Tryz.prog.underlying k.L1 = some (.slice k.T1)) (hinfo : (Tryz.prog.info? k.T1).map (fun i => (i.zero, i.size, i.bytes)) = some (some z, 3, by0)) (hz : z.cells.size = 3) (hgd : o.guard = none) (s x : Operand)
    (ho : o.op = .call { callee := .builtin .append, args := #[s, x], argTypes := #[k.L1, k.L1] }) {q m : Nat} (hq : q < 6) (gv : Value) (P : PqA k B V (10 + q) gv m W) (hn : k.n1 q + m + 1 ≤ 2147483648) (hs : a.eval s = gv) (y1 y2 y3 : Value) (hy : y1.oneCell' = true ∧ y2.oneCell' = true ∧ y3.oneCell' = true)
    (g : Nat) (hx : a.eval x = .slice (some ⟨g, 0, none⟩) 1 1) (hg : g = W.heap.size) (hB : B ≤ W.heap.size)
    (h : ∀ v' w', PqA k B V (10 + q) v' (m + 1) w' → Below B W w' → wpList Tryz.prog ops Q rest (a.put o.dst v') w') : wpList Tryz.prog ops Q (o :: rest) a (W.alloc (.cells #[y1, y2, y3] k.T1)) := by
  obtain ⟨N, X, M, ha, hc, ys, h1, h2, h3⟩ := P
  subst hg
  have hown := h1
  rw [ty_1 k q (by omega), sz_1 k q (by omega)] at hown
  refine wp_keep hgd s x k.L1 ho B k.T1 z 3 by0 hund hinfo hz (by decide) gv (N (10 + q) + m) ys W [y1, y2, y3] hs hown 1 (by decide) hx rfl ?_ (by rw [M.ns q hq]; omega) hby0 hB ?_
  · intro u hu
    simp at hu
    rcases hu with rfl | rfl | rfl
    · exact hy.1
    · exact hy.2.1
    · exact hy.2.2
  · intro v' w' k1 k2 k3 k4
    have st := M.fam.step (i := 10 + q) (m := m) (by unfold domQ; omega) h1 h2 h3 (w' := w') (gv' := v') (news := [y1, y2, y3]) (by rw [ty_1 k q (by omega), sz_1 k q (by omega)]; exact k1) k2 (by rw [ty_1 k q (by omega), sz_1 k q (by omega)]; exact k3) k4
    exact h v' w' ⟨N, X, { M with fam := st.1 }, ha, hc, st.2⟩ ((Below.refl B W).grown k2 hB (fun k hk => (World.ownsRow.lt hown k hk).1))
theorem wp_growB {ops : Array Oper} {rest : List Oper} {o : Oper} {a : Act} {Q : Exit → Act → World → Prop} {W : World} (z : Value) (by0 : Nat) (hby0 : by0 ≤ 65536) (hund : Tryz.prog.underlying k.L2 = some (.slice k.T2)) (hinfo : (Tryz.prog.info? k.T2).map (fun i => (i.zero, i.size, i.bytes)) = some (some z, 5, by0)) (hz : z.cells.size = 5) (hgd : o.guard = none) (s x : Operand)
    (ho : o.op = .call { callee := .builtin .append, args := #[s, x], argTypes := #[k.L2, k.L2] }) {q m : Nat} (hq : q < 3) (gv : Value) (P : PqA k B V (50 + q) gv m W) (hn : k.n2 q + m + 1 ≤ 2147483648) (hs : a.eval s = gv) (y1 y2 y3 y4 y5 : Value) (hy : y1.oneCell' = true ∧ y2.oneCell' = true ∧ y3.oneCell' = true ∧ y4.oneCell' = true ∧ y5.oneCell' = true)
    (g : Nat) (hx : a.eval x = .slice (some ⟨g, 0, none⟩) 1 1) (hg : g = W.heap.size) (hB : B ≤ W.heap.size)
    (h : ∀ v' w', PqA k B V (50 + q) v' (m + 1) w' → Below B W w' → wpList Tryz.prog ops Q rest (a.put o.dst v') w') : wpList Tryz.prog ops Q (o :: rest) a (W.alloc (.cells #[y1, y2, y3, y4, y5] k.T2)) := by
  obtain ⟨N, X, M, ha, hc, ys, h1, h2, h3⟩ := P
  subst hg
  have hown := h1
  rw [ty_2 k q, sz_2 k q] at hown
  refine wp_keep hgd s x k.L2 ho B k.T2 z 5 by0 hund hinfo hz (by decide) gv (N (50 + q) + m) ys W [y1, y2, y3, y4, y5] hs hown 1 (by decide) hx rfl ?_ (by rw [M.nc q hq]; omega) hby0 hB ?_
  · intro u hu
    simp at hu
    rcases hu with rfl | rfl | rfl | rfl | rfl
    · exact hy.1
    · exact hy.2.1
    · exact hy.2.2.1
    · exact hy.2.2.2.1
    · exact hy.2.2.2.2
  · intro v' w' k1 k2 k3 k4
    have st := M.fam.step (i := 50 + q) (m := m) (by unfold domQ; omega) h1 h2 h3 (w' := w') (gv' := v') (news := [y1, y2, y3, y4, y5]) (by rw [ty_2 k q, sz_2 k q]; exact k1) k2 (by rw [ty_2 k q, sz_2 k q]; exact k3) k4
    exact h v' w' ⟨N, X, { M with fam := st.1 }, ha, hc, st.2⟩ ((Below.refl B W).grown k2 hB (fun k hk => (World.ownsRow.lt hown k hk).1))

end Zq
end Go.Proofs.YtlnlhhobmgiceaaGreatDoor
