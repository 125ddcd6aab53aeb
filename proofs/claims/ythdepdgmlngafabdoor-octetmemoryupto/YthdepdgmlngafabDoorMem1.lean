/-
  What the law OctetMemory holds: six lists, three lists of parameters, those of the document; all apart.
-/
import Derived.Test.YthdepdgmlngafabDoorFam
import Derived.Test.YthdepdgmlngafabDoorAlike
import Derived.Test.YthdepdgmlngafabDoorDig
set_option linter.unusedVariables false
set_option linter.unusedSimpArgs false
namespace Go.Proofs.YthdepdgmlngafabDoor
open Go.RowKit Go.Shelf
namespace Oc

def tyM (i : Nat) : Nat := if i = 0 then 22 else if i = 1 then 34 else if i = 4 then 64 else if i < 20 then 9 else 51
def szM (i : Nat) : Nat := if i = 4 ∨ 20 ≤ i then 3 else 1
def dom (na nc j : Nat) : Prop := j ≤ 4 ∨ (10 ≤ j ∧ j < 10 + na) ∨ (20 ≤ j ∧ j < 20 + nc)
theorem ty_s (q : Nat) (h : q < 6) : tyM (10 + q) = 9 := by unfold tyM; rw [if_neg (by omega), if_neg (by omega), if_neg (by omega), if_pos (by omega)]
theorem sz_s (q : Nat) (h : q < 6) : szM (10 + q) = 1 := by unfold szM; rw [if_neg (by omega)]
theorem ty_p (q : Nat) : tyM (20 + q) = 51 := by unfold tyM; rw [if_neg (by omega), if_neg (by omega), if_neg (by omega), if_neg (by omega)]
theorem sz_p (q : Nat) : szM (20 + q) = 3 := by unfold szM; rw [if_pos (by omega)]
/-- How long a list is. -/
def nA (A E : List (List UInt8)) (q : Nat) : Nat := if q % 2 = 0 then A.length else E.length
/-- What is written. -/
def dg (q c : Nat) : Value := .string (str (Lib.itoa ((1000 * q + c : Nat) : Int)))

structure Mx (B : Nat) (A E : List (List UInt8)) (C : List Prm) (na nc nl np : Nat) (V : Nat → Value) (N : Nat → Nat) (X : Nat → List Value) (w : World) : Prop where
  fam : Fam B (dom na nc) tyM szM N V X w
  n0 : N 0 = nl
  n1 : N 1 = np
  n2 : N 2 = A.length
  n3 : N 3 = E.length
  n4 : N 4 = C.length
  ns : ∀ q, q < na → N (10 + q) = nA A E q
  nc : ∀ q, q < nc → N (20 + q) = C.length
  x0 : X 0 = (List.range nl).map (fun q => V (10 + q))
  x1 : X 1 = (List.range np).map (fun q => V (20 + q))
  x2 : X 2 = encS A
  x3 : X 3 = encS E
  x4 : X 4 = encP C

variable {B : Nat} {A E : List (List UInt8)} {C : List Prm} {na nc nl np : Nat} {V : Nat → Value} {N : Nat → Nat} {X : Nat → List Value} {w w' : World}
theorem Mx.below (M : Mx B A E C na nc nl np V N X w) (b : Below w.heap.size w w') : Mx B A E C na nc nl np V N X w' := { M with fam := M.fam.below b }
theorem Fam.dom {D D' : Nat → Prop} {T S : Nat → Nat} (F : Fam B D T S N V X w) (h : ∀ j, D' j → D j) : Fam B D' T S N V X w := ⟨fun i hi => F.own i (h i hi), fun i j g hi hj => F.apart i j g (h i hi) (h j hj)⟩
/-- A list more. -/
theorem Mx.addS (M : Mx B A E C na nc nl np V N X w) (hn : na < 6) (hl : nl ≤ na) (b : Below w.heap.size w w') (hB : B ≤ w.heap.size) {v : Value} {t : List (List UInt8)} (h : OwnS w.heap.size v t w') (ht : t.length = nA A E na) :
    ∃ N' X', Mx B A E C (na + 1) nc nl np (upd V (10 + na) v) N' X' w' := by
  have hnd : ¬ dom na nc (10 + na) := by unfold dom; omega
  have F := M.fam.add (i := 10 + na) hnd b hB (v := v) (n := t.length) (x := encS t) (by rw [ty_s na hn, sz_s na hn]; exact h)
  refine ⟨_, _, ⟨F.dom (fun j hj => by unfold dom at *; omega), ?_, ?_, ?_, ?_, ?_, ?_, ?_, ?_, ?_, ?_, ?_, ?_⟩⟩
  · rw [upd_other _ _ (by omega)]; exact M.n0
  · rw [upd_other _ _ (by omega)]; exact M.n1
  · rw [upd_other _ _ (by omega)]; exact M.n2
  · rw [upd_other _ _ (by omega)]; exact M.n3
  · rw [upd_other _ _ (by omega)]; exact M.n4
  · intro q hq
    by_cases e : q = na
    · rw [e, upd_same]; exact ht
    · rw [upd_other _ _ (by omega)]; exact M.ns q (by omega)
  · intro q hq
    rw [upd_other _ _ (by omega)]; exact M.nc q hq
  · rw [upd_other _ _ (by omega), M.x0]
    refine List.map_congr_left (fun q hq => ?_)
    rw [upd_other _ _ (by have := List.mem_range.1 hq; omega)]
  · rw [upd_other _ _ (by omega), M.x1]
    refine List.map_congr_left (fun q hq => ?_)
    rw [upd_other _ _ (by omega)]
  · rw [upd_other _ _ (by omega)]; exact M.x2
  · rw [upd_other _ _ (by omega)]; exact M.x3
  · rw [upd_other _ _ (by omega)]; exact M.x4
/-- A list of parameters more. -/
theorem Mx.addP (M : Mx B A E C na nc nl np V N X w) (hn : na ≤ 6) (hnl : nl ≤ na) (hl : np ≤ nc) (b : Below w.heap.size w w') (hB : B ≤ w.heap.size) {v : Value} (h : OwnP 51 w.heap.size v C w') :
    ∃ N' X', Mx B A E C na (nc + 1) nl np (upd V (20 + nc) v) N' X' w' := by
  have hnd : ¬ dom na nc (20 + nc) := by unfold dom; omega
  have F := M.fam.add (i := 20 + nc) hnd b hB (v := v) (n := C.length) (x := encP C) (by rw [ty_p nc, sz_p nc]; exact h)
  refine ⟨_, _, ⟨F.dom (fun j hj => by unfold dom at *; omega), ?_, ?_, ?_, ?_, ?_, ?_, ?_, ?_, ?_, ?_, ?_, ?_⟩⟩
  · rw [upd_other _ _ (by omega)]; exact M.n0
  · rw [upd_other _ _ (by omega)]; exact M.n1
  · rw [upd_other _ _ (by omega)]; exact M.n2
  · rw [upd_other _ _ (by omega)]; exact M.n3
  · rw [upd_other _ _ (by omega)]; exact M.n4
  · intro q hq
    rw [upd_other _ _ (by omega)]; exact M.ns q hq
  · intro q hq
    by_cases e : q = nc
    · rw [e, upd_same]
    · rw [upd_other _ _ (by omega)]; exact M.nc q (by omega)
  · rw [upd_other _ _ (by omega), M.x0]
    refine List.map_congr_left (fun q hq => ?_)
    rw [upd_other _ _ (by have := List.mem_range.1 hq; omega)]
  · rw [upd_other _ _ (by omega), M.x1]
    refine List.map_congr_left (fun q hq => ?_)
    rw [upd_other _ _ (by have := List.mem_range.1 hq; omega)]
  · rw [upd_other _ _ (by omega)]; exact M.x2
  · rw [upd_other _ _ (by omega)]; exact M.x3
  · rw [upd_other _ _ (by omega)]; exact M.x4
theorem range_snoc {α : Type} (n : Nat) (f : Nat → α) : (List.range (n + 1)).map f = (List.range n).map f ++ [f n] := by rw [List.range_succ, List.map_append]; rfl
/-- Two lists are told to the list of lists. -/
theorem Mx.appL (M : Mx B A E C na nc nl np V N X w) (hl : nl + 2 ≤ na) {v : Value} (h1 : w'.ownsRow B 22 1 v (nl + 2) (X 0 ++ [V (10 + nl), V (10 + nl + 1)])) (hg : w.grownBy w' (V 0).ownBlock) (hv : v.ownBlock = (V 0).ownBlock ∨ ∃ g, v.ownBlock = some g ∧ w.heap.size ≤ g) :
    ∃ N' X', Mx B A E C na nc (nl + 2) np (upd V 0 v) N' X' w' := by
  have F := M.fam.put (i := 0) (by unfold dom; omega) hg (v := v) (n := nl + 2) (x := X 0 ++ [V (10 + nl), V (10 + nl + 1)]) h1 hv
  refine ⟨_, _, ⟨F, ?_, ?_, ?_, ?_, ?_, ?_, ?_, ?_, ?_, ?_, ?_, ?_⟩⟩
  · rw [upd_same]
  · rw [upd_other _ _ (by omega)]; exact M.n1
  · rw [upd_other _ _ (by omega)]; exact M.n2
  · rw [upd_other _ _ (by omega)]; exact M.n3
  · rw [upd_other _ _ (by omega)]; exact M.n4
  · intro q hq
    rw [upd_other _ _ (by omega)]; exact M.ns q hq
  · intro q hq
    rw [upd_other _ _ (by omega)]; exact M.nc q hq
  · rw [upd_same, M.x0, show nl + 2 = nl + 1 + 1 by omega, range_snoc, range_snoc, List.append_assoc]
    rw [upd_other _ _ (by omega), upd_other _ _ (by omega)]
    congr 1
    exact List.map_congr_left (fun q hq => (upd_other _ _ (by omega)).symm)
  · rw [upd_other _ _ (by omega), M.x1]
    refine List.map_congr_left (fun q hq => ?_)
    rw [upd_other _ _ (by omega)]
  · rw [upd_other _ _ (by omega)]; exact M.x2
  · rw [upd_other _ _ (by omega)]; exact M.x3
  · rw [upd_other _ _ (by omega)]; exact M.x4
/-- A list of parameters is told. -/
theorem Mx.appP (M : Mx B A E C na nc nl np V N X w) (hl : np + 1 ≤ nc) {v : Value} (h1 : w'.ownsRow B 34 1 v (np + 1) (X 1 ++ [V (20 + np)])) (hg : w.grownBy w' (V 1).ownBlock) (hv : v.ownBlock = (V 1).ownBlock ∨ ∃ g, v.ownBlock = some g ∧ w.heap.size ≤ g) :
    ∃ N' X', Mx B A E C na nc nl (np + 1) (upd V 1 v) N' X' w' := by
  have F := M.fam.put (i := 1) (by unfold dom; omega) hg (v := v) (n := np + 1) (x := X 1 ++ [V (20 + np)]) h1 hv
  refine ⟨_, _, ⟨F, ?_, ?_, ?_, ?_, ?_, ?_, ?_, ?_, ?_, ?_, ?_, ?_⟩⟩
  · rw [upd_other _ _ (by omega)]; exact M.n0
  · rw [upd_same]
  · rw [upd_other _ _ (by omega)]; exact M.n2
  · rw [upd_other _ _ (by omega)]; exact M.n3
  · rw [upd_other _ _ (by omega)]; exact M.n4
  · intro q hq
    rw [upd_other _ _ (by omega)]; exact M.ns q hq
  · intro q hq
    rw [upd_other _ _ (by omega)]; exact M.nc q hq
  · rw [upd_other _ _ (by omega), M.x0]
    refine List.map_congr_left (fun q hq => ?_)
    rw [upd_other _ _ (by omega)]
  · rw [upd_same, M.x1, range_snoc, upd_other _ _ (by omega)]
    congr 1
    exact List.map_congr_left (fun q hq => (upd_other _ _ (by omega)).symm)
  · rw [upd_other _ _ (by omega)]; exact M.x2
  · rw [upd_other _ _ (by omega)]; exact M.x3
  · rw [upd_other _ _ (by omega)]; exact M.x4

theorem Mx.rdL (M : Mx B A E C na nc nl np V N X w) : RdS (V 2) A w ∧ RdS (V 3) E w ∧ RdP (V 4) C w := by
  have h2 := M.fam.own 2 (by unfold Oc.dom; omega)
  have h3 := M.fam.own 3 (by unfold Oc.dom; omega)
  have h4 := M.fam.own 4 (by unfold Oc.dom; omega)
  rw [M.n2, M.x2] at h2
  rw [M.n3, M.x3] at h3
  rw [M.n4, M.x4] at h4
  exact ⟨OwnS.rd (B := B) h2, OwnS.rd (B := B) h3, OwnP.rd (T := 64) (B := B) h4⟩
/-! What is written -/
def Da (A E : List (List UInt8)) (X : Nat → List Value) (i j : Nat) : Prop := ∀ q c, q < 6 → c < nA A E q → (q < i ∨ q = i ∧ c < j) → (X (10 + q))[c]? = some (dg q c)
def Dc (C : List Prm) (X : Nat → List Value) (k l : Nat) : Prop := ∀ q c, q < 3 → c < C.length → (q < k ∨ q = k ∧ c < l) → (X (20 + q))[c * 3]? = some (dg q c)
def Ph (B : Nat) (A E : List (List UInt8)) (C : List Prm) (V : Nat → Value) (i j k l : Nat) (w : World) : Prop := ∃ N X, Mx B A E C 6 3 6 3 V N X w ∧ Da A E X i j ∧ Dc C X k l
variable {i j k l : Nat}
theorem Ph.start (M : ∃ N X, Mx B A E C 6 3 6 3 V N X w) : Ph B A E C V 0 0 0 0 w := by
  obtain ⟨N, X, M⟩ := M
  exact ⟨N, X, M, fun q c _ _ h => by omega, fun q c _ _ h => by omega⟩
theorem dg_int (q c : Nat) : .string (str (Lib.itoa (1000 * (q : Int) + (c : Int)))) = dg q c := by
  unfold dg
  rw [show ((1000 * q + c : Nat) : Int) = 1000 * (q : Int) + (c : Int) by omega]
theorem Ph.below (P : Ph B A E C V i j k l w) (b : Below w.heap.size w w') : Ph B A E C V i j k l w' := by
  obtain ⟨N, X, M, h⟩ := P
  exact ⟨N, X, M.below b, h⟩
theorem Ph.nextS (P : Ph B A E C V i (nA A E i) k l w) : Ph B A E C V (i + 1) 0 k l w := by
  obtain ⟨N, X, M, ha, hc⟩ := P
  refine ⟨N, X, M, fun q c hq hn h => ha q c hq hn ?_, hc⟩
  by_cases e : q = i
  · right; exact ⟨e, e ▸ hn⟩
  · left; omega
theorem Ph.nextP (P : Ph B A E C V i j k C.length w) : Ph B A E C V i j (k + 1) 0 w := by
  obtain ⟨N, X, M, ha, hc⟩ := P
  refine ⟨N, X, M, ha, fun q c hq hn h => hc q c hq hn ?_⟩
  by_cases e : q = k
  · right; exact ⟨e, hn⟩
  · left; omega
theorem Ph.formS (P : Ph B A E C V i j k l w) (q : Nat) (hq : q < 6) : (V (10 + q) = .slice none 0 0 ∧ nA A E q = 0) ∨ ∃ g cap, V (10 + q) = .slice (some ⟨g, 0, none⟩) (nA A E q) cap ∧ nA A E q ≤ cap := by
  obtain ⟨N, X, M, _⟩ := P
  have := owns_form (M.fam.own (10 + q) (by unfold dom; omega))
  rwa [M.ns q hq] at this
theorem Ph.formP (P : Ph B A E C V i j k l w) (q : Nat) (hq : q < 3) : (V (20 + q) = .slice none 0 0 ∧ C.length = 0) ∨ ∃ g cap, V (20 + q) = .slice (some ⟨g, 0, none⟩) C.length cap ∧ C.length ≤ cap := by
  obtain ⟨N, X, M, _⟩ := P
  have := owns_form (M.fam.own (20 + q) (by unfold dom; omega))
  rwa [M.nc q hq] at this
theorem Ph.formL (P : Ph B A E C V i j k l w) : ∃ g cap, V 0 = .slice (some ⟨g, 0, none⟩) 6 cap ∧ 6 ≤ cap := by
  obtain ⟨N, X, M, _⟩ := P
  have := owns_form (M.fam.own 0 (by unfold dom; omega))
  rw [M.n0] at this
  rcases this with ⟨_, h⟩ | h
  · cases h
  · exact h
theorem Ph.formC (P : Ph B A E C V i j k l w) : ∃ g cap, V 1 = .slice (some ⟨g, 0, none⟩) 3 cap ∧ 3 ≤ cap := by
  obtain ⟨N, X, M, _⟩ := P
  have := owns_form (M.fam.own 1 (by unfold dom; omega))
  rw [M.n1] at this
  rcases this with ⟨_, h⟩ | h
  · cases h
  · exact h
theorem Ph.cellL (P : Ph B A E C V i j k l w) {g cap : Nat} (hv : V 0 = .slice (some ⟨g, 0, none⟩) 6 cap) (q : Nat) (hq : q < 6) : w.cell? ⟨g, q, none⟩ = some (V (10 + q)) := by
  obtain ⟨N, X, M, _⟩ := P
  have h := M.fam.own 0 (by unfold dom; omega)
  rw [hv, M.n0] at h
  refine owns_cell h ?_
  rw [M.x0]
  simp [hq]
theorem Ph.cellC (P : Ph B A E C V i j k l w) {g cap : Nat} (hv : V 1 = .slice (some ⟨g, 0, none⟩) 3 cap) (q : Nat) (hq : q < 3) : w.cell? ⟨g, q, none⟩ = some (V (20 + q)) := by
  obtain ⟨N, X, M, _⟩ := P
  have h := M.fam.own 1 (by unfold dom; omega)
  rw [hv, M.n1] at h
  refine owns_cell h ?_
  rw [M.x1]
  simp [hq]
theorem Ph.geS (P : Ph B A E C V i j k l w) (q : Nat) (hq : q < 6) {g n cap : Nat} (hv : V (10 + q) = .slice (some ⟨g, 0, none⟩) n cap) : B ≤ g := by
  obtain ⟨N, X, M, _⟩ := P
  exact (World.ownsRow.lt (M.fam.own (10 + q) (by unfold Oc.dom; omega)) g (by rw [hv]; rfl)).1
theorem Ph.geP (P : Ph B A E C V i j k l w) (q : Nat) (hq : q < 3) {g n cap : Nat} (hv : V (20 + q) = .slice (some ⟨g, 0, none⟩) n cap) : B ≤ g := by
  obtain ⟨N, X, M, _⟩ := P
  exact (World.ownsRow.lt (M.fam.own (20 + q) (by unfold Oc.dom; omega)) g (by rw [hv]; rfl)).1
/-- What is at hand of a list's cell ahead of a write. -/
theorem Ph.freeS (P : Ph B A E C V i j k l w) (q : Nat) (hq : q < 6) {g cap : Nat} (hv : V (10 + q) = .slice (some ⟨g, 0, none⟩) (nA A E q) cap) (c : Nat) (hc : c < nA A E q) : (∃ u, w.cell? ⟨g, c, none⟩ = some u) ∧ w.frozen? ⟨g, c, none⟩ = false := by
  obtain ⟨N, X, M, _⟩ := P
  have h := M.fam.own (10 + q) (by unfold dom; omega)
  rw [hv, M.ns q hq] at h
  have hl := h.1
  rw [sz_s q hq, Nat.mul_one] at hl
  exact ⟨⟨_, owns_cell h (List.getElem?_eq_getElem (by omega : c < (X (10 + q)).length))⟩, owns_free h c⟩
theorem Ph.freeP (P : Ph B A E C V i j k l w) (q : Nat) (hq : q < 3) {g cap : Nat} (hv : V (20 + q) = .slice (some ⟨g, 0, none⟩) C.length cap) (c : Nat) (hc : c < C.length * 3) : (∃ u, w.cell? ⟨g, c, none⟩ = some u) ∧ w.frozen? ⟨g, c, none⟩ = false := by
  obtain ⟨N, X, M, _⟩ := P
  have h := M.fam.own (20 + q) (by unfold dom; omega)
  rw [hv, M.nc q hq] at h
  have hl := h.1
  rw [sz_p q] at hl
  exact ⟨⟨_, owns_cell h (List.getElem?_eq_getElem (by omega : c < (X (20 + q)).length))⟩, owns_free h c⟩
/-- A list's cell is written. -/
theorem Ph.setS (P : Ph B A E C V i j k l w) (hi : i < 6) (hj : j < nA A E i) {g cap : Nat} (hv : V (10 + i) = .slice (some ⟨g, 0, none⟩) (nA A E i) cap) : Ph B A E C V i (j + 1) k l (w.setCell ⟨g, j, none⟩ (dg i j)) := by
  obtain ⟨N, X, M, ha, hc⟩ := P
  have hN := M.ns i hi
  have F := M.fam.set (i := 10 + i) (by unfold dom; omega) (by rw [hN]; exact hv) j (dg i j)
  have hl := (M.fam.own (10 + i) (by unfold dom; omega)).1
  rw [sz_s i hi, Nat.mul_one, hN] at hl
  refine ⟨N, _, ⟨F, M.n0, M.n1, M.n2, M.n3, M.n4, M.ns, M.nc, ?_, ?_, ?_, ?_, ?_⟩, fun q c hq hn h => ?_, fun q c hq hn h => ?_⟩
  · rw [upd_other _ _ (by omega)]; exact M.x0
  · rw [upd_other _ _ (by omega)]; exact M.x1
  · rw [upd_other _ _ (by omega)]; exact M.x2
  · rw [upd_other _ _ (by omega)]; exact M.x3
  · rw [upd_other _ _ (by omega)]; exact M.x4
  · by_cases e : q = i
    · subst e
      rw [upd_same, List.getElem?_set]
      by_cases e2 : j = c
      · subst e2
        rw [if_pos rfl, if_pos (by omega)]
      · rw [if_neg e2]
        exact ha q c hq hn (by omega)
    · rw [upd_other _ _ (by omega)]
      exact ha q c hq hn (by omega)
  · rw [upd_other _ _ (by omega)]
    exact hc q c hq hn h
theorem set3 (xs : List Value) (c c' : Nat) (a b d : Value) (h : c * 3 < xs.length) : (((xs.set (c * 3) a).set (c * 3 + 1) b).set (c * 3 + 2) d)[c' * 3]? = if c' = c then some a else xs[c' * 3]? := by
  rw [List.getElem?_set_ne (by omega), List.getElem?_set_ne (by omega), List.getElem?_set]
  by_cases e : c' = c
  · subst e; rw [if_pos rfl, if_pos h, if_pos rfl]
  · rw [if_neg (by omega), if_neg e]
/-- A parameter is written. -/
theorem Ph.setP (P : Ph B A E C V i j k l w) (hk : k < 3) (hl : l < C.length) {g cap : Nat} (hv : V (20 + k) = .slice (some ⟨g, 0, none⟩) C.length cap) (b d : Value) :
    Ph B A E C V i j k (l + 1) (((w.setCell ⟨g, l * 3, none⟩ (dg k l)).setCell ⟨g, l * 3 + 1, none⟩ b).setCell ⟨g, l * 3 + 2, none⟩ d) := by
  obtain ⟨N, X, M, ha, hc⟩ := P
  have hN := M.nc k hk
  have hd : dom 6 3 (20 + k) := by unfold dom; omega
  have hv' : V (20 + k) = .slice (some ⟨g, 0, none⟩) (N (20 + k)) cap := by rw [hN]; exact hv
  have F := ((M.fam.set hd hv' (l * 3) (dg k l)).set hd hv' (l * 3 + 1) b).set hd hv' (l * 3 + 2) d
  have hlen := (M.fam.own (20 + k) hd).1
  rw [sz_p k, hN] at hlen
  refine ⟨N, _, ⟨F, M.n0, M.n1, M.n2, M.n3, M.n4, M.ns, M.nc, ?_, ?_, ?_, ?_, ?_⟩, fun q c hq hn h => ?_, fun q c hq hn h => ?_⟩
  · rw [upd_other _ _ (by omega), upd_other _ _ (by omega), upd_other _ _ (by omega)]; exact M.x0
  · rw [upd_other _ _ (by omega), upd_other _ _ (by omega), upd_other _ _ (by omega)]; exact M.x1
  · rw [upd_other _ _ (by omega), upd_other _ _ (by omega), upd_other _ _ (by omega)]; exact M.x2
  · rw [upd_other _ _ (by omega), upd_other _ _ (by omega), upd_other _ _ (by omega)]; exact M.x3
  · rw [upd_other _ _ (by omega), upd_other _ _ (by omega), upd_other _ _ (by omega)]; exact M.x4
  · rw [upd_other _ _ (by omega), upd_other _ _ (by omega), upd_other _ _ (by omega)]
    exact ha q c hq hn h
  · by_cases e : q = k
    · subst e
      rw [upd_same, upd_same, upd_same, set3 _ _ _ _ _ _ (by omega)]
      by_cases e2 : c = l
      · rw [if_pos e2, e2]
      · rw [if_neg e2]
        exact hc q c hq hn (by omega)
    · rw [upd_other _ _ (by omega), upd_other _ _ (by omega), upd_other _ _ (by omega)]
      exact hc q c hq hn (by omega)
theorem Ph.readS (P : Ph B A E C V 6 0 k l w) (q : Nat) (hq : q < 6) {g cap : Nat} (hv : V (10 + q) = .slice (some ⟨g, 0, none⟩) (nA A E q) cap) (c : Nat) (hc : c < nA A E q) : w.cell? ⟨g, c, none⟩ = some (dg q c) := by
  obtain ⟨N, X, M, ha, _⟩ := P
  have h := M.fam.own (10 + q) (by unfold dom; omega)
  rw [hv, M.ns q hq] at h
  exact owns_cell h (ha q c hq hc (.inl hq))
theorem Ph.readP (P : Ph B A E C V i j 3 0 w) (q : Nat) (hq : q < 3) {g cap : Nat} (hv : V (20 + q) = .slice (some ⟨g, 0, none⟩) C.length cap) (c : Nat) (hc : c < C.length) : w.cell? ⟨g, c * 3, none⟩ = some (dg q c) := by
  obtain ⟨N, X, M, _, ha⟩ := P
  have h := M.fam.own (20 + q) (by unfold dom; omega)
  rw [hv, M.nc q hq] at h
  exact owns_cell h (ha q c hq hc (.inl hq))
theorem Ph.rdL (P : Ph B A E C V i j k l w) : RdS (V 2) A w ∧ RdS (V 3) E w ∧ RdP (V 4) C w := by
  obtain ⟨N, X, M, _⟩ := P
  have h2 := M.fam.own 2 (by unfold dom; omega)
  have h3 := M.fam.own 3 (by unfold dom; omega)
  have h4 := M.fam.own 4 (by unfold dom; omega)
  rw [M.n2, M.x2] at h2
  rw [M.n3, M.x3] at h3
  rw [M.n4, M.x4] at h4
  exact ⟨OwnS.rd (B := B) h2, OwnS.rd (B := B) h3, OwnP.rd (T := 64) (B := B) h4⟩
/-- A list under another name, grown. -/
def PhA (B : Nat) (A E : List (List UInt8)) (C : List Prm) (V : Nat → Value) (r : Nat) (gv : Value) (m : Nat) (w : World) : Prop := ∃ N X, Mx B A E C 6 3 6 3 V N X w ∧ Da A E X 6 0 ∧ Dc C X 3 0 ∧ Alias B (dom 6 3) tyM szM N V X r gv m w
theorem Ph.alias (P : Ph B A E C V 6 0 3 0 w) (r : Nat) (hr : dom 6 3 r) : PhA B A E C V r (V r) 0 w := by
  obtain ⟨N, X, M, h1, h2⟩ := P
  exact ⟨N, X, M, h1, h2, M.fam.alias hr⟩
theorem PhA.done {r m : Nat} {gv : Value} (P : PhA B A E C V r gv m w) : Ph B A E C V 6 0 3 0 w := by
  obtain ⟨N, X, M, h1, h2, _⟩ := P
  exact ⟨N, X, M, h1, h2⟩
theorem PhA.below {r m : Nat} {gv : Value} (P : PhA B A E C V r gv m w) (b : Below w.heap.size w w') : PhA B A E C V r gv m w' := by
  obtain ⟨N, X, M, h1, h2, h3⟩ := P
  exact ⟨N, X, M.below b, h1, h2, h3.below b⟩

end Oc
end Go.Proofs.YthdepdgmlngafabDoor
