/- Several texts as one. -/
import Derived.Test.YtfpodnaaappocaaGreatDoorMgM
import Derived.Test.YtfpodnaaappocaaGreatDoorMgU
import Derived.Test.YtfpodnaaappocaaGreatDoorMgT
/-
  What the law TargetMemory holds: three lists, three lists of parameters, those of the document; all apart (written by mktme.py).
-/
set_option linter.unusedVariables false
set_option linter.unusedSimpArgs false
namespace Go.Proofs.YtfpodnaaappocaaGreatDoor
open Go.RowKit Go.Shelf
namespace Tg
open Oc

def tyM (i : Nat) : Nat := if i = 0 then 22 else if i = 1 then 33 else if i = 4 then 60 else if i < 20 then 9 else 40
def szM (i : Nat) : Nat := if i = 4 ∨ 20 ≤ i then 3 else 1
def domM (na nc j : Nat) : Prop := j ≤ 4 ∨ (10 ≤ j ∧ j < 10 + na) ∨ (20 ≤ j ∧ j < 20 + nc)
theorem ty_s (q : Nat) (h : q < 3) : tyM (10 + q) = 9 := by unfold tyM; rw [if_neg (by omega), if_neg (by omega), if_neg (by omega), if_pos (by omega)]
theorem sz_s (q : Nat) (h : q < 3) : szM (10 + q) = 1 := by unfold szM; rw [if_neg (by omega)]
theorem ty_p (q : Nat) : tyM (20 + q) = 40 := by unfold tyM; rw [if_neg (by omega), if_neg (by omega), if_neg (by omega), if_neg (by omega)]
theorem sz_p (q : Nat) : szM (20 + q) = 3 := by unfold szM; rw [if_pos (by omega)]
/-- How long a list is. -/
def nA (A E : List (List UInt8)) (q : Nat) : Nat := A.length
/-- What is written. -/
def dg (q c : Nat) : Value := .string ((⟨#[109, 97, 114, 107]⟩ : ByteArray) ++ str (Lib.itoa ((1000 * q + c : Nat) : Int)))

structure Mx (B : Nat) (A E : List (List UInt8)) (C : List Prm) (na nc nl np : Nat) (V : Nat → Value) (N : Nat → Nat) (X : Nat → List Value) (w : World) : Prop where
  fam : Fam B (domM na nc) tyM szM N V X w
  n0 : N 0 = nl
  n1 : N 1 = np
  n2 : N 2 = A.length
  n3 : N 3 = E.length
  n4 : N 4 = C.length
  ns : ∀ q, q < na → N (10 + q) = nA A E q
  nc : ∀ q, q < nc → N (20 + q) = C.length
  x0 : X 0 = (List.range nl).map (fun q => V (10 + q))
  x1 : X 1 = (List.range np).map (fun q => V (20 + q))
  x2 : X 2 = encL A
  x3 : X 3 = encL E
  x4 : X 4 = encQ C

variable {B : Nat} {A E : List (List UInt8)} {C : List Prm} {na nc nl np : Nat} {V : Nat → Value} {N : Nat → Nat} {X : Nat → List Value} {w w' : World}
theorem Mx.below (M : Mx B A E C na nc nl np V N X w) (b : Below w.heap.size w w') : Mx B A E C na nc nl np V N X w' := { M with fam := M.fam.below b }
theorem _root_.Go.Proofs.YtfpodnaaappocaaGreatDoor.Oc.Fam.restr {D D' : Nat → Prop} {T S : Nat → Nat} (F : Fam B D T S N V X w) (h : ∀ j, D' j → D j) : Fam B D' T S N V X w := ⟨fun i hi => F.own i (h i hi), fun i j g hi hj => F.apart i j g (h i hi) (h j hj)⟩
/-- A list more. -/
theorem Mx.addS (M : Mx B A E C na nc nl np V N X w) (hn : na < 3) (hl : nl ≤ na) (b : Below w.heap.size w w') (hB : B ≤ w.heap.size) {v : Value} {t : List (List UInt8)} (h : OwnS w.heap.size v t w') (ht : t.length = nA A E na) :
    ∃ N' X', Mx B A E C (na + 1) nc nl np (upd V (10 + na) v) N' X' w' := by
  have hnd : ¬ domM na nc (10 + na) := by unfold domM; omega
  have F := M.fam.add (i := 10 + na) hnd b hB (v := v) (n := t.length) (x := encL t) (by rw [ty_s na hn, sz_s na hn]; exact h)
  refine ⟨_, _, ⟨F.restr (fun j hj => by unfold domM at *; omega), ?_, ?_, ?_, ?_, ?_, ?_, ?_, ?_, ?_, ?_, ?_, ?_⟩⟩
  · rw [upd_other _ _ (by omega)]; exact M.n0
  · rw [upd_other _ _ (by omega)]; exact M.n1
  · rw [upd_other _ _ (by omega)]; exact M.n2
  · rw [upd_other _ _ (by omega)]; exact M.n3
  · rw [upd_other _ _ (by omega)]; exact M.n4
  · intro q hq
    by_cases e : q = na
    · rw [e, upd_same]; exact ht
    · rw [upd_other _ _ (by omega)]; exact M.ns q (by omega)
  · intro q hq
    rw [upd_other _ _ (by omega)]; exact M.nc q hq
  · rw [upd_other _ _ (by omega), M.x0]
    refine List.map_congr_left (fun q hq => ?_)
    rw [upd_other _ _ (by have := List.mem_range.1 hq; omega)]
  · rw [upd_other _ _ (by omega), M.x1]
    refine List.map_congr_left (fun q hq => ?_)
    rw [upd_other _ _ (by omega)]
  · rw [upd_other _ _ (by omega)]; exact M.x2
  · rw [upd_other _ _ (by omega)]; exact M.x3
  · rw [upd_other _ _ (by omega)]; exact M.x4
/-- A list of parameters more. -/
theorem Mx.addP (M : Mx B A E C na nc nl np V N X w) (hn : na ≤ 3) (hnl : nl ≤ na) (hl : np ≤ nc) (b : Below w.heap.size w w') (hB : B ≤ w.heap.size) {v : Value} (h : OwnQ 40 w.heap.size v C w') :
    ∃ N' X', Mx B A E C na (nc + 1) nl np (upd V (20 + nc) v) N' X' w' := by
  have hnd : ¬ domM na nc (20 + nc) := by unfold domM; omega
  have F := M.fam.add (i := 20 + nc) hnd b hB (v := v) (n := C.length) (x := encQ C) (by rw [ty_p nc, sz_p nc]; exact h)
  refine ⟨_, _, ⟨F.restr (fun j hj => by unfold domM at *; omega), ?_, ?_, ?_, ?_, ?_, ?_, ?_, ?_, ?_, ?_, ?_, ?_⟩⟩
  · rw [upd_other _ _ (by omega)]; exact M.n0
  · rw [upd_other _ _ (by omega)]; exact M.n1
  · rw [upd_other _ _ (by omega)]; exact M.n2
  · rw [upd_other _ _ (by omega)]; exact M.n3
  · rw [upd_other _ _ (by omega)]; exact M.n4
  · intro q hq
    rw [upd_other _ _ (by omega)]; exact M.ns q hq
  · intro q hq
    by_cases e : q = nc
    · rw [e, upd_same]
    · rw [upd_other _ _ (by omega)]; exact M.nc q (by omega)
  · rw [upd_other _ _ (by omega), M.x0]
    refine List.map_congr_left (fun q hq => ?_)
    rw [upd_other _ _ (by have := List.mem_range.1 hq; omega)]
  · rw [upd_other _ _ (by omega), M.x1]
    refine List.map_congr_left (fun q hq => ?_)
    rw [upd_other _ _ (by have := List.mem_range.1 hq; omega)]
  · rw [upd_other _ _ (by omega)]; exact M.x2
  · rw [upd_other _ _ (by omega)]; exact M.x3
  · rw [upd_other _ _ (by omega)]; exact M.x4
theorem range_snoc {α : Type} (n : Nat) (f : Nat → α) : (List.range (n + 1)).map f = (List.range n).map f ++ [f n] := by rw [List.range_succ, List.map_append]; rfl
/-- A list is told to the list of lists. -/
theorem Mx.appL (M : Mx B A E C na nc nl np V N X w) (hl : nl + 1 ≤ na) {v : Value} (h1 : w'.ownsRow B 22 1 v (nl + 1) (X 0 ++ [V (10 + nl)])) (hg : w.grownBy w' (V 0).ownBlock) (hv : v.ownBlock = (V 0).ownBlock ∨ ∃ g, v.ownBlock = some g ∧ w.heap.size ≤ g) :
    ∃ N' X', Mx B A E C na nc (nl + 1) np (upd V 0 v) N' X' w' := by
  have F := M.fam.put (i := 0) (by unfold domM; omega) hg (v := v) (n := nl + 1) (x := X 0 ++ [V (10 + nl)]) h1 hv
  refine ⟨_, _, ⟨F, ?_, ?_, ?_, ?_, ?_, ?_, ?_, ?_, ?_, ?_, ?_, ?_⟩⟩
  · rw [upd_same]
  · rw [upd_other _ _ (by omega)]; exact M.n1
  · rw [upd_other _ _ (by omega)]; exact M.n2
  · rw [upd_other _ _ (by omega)]; exact M.n3
  · rw [upd_other _ _ (by omega)]; exact M.n4
  · intro q hq
    rw [upd_other _ _ (by omega)]; exact M.ns q hq
  · intro q hq
    rw [upd_other _ _ (by omega)]; exact M.nc q hq
  · rw [upd_same, M.x0, range_snoc, upd_other _ _ (by omega)]
    congr 1
    exact List.map_congr_left (fun q hq => (upd_other _ _ (by omega)).symm)
  · rw [upd_other _ _ (by omega), M.x1]
    refine List.map_congr_left (fun q hq => ?_)
    rw [upd_other _ _ (by omega)]
  · rw [upd_other _ _ (by omega)]; exact M.x2
  · rw [upd_other _ _ (by omega)]; exact M.x3
  · rw [upd_other _ _ (by omega)]; exact M.x4
/-- A list of parameters is told. -/
theorem Mx.appP (M : Mx B A E C na nc nl np V N X w) (hl : np + 1 ≤ nc) {v : Value} (h1 : w'.ownsRow B 33 1 v (np + 1) (X 1 ++ [V (20 + np)])) (hg : w.grownBy w' (V 1).ownBlock) (hv : v.ownBlock = (V 1).ownBlock ∨ ∃ g, v.ownBlock = some g ∧ w.heap.size ≤ g) :
    ∃ N' X', Mx B A E C na nc nl (np + 1) (upd V 1 v) N' X' w' := by
  have F := M.fam.put (i := 1) (by unfold domM; omega) hg (v := v) (n := np + 1) (x := X 1 ++ [V (20 + np)]) h1 hv
  refine ⟨_, _, ⟨F, ?_, ?_, ?_, ?_, ?_, ?_, ?_, ?_, ?_, ?_, ?_, ?_⟩⟩
  · rw [upd_other _ _ (by omega)]; exact M.n0
  · rw [upd_same]
  · rw [upd_other _ _ (by omega)]; exact M.n2
  · rw [upd_other _ _ (by omega)]; exact M.n3
  · rw [upd_other _ _ (by omega)]; exact M.n4
  · intro q hq
    rw [upd_other _ _ (by omega)]; exact M.ns q hq
  · intro q hq
    rw [upd_other _ _ (by omega)]; exact M.nc q hq
  · rw [upd_other _ _ (by omega), M.x0]
    refine List.map_congr_left (fun q hq => ?_)
    rw [upd_other _ _ (by omega)]
  · rw [upd_same, M.x1, range_snoc, upd_other _ _ (by omega)]
    congr 1
    exact List.map_congr_left (fun q hq => (upd_other _ _ (by omega)).symm)
  · rw [upd_other _ _ (by omega)]; exact M.x2
  · rw [upd_other _ _ (by omega)]; exact M.x3
  · rw [upd_other _ _ (by omega)]; exact M.x4

theorem Mx.rdL (M : Mx B A E C na nc nl np V N X w) : RdS (V 2) A w ∧ RdS (V 3) E w ∧ RdQ (V 4) C w := by
  have h2 := M.fam.own 2 (by unfold domM; omega)
  have h3 := M.fam.own 3 (by unfold domM; omega)
  have h4 := M.fam.own 4 (by unfold domM; omega)
  rw [M.n2, M.x2] at h2
  rw [M.n3, M.x3] at h3
  rw [M.n4, M.x4] at h4
  exact ⟨OwnS.rd (B := B) h2, OwnS.rd (B := B) h3, OwnQ.rd (T := 60) (B := B) h4⟩
/-! What is written -/
def Da (A E : List (List UInt8)) (X : Nat → List Value) (i j : Nat) : Prop := ∀ q c, q < 3 → c < nA A E q → (q < i ∨ q = i ∧ c < j) → (X (10 + q))[c]? = some (dg q c)
def Dc (C : List Prm) (X : Nat → List Value) (k l : Nat) : Prop := ∀ q c, q < 3 → c < C.length → (q < k ∨ q = k ∧ c < l) → (X (20 + q))[c * 3]? = some (dg q c)
def Ph (B : Nat) (A E : List (List UInt8)) (C : List Prm) (V : Nat → Value) (i j k l : Nat) (w : World) : Prop := ∃ N X, Mx B A E C 3 3 3 3 V N X w ∧ Da A E X i j ∧ Dc C X k l
variable {i j k l : Nat}
theorem Ph.start (M : ∃ N X, Mx B A E C 3 3 3 3 V N X w) : Ph B A E C V 0 0 0 0 w := by
  obtain ⟨N, X, M⟩ := M
  exact ⟨N, X, M, fun q c _ _ h => by omega, fun q c _ _ h => by omega⟩
theorem dg_int (q c : Nat) : .string ((⟨#[109, 97, 114, 107]⟩ : ByteArray) ++ str (Lib.itoa (1000 * (q : Int) + (c : Int)))) = dg q c := by
  unfold dg
  rw [show ((1000 * q + c : Nat) : Int) = 1000 * (q : Int) + (c : Int) by omega]
theorem Ph.below (P : Ph B A E C V i j k l w) (b : Below w.heap.size w w') : Ph B A E C V i j k l w' := by
  obtain ⟨N, X, M, h⟩ := P
  exact ⟨N, X, M.below b, h⟩
theorem Ph.nextS (P : Ph B A E C V i (nA A E i) k l w) : Ph B A E C V (i + 1) 0 k l w := by
  obtain ⟨N, X, M, ha, hc⟩ := P
  refine ⟨N, X, M, fun q c hq hn h => ha q c hq hn ?_, hc⟩
  by_cases e : q = i
  · right; exact ⟨e, e ▸ hn⟩
  · left; omega
theorem Ph.nextP (P : Ph B A E C V i j k C.length w) : Ph B A E C V i j (k + 1) 0 w := by
  obtain ⟨N, X, M, ha, hc⟩ := P
  refine ⟨N, X, M, ha, fun q c hq hn h => hc q c hq hn ?_⟩
  by_cases e : q = k
  · right; exact ⟨e, hn⟩
  · left; omega
theorem Ph.formS (P : Ph B A E C V i j k l w) (q : Nat) (hq : q < 3) : (V (10 + q) = .slice none 0 0 ∧ nA A E q = 0) ∨ ∃ g cap, V (10 + q) = .slice (some ⟨g, 0, none⟩) (nA A E q) cap ∧ nA A E q ≤ cap := by
  obtain ⟨N, X, M, _⟩ := P
  have := owns_form (M.fam.own (10 + q) (by unfold domM; omega))
  rwa [M.ns q hq] at this
theorem Ph.formP (P : Ph B A E C V i j k l w) (q : Nat) (hq : q < 3) : (V (20 + q) = .slice none 0 0 ∧ C.length = 0) ∨ ∃ g cap, V (20 + q) = .slice (some ⟨g, 0, none⟩) C.length cap ∧ C.length ≤ cap := by
  obtain ⟨N, X, M, _⟩ := P
  have := owns_form (M.fam.own (20 + q) (by unfold domM; omega))
  rwa [M.nc q hq] at this
theorem Ph.formL (P : Ph B A E C V i j k l w) : ∃ g cap, V 0 = .slice (some ⟨g, 0, none⟩) 3 cap ∧ 3 ≤ cap := by
  obtain ⟨N, X, M, _⟩ := P
  have := owns_form (M.fam.own 0 (by unfold domM; omega))
  rw [M.n0] at this
  rcases this with ⟨_, h⟩ | h
  · cases h
  · exact h
theorem Ph.formC (P : Ph B A E C V i j k l w) : ∃ g cap, V 1 = .slice (some ⟨g, 0, none⟩) 3 cap ∧ 3 ≤ cap := by
  obtain ⟨N, X, M, _⟩ := P
  have := owns_form (M.fam.own 1 (by unfold domM; omega))
  rw [M.n1] at this
  rcases this with ⟨_, h⟩ | h
  · cases h
  · exact h
theorem Ph.cellL (P : Ph B A E C V i j k l w) {g cap : Nat} (hv : V 0 = .slice (some ⟨g, 0, none⟩) 3 cap) (q : Nat) (hq : q < 3) : w.cell? ⟨g, q, none⟩ = some (V (10 + q)) := by
  obtain ⟨N, X, M, _⟩ := P
  have h := M.fam.own 0 (by unfold domM; omega)
  rw [hv, M.n0] at h
  refine owns_cell h ?_
  rw [M.x0]
  simp [hq]
theorem Ph.cellC (P : Ph B A E C V i j k l w) {g cap : Nat} (hv : V 1 = .slice (some ⟨g, 0, none⟩) 3 cap) (q : Nat) (hq : q < 3) : w.cell? ⟨g, q, none⟩ = some (V (20 + q)) := by
  obtain ⟨N, X, M, _⟩ := P
  have h := M.fam.own 1 (by unfold domM; omega)
  rw [hv, M.n1] at h
  refine owns_cell h ?_
  rw [M.x1]
  simp [hq]
theorem Ph.geS (P : Ph B A E C V i j k l w) (q : Nat) (hq : q < 3) {g n cap : Nat} (hv : V (10 + q) = .slice (some ⟨g, 0, none⟩) n cap) : B ≤ g := by
  obtain ⟨N, X, M, _⟩ := P
  exact (World.ownsRow.lt (M.fam.own (10 + q) (by unfold domM; omega)) g (by rw [hv]; rfl)).1
theorem Ph.geP (P : Ph B A E C V i j k l w) (q : Nat) (hq : q < 3) {g n cap : Nat} (hv : V (20 + q) = .slice (some ⟨g, 0, none⟩) n cap) : B ≤ g := by
  obtain ⟨N, X, M, _⟩ := P
  exact (World.ownsRow.lt (M.fam.own (20 + q) (by unfold domM; omega)) g (by rw [hv]; rfl)).1
/-- What is at hand of a list's cell ahead of a write. -/
theorem Ph.freeS (P : Ph B A E C V i j k l w) (q : Nat) (hq : q < 3) {g cap : Nat} (hv : V (10 + q) = .slice (some ⟨g, 0, none⟩) (nA A E q) cap) (c : Nat) (hc : c < nA A E q) : (∃ u, w.cell? ⟨g, c, none⟩ = some u) ∧ w.frozen? ⟨g, c, none⟩ = false := by
  obtain ⟨N, X, M, _⟩ := P
  have h := M.fam.own (10 + q) (by unfold domM; omega)
  rw [hv, M.ns q hq] at h
  have hl := h.1
  rw [sz_s q hq, Nat.mul_one] at hl
  exact ⟨⟨_, owns_cell h (List.getElem?_eq_getElem (by omega : c < (X (10 + q)).length))⟩, owns_free h c⟩
theorem Ph.freeP (P : Ph B A E C V i j k l w) (q : Nat) (hq : q < 3) {g cap : Nat} (hv : V (20 + q) = .slice (some ⟨g, 0, none⟩) C.length cap) (c : Nat) (hc : c < C.length * 3) : (∃ u, w.cell? ⟨g, c, none⟩ = some u) ∧ w.frozen? ⟨g, c, none⟩ = false := by
  obtain ⟨N, X, M, _⟩ := P
  have h := M.fam.own (20 + q) (by unfold domM; omega)
  rw [hv, M.nc q hq] at h
  have hl := h.1
  rw [sz_p q] at hl
  exact ⟨⟨_, owns_cell h (List.getElem?_eq_getElem (by omega : c < (X (20 + q)).length))⟩, owns_free h c⟩
/-- A list's cell is written. -/
theorem Ph.setS (P : Ph B A E C V i j k l w) (hi : i < 3) (hj : j < nA A E i) {g cap : Nat} (hv : V (10 + i) = .slice (some ⟨g, 0, none⟩) (nA A E i) cap) : Ph B A E C V i (j + 1) k l (w.setCell ⟨g, j, none⟩ (dg i j)) := by
  obtain ⟨N, X, M, ha, hc⟩ := P
  have hN := M.ns i hi
  have F := M.fam.set (i := 10 + i) (by unfold domM; omega) (by rw [hN]; exact hv) j (dg i j)
  have hl := (M.fam.own (10 + i) (by unfold domM; omega)).1
  rw [sz_s i hi, Nat.mul_one, hN] at hl
  refine ⟨N, _, ⟨F, M.n0, M.n1, M.n2, M.n3, M.n4, M.ns, M.nc, ?_, ?_, ?_, ?_, ?_⟩, fun q c hq hn h => ?_, fun q c hq hn h => ?_⟩
  · rw [upd_other _ _ (by omega)]; exact M.x0
  · rw [upd_other _ _ (by omega)]; exact M.x1
  · rw [upd_other _ _ (by omega)]; exact M.x2
  · rw [upd_other _ _ (by omega)]; exact M.x3
  · rw [upd_other _ _ (by omega)]; exact M.x4
  · by_cases e : q = i
    · subst e
      rw [upd_same, List.getElem?_set]
      by_cases e2 : j = c
      · subst e2
        rw [if_pos rfl, if_pos (by omega)]
      · rw [if_neg e2]
        exact ha q c hq hn (by omega)
    · rw [upd_other _ _ (by omega)]
      exact ha q c hq hn (by omega)
  · rw [upd_other _ _ (by omega)]
    exact hc q c hq hn h
theorem set3 (xs : List Value) (c c' : Nat) (a b d : Value) (h : c * 3 < xs.length) : (((xs.set (c * 3) a).set (c * 3 + 1) b).set (c * 3 + 2) d)[c' * 3]? = if c' = c then some a else xs[c' * 3]? := by
  rw [List.getElem?_set_ne (by omega), List.getElem?_set_ne (by omega), List.getElem?_set]
  by_cases e : c' = c
  · subst e; rw [if_pos rfl, if_pos h, if_pos rfl]
  · rw [if_neg (by omega), if_neg e]
/-- A parameter is written. -/
theorem Ph.setP (P : Ph B A E C V i j k l w) (hk : k < 3) (hl : l < C.length) {g cap : Nat} (hv : V (20 + k) = .slice (some ⟨g, 0, none⟩) C.length cap) (b d : Value) :
    Ph B A E C V i j k (l + 1) (((w.setCell ⟨g, l * 3, none⟩ (dg k l)).setCell ⟨g, l * 3 + 1, none⟩ b).setCell ⟨g, l * 3 + 2, none⟩ d) := by
  obtain ⟨N, X, M, ha, hc⟩ := P
  have hN := M.nc k hk
  have hd : domM 3 3 (20 + k) := by unfold domM; omega
  have hv' : V (20 + k) = .slice (some ⟨g, 0, none⟩) (N (20 + k)) cap := by rw [hN]; exact hv
  have F := ((M.fam.set hd hv' (l * 3) (dg k l)).set hd hv' (l * 3 + 1) b).set hd hv' (l * 3 + 2) d
  have hlen := (M.fam.own (20 + k) hd).1
  rw [sz_p k, hN] at hlen
  refine ⟨N, _, ⟨F, M.n0, M.n1, M.n2, M.n3, M.n4, M.ns, M.nc, ?_, ?_, ?_, ?_, ?_⟩, fun q c hq hn h => ?_, fun q c hq hn h => ?_⟩
  · rw [upd_other _ _ (by omega), upd_other _ _ (by omega), upd_other _ _ (by omega)]; exact M.x0
  · rw [upd_other _ _ (by omega), upd_other _ _ (by omega), upd_other _ _ (by omega)]; exact M.x1
  · rw [upd_other _ _ (by omega), upd_other _ _ (by omega), upd_other _ _ (by omega)]; exact M.x2
  · rw [upd_other _ _ (by omega), upd_other _ _ (by omega), upd_other _ _ (by omega)]; exact M.x3
  · rw [upd_other _ _ (by omega), upd_other _ _ (by omega), upd_other _ _ (by omega)]; exact M.x4
  · rw [upd_other _ _ (by omega), upd_other _ _ (by omega), upd_other _ _ (by omega)]
    exact ha q c hq hn h
  · by_cases e : q = k
    · subst e
      rw [upd_same, upd_same, upd_same, set3 _ _ _ _ _ _ (by omega)]
      by_cases e2 : c = l
      · rw [if_pos e2, e2]
      · rw [if_neg e2]
        exact hc q c hq hn (by omega)
    · rw [upd_other _ _ (by omega), upd_other _ _ (by omega), upd_other _ _ (by omega)]
      exact hc q c hq hn (by omega)
theorem Ph.readS (P : Ph B A E C V 3 0 k l w) (q : Nat) (hq : q < 3) {g cap : Nat} (hv : V (10 + q) = .slice (some ⟨g, 0, none⟩) (nA A E q) cap) (c : Nat) (hc : c < nA A E q) : w.cell? ⟨g, c, none⟩ = some (dg q c) := by
  obtain ⟨N, X, M, ha, _⟩ := P
  have h := M.fam.own (10 + q) (by unfold domM; omega)
  rw [hv, M.ns q hq] at h
  exact owns_cell h (ha q c hq hc (.inl hq))
theorem Ph.readP (P : Ph B A E C V i j 3 0 w) (q : Nat) (hq : q < 3) {g cap : Nat} (hv : V (20 + q) = .slice (some ⟨g, 0, none⟩) C.length cap) (c : Nat) (hc : c < C.length) : w.cell? ⟨g, c * 3, none⟩ = some (dg q c) := by
  obtain ⟨N, X, M, _, ha⟩ := P
  have h := M.fam.own (20 + q) (by unfold domM; omega)
  rw [hv, M.nc q hq] at h
  exact owns_cell h (ha q c hq hc (.inl hq))
theorem Ph.rdL (P : Ph B A E C V i j k l w) : RdS (V 2) A w ∧ RdS (V 3) E w ∧ RdQ (V 4) C w := by
  obtain ⟨N, X, M, _⟩ := P
  have h2 := M.fam.own 2 (by unfold domM; omega)
  have h3 := M.fam.own 3 (by unfold domM; omega)
  have h4 := M.fam.own 4 (by unfold domM; omega)
  rw [M.n2, M.x2] at h2
  rw [M.n3, M.x3] at h3
  rw [M.n4, M.x4] at h4
  exact ⟨OwnS.rd (B := B) h2, OwnS.rd (B := B) h3, OwnQ.rd (T := 60) (B := B) h4⟩
/-- A list under another name, grown. -/
def PhA (B : Nat) (A E : List (List UInt8)) (C : List Prm) (V : Nat → Value) (r : Nat) (gv : Value) (m : Nat) (w : World) : Prop := ∃ N X, Mx B A E C 3 3 3 3 V N X w ∧ Da A E X 3 0 ∧ Dc C X 3 0 ∧ Alias B (domM 3 3) tyM szM N V X r gv m w
theorem Ph.alias (P : Ph B A E C V 3 0 3 0 w) (r : Nat) (hr : domM 3 3 r) : PhA B A E C V r (V r) 0 w := by
  obtain ⟨N, X, M, h1, h2⟩ := P
  exact ⟨N, X, M, h1, h2, M.fam.alias hr⟩
theorem PhA.done {r m : Nat} {gv : Value} (P : PhA B A E C V r gv m w) : Ph B A E C V 3 0 3 0 w := by
  obtain ⟨N, X, M, h1, h2, _⟩ := P
  exact ⟨N, X, M, h1, h2⟩
theorem PhA.below {r m : Nat} {gv : Value} (P : PhA B A E C V r gv m w) (b : Below w.heap.size w w') : PhA B A E C V r gv m w' := by
  obtain ⟨N, X, M, h1, h2, h3⟩ := P
  exact ⟨N, X, M.below b, h1, h2, h3.below b⟩

end Tg
end Go.Proofs.YtfpodnaaappocaaGreatDoor

/-
  The law TargetMemory: its appends (written by mktme.py).
-/
set_option linter.unusedVariables false
set_option linter.unusedSimpArgs false
namespace Go.Proofs.YtfpodnaaappocaaGreatDoor
open Go.RowKit Go.Shelf
namespace Tg
open Oc
variable {B : Nat} {A E : List (List UInt8)} {C : List Prm} {na nc nl np : Nat} {V : Nat → Value} {N : Nat → Nat} {X : Nat → List Value} {w w' : World}

theorem owns_one {w : World} {B T S n : Nat} {v : Value} {xs : List Value} (h : w.ownsRow B T S v n xs) : v.oneCell' = true := by
  rcases owns_form h with ⟨rfl, _⟩ | ⟨g, cap, rfl, _⟩ <;> rfl
theorem infoL : (Tryz.prog.info? 22).map (fun i => (i.zero, i.size, i.bytes)) = some (some (.slice none 0 0), 1, 24) := by kernel_rfl
theorem infoC : (Tryz.prog.info? 33).map (fun i => (i.zero, i.size, i.bytes)) = some (some (.slice none 0 0), 1, 24) := by kernel_rfl
theorem empty_row {B T : Nat} (w : World) (hB : B ≤ w.heap.size) : (w.alloc (.cells #[] T)).ownsRow B T 1 (.slice (some ⟨w.heap.size, 0, none⟩) 0 0) 0 [] :=
  ⟨by simp, .inr ⟨w.heap.size, 0, #[], rfl, hB, heap_alloc_new w _, by simp, by decide, by simp, by simp⟩⟩
theorem Mx.start {w1 w2 w3 w4 : World} {vl vk vp : Value} (hB : B ≤ w1.heap.size) (h2 : OwnS w1.heap.size vl A w2) (b2 : Below w1.heap.size w1 w2) (h3 : OwnS w2.heap.size vk E w3) (b3 : Below w2.heap.size w2 w3) (h4 : OwnQ 60 w3.heap.size vp C w4) (b4 : Below w3.heap.size w3 w4) :
    ∃ V, (∃ N X, Mx B A E C 0 0 0 0 V N X ((w4.alloc (.cells #[] 22)).alloc (.cells #[] 33))) ∧ V 0 = .slice (some ⟨w4.heap.size, 0, none⟩) 0 0 ∧ V 1 = .slice (some ⟨w4.heap.size + 1, 0, none⟩) 0 0 ∧ V 2 = vl ∧ V 3 = vk ∧ V 4 = vp := by
  have F0 : Fam B (fun _ => False) tyM szM (fun _ => 0) (fun _ => .slice none 0 0) (fun _ => []) w1 := ⟨fun _ h => h.elim, fun _ _ _ h => h.elim⟩
  have s2 := b2.size
  have s3 := b3.size
  have s4 := b4.size
  have F2 := F0.add (i := 2) (fun h => h) b2 hB (v := vl) (n := A.length) (x := encL A) h2
  have F3 := F2.add (i := 3) (by simp) b3 (by omega) (v := vk) (n := E.length) (x := encL E) h3
  have F4 := F3.add (i := 4) (by simp) b4 (by omega) (v := vp) (n := C.length) (x := encQ C) h4
  have F5 := F4.add (i := 0) (by simp) ((Below.refl _ w4).alloc (Nat.le_refl _) (.cells #[] 22)) (by omega) (v := .slice (some ⟨w4.heap.size, 0, none⟩) 0 0) (n := 0) (x := []) (empty_row w4 (Nat.le_refl _))
  have F6 := F5.add (i := 1) (by simp) ((Below.refl _ (w4.alloc (.cells #[] 22))).alloc (Nat.le_refl _) (.cells #[] 33)) (by simp; omega) (v := .slice (some ⟨(w4.alloc (.cells #[] 22)).heap.size, 0, none⟩) 0 0) (n := 0) (x := []) (empty_row _ (Nat.le_refl _))
  refine ⟨_, ⟨_, _, ⟨F6.restr (fun j hj => by unfold domM at hj; omega), ?_, ?_, ?_, ?_, ?_, ?_, ?_, ?_, ?_, ?_, ?_, ?_⟩⟩, ?_, ?_, ?_, ?_, ?_⟩
  all_goals first | (intro q hq; omega) | (simp [upd]; done)
theorem wp_appL {ops : Array Oper} {rest : List Oper} {o : Oper} {a : Act} {Q : Exit → Act → World → Prop} {W : World} (hgd : o.guard = none) (s x : Operand)
    (ho : o.op = .call { callee := .builtin .append, args := #[s, x], argTypes := #[28, 28] }) (M : ∃ N X, Mx B A E C na nc nl np V N X W) (hl : nl + 1 ≤ na) (h6 : na ≤ 3) (v0 : Value) (hs0 : a.eval s = v0) (hv0 : v0 = V 0) (va : Value) (ha : V (10 + nl) = va)
    (g : Nat) (hx : a.eval x = .slice (some ⟨g, 0, none⟩) 1 1) (hg : g = W.heap.size) (hB : B ≤ W.heap.size)
    (h : ∀ v' w', (∃ N X, Mx B A E C na nc (nl + 1) np (upd V 0 v') N X w') → Below B W w' → wpList Tryz.prog ops Q rest (a.put o.dst v') w') : wpList Tryz.prog ops Q (o :: rest) a (W.alloc (.cells #[va] 22)) := by
  obtain ⟨N, X, M⟩ := M
  subst hg ha
  have hs := hs0.trans hv0
  have hown := M.fam.own 0 (by unfold domM; omega)
  rw [M.n0] at hown
  refine wp_keep hgd s x 28 ho B 22 (.slice none 0 0) 1 24 Tryz.underlying28 infoL rfl (by decide) (V 0) nl (X 0) W [V (10 + nl)] hs hown 1 (by decide) hx rfl ?_ (by omega) (by decide) hB ?_
  · intro u hu
    simp at hu
    subst hu
    exact owns_one (M.fam.own (10 + nl) (by unfold domM; omega))
  · intro v' w' h1 h2 h3 h4
    refine h v' w' (M.appL hl h1 h2 ?_) ((Below.refl B W).grown h2 hB (fun k hk => (World.ownsRow.lt hown k hk).1))
    rcases h4 with ⟨g, cap, e1, e2⟩ | h4
    · left; rw [e1, e2]; rfl
    · exact .inr h4
theorem wp_appC {ops : Array Oper} {rest : List Oper} {o : Oper} {a : Act} {Q : Exit → Act → World → Prop} {W : World} (hgd : o.guard = none) (s x : Operand)
    (ho : o.op = .call { callee := .builtin .append, args := #[s, x], argTypes := #[29, 29] }) (M : ∃ N X, Mx B A E C na nc nl np V N X W) (hl : np + 1 ≤ nc) (h6 : nc ≤ 6) (v0 : Value) (hs0 : a.eval s = v0) (hv0 : v0 = V 1) (va : Value) (ha : V (20 + np) = va)
    (g : Nat) (hx : a.eval x = .slice (some ⟨g, 0, none⟩) 1 1) (hg : g = W.heap.size) (hB : B ≤ W.heap.size)
    (h : ∀ v' w', (∃ N X, Mx B A E C na nc nl (np + 1) (upd V 1 v') N X w') → Below B W w' → wpList Tryz.prog ops Q rest (a.put o.dst v') w') : wpList Tryz.prog ops Q (o :: rest) a (W.alloc (.cells #[va] 33)) := by
  obtain ⟨N, X, M⟩ := M
  subst hg ha
  have hs := hs0.trans hv0
  have hown := M.fam.own 1 (by unfold domM; omega)
  rw [M.n1] at hown
  refine wp_keep hgd s x 29 ho B 33 (.slice none 0 0) 1 24 Tryz.underlying29 infoC rfl (by decide) (V 1) np (X 1) W [V (20 + np)] hs hown 1 (by decide) hx rfl ?_ (by omega) (by decide) hB ?_
  · intro u hu
    simp at hu
    subst hu
    exact owns_one (M.fam.own (20 + np) (by unfold domM; omega))
  · intro v' w' h1 h2 h3 h4
    refine h v' w' (M.appP hl h1 h2 ?_) ((Below.refl B W).grown h2 hB (fun k hk => (World.ownsRow.lt hown k hk).1))
    rcases h4 with ⟨g, cap, e1, e2⟩ | h4
    · left; rw [e1, e2]; rfl
    · exact .inr h4
theorem owns_ne {w : World} {B B' T T' S S' n n' : Nat} {v v' : Value} {xs xs' : List Value} (h : w.ownsRow B T S v n xs) (h' : w.ownsRow B' T' S' v' n' xs') (hT : T ≠ T') : v.ownBlock = none ∨ v.ownBlock ≠ v'.ownBlock := by
  rcases h.2 with ⟨rfl, _⟩ | ⟨g, cap, cur, rfl, _, hg, _⟩
  · exact .inl rfl
  · right
    intro e
    rcases h'.2 with ⟨rfl, _⟩ | ⟨g2, cap2, cur2, rfl, _, hg2, _⟩
    · cases e
    · have e' : g = g2 := by simpa [Value.ownBlock] using e
      subst e'
      rw [hg] at hg2
      simp at hg2
      exact hT hg2.2
theorem alias_over {D : Nat → Prop} {T S : Nat → Nat} {i m : Nat} {gv : Value} {row : Option Nat} (h : Alias B D T S N V X i gv m w) (hg : w.grownBy w' row) (hne : gv.ownBlock = none ∨ gv.ownBlock ≠ row) : Alias B D T S N V X i gv m w' := by
  obtain ⟨ys, h1, h2, h3⟩ := h
  exact ⟨ys, World.ownsRow.kept h1 hg hne, h2, h3⟩
/-- Both lists of a turn under other names, grown. -/
def PhB (B : Nat) (A E : List (List UInt8)) (C : List Prm) (V : Nat → Value) (q : Nat) (gv hv : Value) (m n : Nat) (w : World) : Prop := ∃ N X, Mx B A E C 3 3 3 3 V N X w ∧ Da A E X 3 0 ∧ Dc C X 3 0 ∧ Alias B (domM 3 3) tyM szM N V X (10 + q) gv m w ∧ Alias B (domM 3 3) tyM szM N V X (20 + q) hv n w
theorem Ph.both (P : Ph B A E C V 3 0 3 0 w) (q : Nat) (hq : q < 3) : PhB B A E C V q (V (10 + q)) (V (20 + q)) 0 0 w := by
  obtain ⟨N, X, M, h1, h2⟩ := P
  exact ⟨N, X, M, h1, h2, M.fam.alias (by unfold domM; omega), M.fam.alias (by unfold domM; omega)⟩
theorem PhB.done {q m n : Nat} {gv hv : Value} (P : PhB B A E C V q gv hv m n w) : Ph B A E C V 3 0 3 0 w := by
  obtain ⟨N, X, M, h1, h2, _⟩ := P
  exact ⟨N, X, M, h1, h2⟩
theorem PhB.below {q m n : Nat} {gv hv : Value} (P : PhB B A E C V q gv hv m n w) (b : Below w.heap.size w w') : PhB B A E C V q gv hv m n w' := by
  obtain ⟨N, X, M, h1, h2, h3, h4⟩ := P
  exact ⟨N, X, M.below b, h1, h2, h3.below b, h4.below b⟩
/-- A text more under another name. -/
theorem wp_growS {ops : Array Oper} {rest : List Oper} {o : Oper} {a : Act} {Q : Exit → Act → World → Prop} {W : World} (hgd : o.guard = none) (s x : Operand)
    (ho : o.op = .call { callee := .builtin .append, args := #[s, x], argTypes := #[22, 22] }) {q m n : Nat} (hq : q < 3) (gv hv : Value) (P : PhB B A E C V q gv hv m n W) (hn : nA A E q + m + 1 ≤ 2147483648) (hs : a.eval s = gv) (y : ByteArray)
    (g : Nat) (hx : a.eval x = .slice (some ⟨g, 0, none⟩) 1 1) (hg : g = W.heap.size) (hB : B ≤ W.heap.size)
    (h : ∀ v' w', PhB B A E C V q v' hv (m + 1) n w' → Below B W w' → wpList Tryz.prog ops Q rest (a.put o.dst v') w') : wpList Tryz.prog ops Q (o :: rest) a (W.alloc (.cells #[.string y] 9)) := by
  obtain ⟨N, X, M, ha, hc, ⟨ys, h1, h2, h3⟩, hq2⟩ := P
  subst hg
  have hown := h1
  rw [ty_s q hq, sz_s q hq] at hown
  refine wp_keep hgd s x 22 ho B 9 (.string ⟨#[]⟩) 1 16 Tryz.underlying22 infoStr rfl (by decide) gv (N (10 + q) + m) ys W [.string y] hs hown 1 (by decide) hx rfl ?_ (by rw [M.ns q hq]; omega) (by decide) hB ?_
  · intro u hu
    simp at hu
    subst hu
    rfl
  · intro v' w' k1 k2 k3 k4
    have st := M.fam.step (i := 10 + q) (m := m) (by unfold domM; omega) h1 h2 h3 (w' := w') (gv' := v') (news := [.string y]) (by rw [ty_s q hq, sz_s q hq]; exact k1) k2 (by rw [ty_s q hq, sz_s q hq]; exact k3) k4
    exact h v' w' ⟨N, X, { M with fam := st.1 }, ha, hc, st.2, alias_over hq2 k2 (by obtain ⟨zs, z1, _⟩ := hq2; rw [ty_p q, sz_p q] at z1; exact owns_ne z1 hown (by decide))⟩ ((Below.refl B W).grown k2 hB (fun k hk => (World.ownsRow.lt hown k hk).1))
/-- A parameter more under another name. -/
theorem wp_growP {ops : Array Oper} {rest : List Oper} {o : Oper} {a : Act} {Q : Exit → Act → World → Prop} {W : World} (hgd : o.guard = none) (s x : Operand)
    (ho : o.op = .call { callee := .builtin .append, args := #[s, x], argTypes := #[33, 33] }) {q m n : Nat} (hq : q < 3) (gv hv : Value) (P : PhB B A E C V q hv gv n m W) (hn : C.length + m + 1 ≤ 2147483648) (hs : a.eval s = gv) (y y2 : ByteArray) (b : Bool)
    (g : Nat) (hx : a.eval x = .slice (some ⟨g, 0, none⟩) 1 1) (hg : g = W.heap.size) (hB : B ≤ W.heap.size)
    (h : ∀ v' w', PhB B A E C V q hv v' n (m + 1) w' → Below B W w' → wpList Tryz.prog ops Q rest (a.put o.dst v') w') : wpList Tryz.prog ops Q (o :: rest) a (W.alloc (.cells #[.string y, .string y2, .bool b] 40)) := by
  obtain ⟨N, X, M, ha, hc, hq2, ⟨ys, h1, h2, h3⟩⟩ := P
  subst hg
  have hown := h1
  rw [ty_p q, sz_p q] at hown
  refine wp_keep hgd s x 33 ho B 40 (.agg #[.string ⟨#[]⟩, .string ⟨#[]⟩, .bool false]) 3 40 Tryz.underlying33 infoQ rfl (by decide) gv (N (20 + q) + m) ys W [.string y, .string y2, .bool b] hs hown 1 (by decide) hx rfl ?_ (by rw [M.nc q hq]; omega) (by decide) hB ?_
  · intro u hu
    simp at hu
    rcases hu with rfl | rfl | rfl <;> rfl
  · intro v' w' k1 k2 k3 k4
    have st := M.fam.step (i := 20 + q) (m := m) (by unfold domM; omega) h1 h2 h3 (w' := w') (gv' := v') (news := [.string y, .string y2, .bool b]) (by rw [ty_p q, sz_p q]; exact k1) k2 (by rw [ty_p q, sz_p q]; exact k3) k4
    exact h v' w' ⟨N, X, { M with fam := st.1 }, ha, hc, alias_over hq2 k2 (by obtain ⟨zs, z1, _⟩ := hq2; rw [ty_s q hq, sz_s q hq] at z1; exact owns_ne z1 hown (by decide)), st.2⟩ ((Below.refl B W).grown k2 hB (fun k hk => (World.ownsRow.lt hown k hk).1))

end Tg
end Go.Proofs.YtfpodnaaappocaaGreatDoor
