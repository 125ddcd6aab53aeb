/-
  handle: a block and its cells (out of MsH), a response's four cells written anew.
-/
import Derived.Test.YticncpjpkgdnlaaGreatDoorHnA
import Derived.Test.YticncpjpkgdnlaaGreatDoorMgF
import Derived.Test.YticncpjpkgdnlaaGreatDoorMgD
set_option linter.unusedVariables false
set_option linter.unusedSimpArgs false
set_option maxRecDepth 100000
namespace Go.Proofs.YticncpjpkgdnlaaGreatDoor
open Go.RowKit Go.Shelf
namespace Ms
open Oc Tg _root_.Go.Proofs.YticncpjpkgdnlaaGreatDoor.Fd _root_.Go.Proofs.YticncpjpkgdnlaaGreatDoor.Ck

/-- A block of that type with those cells. -/
def Blk (T : Nat) (w : World) (D : Nat) (cs : List Value) : Prop := w.heap[D]? = some (.cells cs.toArray T (0, 0))
theorem Blk.lt {T : Nat} {w : World} {D : Nat} {cs : List Value} (h : Blk T w D cs) : D < w.heap.size := (Array.getElem?_eq_some_iff.1 h).1
theorem Blk.cell {T : Nat} {w : World} {D : Nat} {cs : List Value} (h : Blk T w D cs) (i : Nat) {v : Value} (hv : cs[i]? = some v) : w.cell? ⟨D, i, none⟩ = some v := by
  unfold Blk at h
  rw [cell_of_row w D _ _ _ _ h]
  simpa using hv
theorem Blk.free {T : Nat} {w : World} {D : Nat} {cs : List Value} (h : Blk T w D cs) (i : Nat) : w.frozen? ⟨D, i, none⟩ = false := frozen_of_row w D i _ _ h
theorem Blk.set {T : Nat} {w : World} {D : Nat} {cs : List Value} (h : Blk T w D cs) (i : Nat) (v : Value) : Blk T (w.setCell ⟨D, i, none⟩ v) D (cs.set i v) := by
  have := heap_setCell_same w D i cs.toArray _ v h
  unfold Blk
  rw [this, List.setIfInBounds_toArray]
theorem Blk.below {T : Nat} {w w' : World} {D : Nat} {cs : List Value} (h : Blk T w D cs) (b : Below w.heap.size w w') : Blk T w' D cs := by
  unfold Blk at *
  rw [b.block D (Array.getElem?_eq_some_iff.1 h).1]
  exact h
theorem Blk.but {T : Nat} {w w' : World} {D : Nat} {cs : List Value} {bs : List Nat} (h : Blk T w D cs) (b : But bs w w') (hn : D ∉ bs) : Blk T w' D cs := b.heap h hn
theorem Blk.ne {T T' : Nat} {w : World} {D g B S n : Nat} {v : Value} {xs cs : List Value} (h : Blk T w D cs) (ho : w.ownsRow B T' S v n xs) (hT : T ≠ T') (hg : v.ownBlock = some g) : g ≠ D := by
  intro e
  subst e
  rcases ho.2 with ⟨rfl, _⟩ | ⟨g', cap, cur, rfl, _, hg', _⟩
  · cases hg
  · have : g' = g := by simpa [Value.ownBlock] using hg
    subst this
    unfold Blk at h
    rw [h] at hg'
    injection hg' with e
    injection e with _ e2 _
    exact hT e2
theorem Blk.keep {T T' : Nat} {w w' : World} {D B S n : Nat} {v : Value} {xs cs : List Value} (h : Blk T w D cs) (ho : w.ownsRow B T' S v n xs) (hT : T ≠ T') (hb : But [D] w w') : w'.ownsRow B T' S v n xs :=
  hb.owns ho (fun g hg e => h.ne ho hT hg (by simpa using e))

theorem setD {w0 w : World} {D : Nat} (h : But [D] w0 w) (i : Nat) (v : Value) : But [D] w0 (w.setCell ⟨D, i, none⟩ v) := h.setCell (by simp) _

theorem own_upF {w : World} {T S n B B' : Nat} {v : Value} {xs : List Value} (h : w.ownsRow B T S v n xs) (hb : B' ≤ B) : w.ownsRow B' T S v n xs := by
  refine ⟨h.1, ?_⟩
  rcases h.2 with hn | ⟨g, cap, cur, e, hg, rest⟩
  · exact .inl hn
  · exact .inr ⟨g, cap, cur, e, Nat.le_trans hb hg, rest⟩

theorem Blk.low {T : Nat} {w w' : World} {D n : Nat} {cs : List Value} (h : Blk T w D cs) (b : Below n w w') (hD : D < n) : Blk T w' D cs := by
  unfold Blk at *
  rw [b.block D hD]
  exact h
def set4 (w : World) (g : Nat) (v0 v1 v2 v3 : Value) : World := ((((w.setCell ⟨g, 0, none⟩ v0).setCell ⟨g, 1, none⟩ v1).setCell ⟨g, 2, none⟩ v2).setCell ⟨g, 3, none⟩ v3)
theorem set4_blk {T : Nat} {w : World} {g : Nat} {a0 a1 a2 a3 : Value} (h : Blk T w g [a0, a1, a2, a3]) (v0 v1 v2 v3 : Value) : Blk T (set4 w g v0 v1 v2 v3) g [v0, v1, v2, v3] := (((h.set 0 v0).set 1 v1).set 2 v2).set 3 v3
theorem set4_but (w : World) (g : Nat) (v0 v1 v2 v3 : Value) : But [g] w (set4 w g v0 v1 v2 v3) := setD (setD (setD (setD (But.refl [g] w) 0 v0) 1 v1) 2 v2) 3 v3

end Ms
end Go.Proofs.YticncpjpkgdnlaaGreatDoor
