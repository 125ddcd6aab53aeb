/-
  base.Unhex.
-/
import Derived.Test.YtcnjnlmjgbmjnabDoorBEnc2
set_option linter.unusedVariables false
set_option linter.unusedSimpArgs false
namespace Go.Proofs.YtcnjnlmjgbmjnabDoor
open Go.RowKit
namespace Bs

/-- A row of bytes in a block: its first n cells hold f, and may be written. -/
structure Row (w : World) (b n : Nat) (f : Nat → Int) : Prop where
  cell : ∀ j, j < n → w.cell? ⟨b, j, none⟩ = some (.int .u8 (f j))
  free : ∀ j, j < n → w.frozen? ⟨b, j, none⟩ = false
theorem Row.set {w : World} {b n : Nat} {f : Nat → Int} (r : Row w b n f) (k : Nat) (hk : k < n) (v : Int) (g : Nat → Int) (hg : ∀ j, j < n → g j = if j = k then v else f j) : Row (w.setCell ⟨b, k, none⟩ (.int .u8 v)) b n g := by
  refine ⟨fun j hj => ?_, fun j hj => by rw [World.frozen?_setCell]; exact r.free j hj⟩
  rw [hg j hj]
  by_cases h : j = k
  · subst h
    rw [if_pos rfl]
    exact World.cell?_setCell_same w _ _ (r.cell j hj)
  · rw [if_neg h, World.cell?_setCell_other w _ _ _ (by intro e; injection e with _ e2; omega)]
    exact r.cell j hj
theorem Row.rd {w : World} {b n : Nat} {f : Nat → Int} (r : Row w b n f) (cap : Nat) (hc : n ≤ cap) (l : List UInt8) (hn : l.length = n) (hl : ∀ j, j < n → f j = ((l.getD j 0).toNat : Int)) : RdB w (.slice (some ⟨b, 0, none⟩) n cap) l := by
  subst hn
  refine ⟨_, cap, rfl, hc, (fun e => by cases e), .inr ⟨b, 0, rfl, fun j x hj => ?_⟩⟩
  have hj' := (List.getElem?_eq_some_iff.1 hj).1
  rw [Nat.zero_add, r.cell j hj', hl j hj', List.getD_eq_getElem?_getD, hj]
  rfl
theorem made_row (w : World) (n : Nat) : Row (w.alloc (.cells (bv (List.replicate n 0)).toArray 5 (0, 0))) w.heap.size n (fun _ => 0) := by
  have h2 := heap_alloc_new w (.cells (bv (List.replicate n 0)).toArray 5 (0, 0))
  refine ⟨fun j hj => ?_, fun j hj => frozen_of_row _ _ j _ _ h2⟩
  rw [cell_of_row _ _ _ _ _ _ h2]
  rw [List.getElem?_toArray, bv_get, List.getElem?_replicate, if_pos hj]
  rfl

def hd (l : List UInt8) (j : Nat) : Nat := (hv (l.getD j 0)).toNat
/-- What stands at j behind k digits. -/
def pv (l : List UInt8) (k j : Nat) : Int := if 2 * j + 1 < k then ((hd l (2 * j) * 16 + hd l (2 * j + 1) : Nat) : Int) else if 2 * j < k then (hd l (2 * j) : Int) else 0
theorem hd_lt (l : List UInt8) (j : Nat) : hd l j < 16 := by have := hv_bd (l.getD j 0); unfold hd; omega
theorem prs_length : ∀ l : List UInt8, (prs l).length = l.length / 2
  | [] => by simp [prs]
  | [a] => by simp [prs]
  | a :: b :: r => by
    unfold prs
    simp only [List.length_cons]
    rw [prs_length r]
    omega
theorem prs_get : ∀ (l : List UInt8) (j : Nat), 2 * j + 1 < l.length → (prs l).getD j 0 = UInt8.ofNat (hd l (2 * j) * 16 + hd l (2 * j + 1))
  | [], j, h => by simp at h
  | [a], j, h => by simp at h
  | a :: b :: r, 0, h => rfl
  | a :: b :: r, j + 1, h => by
    have := prs_get r j (by simp at h; omega)
    unfold prs
    rw [List.getD_cons_succ, this]
    unfold hd
    rw [show 2 * (j + 1) = 2 * j + 1 + 1 by omega, List.getD_cons_succ, List.getD_cons_succ, List.getD_cons_succ, List.getD_cons_succ]
theorem pv_end (l : List UInt8) (he : l.length % 2 = 0) (j : Nat) (hj : j < l.length / 2) : pv l l.length j = (((prs l).getD j 0).toNat : Int) := by
  have h1 := hd_lt l (2 * j)
  have h2 := hd_lt l (2 * j + 1)
  unfold pv
  rw [if_pos (by omega), prs_get l j (by omega), ofNat_lt (by omega)]
theorem pv_step (l : List UInt8) (k : Nat) (hk : k < l.length) (h : 0 ≤ hv (l.getD k 0)) : bits .or .u8 (pv l k (k / 2) * 16 % 256) (hv (l.getD k 0)) = pv l (k + 1) (k / 2) := by
  have hb := hv_bd (l.getD k 0)
  have he : hv (l.getD k 0) = (hd l k : Int) := by unfold hd; omega
  rw [he]
  have h2 := hd_lt l k
  rcases Nat.mod_two_eq_zero_or_one k with hm | hm
  · unfold pv
    rw [if_neg (by omega), if_neg (by omega), if_neg (by omega), if_pos (by omega), show 2 * (k / 2) = k by omega]
    rw [show (0 : Int) * 16 % 256 = 0 by decide]
    have := bits_join .u8 8 (by decide) wraps_u8 8 0 (hd l k : Int) (by decide) (by decide) (by decide) (by omega) (by omega) (by omega)
    rw [this]
    omega
  · have h1 := hd_lt l (k - 1)
    unfold pv
    rw [if_neg (by omega), if_pos (by omega), if_pos (by omega), show 2 * (k / 2) = k - 1 by omega, show k - 1 + 1 = k by omega]
    rw [show ((hd l (k - 1) : Int) * 16 % 256) = (hd l (k - 1) : Int) * 16 by omega]
    have := bits_join .u8 8 (by decide) wraps_u8 4 ((hd l (k - 1) : Int) * 16) (hd l k : Int) (by omega) (by omega) (by omega) (by omega) (by omega) (by omega)
    rw [this]
    omega
theorem pv_else (l : List UInt8) (k j : Nat) (hj : j ≠ k / 2) : pv l (k + 1) j = pv l k j := by
  unfold pv
  by_cases h1 : 2 * j + 1 < k
  · rw [if_pos h1, if_pos (by omega)]
  · rw [if_neg h1, if_neg (by omega)]
    by_cases h2 : 2 * j < k
    · omega
    · rw [if_neg h2, if_neg (by omega)]
theorem pv_bd (l : List UInt8) (k j : Nat) : 0 ≤ pv l k j ∧ pv l k j ≤ 255 := by
  have h1 := hd_lt l (2 * j)
  have h2 := hd_lt l (2 * j + 1)
  unfold pv
  (repeat' split) <;> omega

end Bs
end Go.Proofs.YtcnjnlmjgbmjnabDoor
