/-
  target: Path; the document's Path.
-/
import Derived.Test.YtpnijigjlhfklaaGreatDoorGSg
import Derived.Test.YtpnijigjlhfklaaGreatDoorGEnc
set_option linter.unusedVariables false
set_option linter.unusedSimpArgs false
namespace Go.Proofs.YtpnijigjlhfklaaGreatDoor
open Go.RowKit Go.Shelf
namespace Tg
open Oc

theorem encs_take (t : List (List UInt8)) (k : Nat) (h : k < t.length) : joinS ((t.take (k + 1)).map enc) = joinS ((t.take k).map enc) ++ [47] ++ enc (t.getD k []) := by
  rw [List.take_succ_eq_append_getElem h, List.map_append, join_app, List.getD_eq_getElem?_getD, List.getElem?_eq_getElem h]
  simp [joinS]
def sumT (t : List (List UInt8)) : Nat := (t.map List.length).sum
theorem sumT_take (t : List (List UInt8)) (k : Nat) : sumT (t.take k) ≤ sumT t := by
  unfold sumT
  conv => rhs; rw [← List.take_append_drop k t]
  rw [List.map_append, List.sum_append]
  omega
theorem joinE_len (t : List (List UInt8)) : (joinS (t.map enc)).length ≤ t.length + 3 * sumT t := by
  induction t with
  | nil => simp [joinS, sumT]
  | cons z r ih =>
    have e : joinS ((z :: r).map enc) = 47 :: (enc z ++ joinS (r.map enc)) := by simp [joinS]
    rw [e, List.length_cons, List.length_append, List.length_cons]
    have h1 := enc_len z
    have h2 : sumT (z :: r) = z.length + sumT r := by simp [sumT]
    omega
theorem get_le (t : List (List UInt8)) (k : Nat) (h : k < t.length) : (t.getD k []).length ≤ sumT t := by
  have h1 : sumT (t.take (k + 1)) = sumT (t.take k) + (t.getD k []).length := by
    unfold sumT
    rw [List.take_succ_eq_append_getElem h, List.map_append, List.sum_append, List.getD_eq_getElem?_getD, List.getElem?_eq_getElem h]
    simp
  have h2 := sumT_take t (k + 1)
  omega
theorem RdS.lt {v : Value} {t : List (List UInt8)} {w : World} {g o c : Nat} (hv : v = .slice (some ⟨g, o, none⟩) t.length c) (h : RdS v t w) (h0 : 0 < t.length) : g < w.heap.size := by
  obtain ⟨a, c', e, h⟩ := h
  rw [hv] at e
  rcases h with h | ⟨g', o', e', _, hc⟩
  · rw [h] at h0; simp at h0
  · injection e with e1
    subst e1
    injection e' with e'
    injection e' with e1 e2
    subst e1
    exact cell_lt (hc 0 h0)

end Tg
end Go.Proofs.YtpnijigjlhfklaaGreatDoor
