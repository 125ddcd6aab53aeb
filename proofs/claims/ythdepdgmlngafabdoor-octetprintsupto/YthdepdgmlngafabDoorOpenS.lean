/-
  A slice of texts that came in, read as texts.
-/
import Derived.Test.YthdepdgmlngafabDoorRows
import Derived.Test.YthdepdgmlngafabDoorSameL
import Derived.Test.YthdepdgmlngafabDoorJPlain
import Derived.OpenShut
import Derived.SliceStrings
import Derived.Carry
set_option linter.unusedVariables false
set_option linter.unusedSimpArgs false
namespace Go.Proofs.YthdepdgmlngafabDoor
open Go.ChangeShapes Go.WideShapes Go.RowKit
namespace Oc

theorem laidOutT : laidOutB Tryd.prog = true := by kernel_rfl
theorem cells9 : Tryd.prog.cellsOf 9 = 1 := by kernel_rfl
theorem bulk_strs {H : Type} : ∀ ss : List ByteArray, Rows.uptoBulkAll (strs (H := H) ss) = sumL (ss.map (·.data.toList)) + ss.length
  | [] => by simp [strs, sumL, Rows.uptoBulkAll]
  | s :: ss => by
    have ih := bulk_strs (H := H) ss
    simp only [strs, sumL, List.map_cons, List.sum_cons, List.length_cons, Rows.uptoBulkAll, Rows.uptoBulk] at ih ⊢
    omega
def bulkstrings (t : List (List UInt8)) : Nat := t.length + sumL t
set_option maxRecDepth 100000 in
theorem open_texts {H : Type} {enc : TypeId × Value → H} {W : World} {base : Nat} {v : Value} {d : DataW H} {ps : List MemPlace} (hval : Value.okWide Tryd.prog W .any base 22 v)
    (h : DataW.Trod enc Tryd.prog W 0 (fun _ => true) true 22 v d ps) : ∃ t : List (List UInt8), RdS v t W ∧ bulkstrings t ≤ Rows.uptoBulk d := by
  unfold bulkstrings
  obtain ⟨a0, len, cap, rfl⟩ := okWide_slice Tryd.underlying22 hval
  obtain ⟨fuel, hf⟩ := h
  rcases open_strings Tryd.underlying22 Tryd.underlying9 cells9 hf with ⟨hcs, hx⟩ | ⟨a, len', cap', ss, hcs, _, hl, hm, hz, hx, hcell, hsz⟩
  · simp [Value.cells] at hcs
    obtain ⟨rfl, rfl, rfl⟩ := hcs
    exact ⟨[], ⟨none, 0, rfl, .inl rfl⟩, by simp [sumL]⟩
  · simp [Value.cells] at hcs
    obtain ⟨rfl, rfl, rfl⟩ := hcs
    simp only [Prod.mk.injEq] at hx
    obtain ⟨rfl, rfl⟩ := hx
    simp only [if_true] at hz
    have htk : (ss.take len).length = len := by simp; omega
    refine ⟨(ss.take len).map (·.data.toList), ⟨some a, cap, by rw [List.length_map, htk], ?_⟩, ?_⟩
    · by_cases hl0 : len = 0
      · left; subst hl0; simp
      · right
        obtain ⟨g, o, spot⟩ := a
        have hspot : spot = none := by simpa [Addr.add] using World.cell?_spot (hcell 0 (by omega))
        subst hspot
        refine ⟨g, o, rfl, by rw [List.length_map, htk]; exact hl, fun j hj => ?_⟩
        rw [List.length_map, htk] at hj
        have hc := hcell j (by omega)
        have ea : Addr.add ⟨g, o, none⟩ j = ⟨g, o + j, none⟩ := by unfold Addr.add; split <;> simp_all
        rw [ea] at hc
        rw [hc]
        have hj2 : j < ss.length := by omega
        have hj3 : j < (ss.take len).length := by omega
        congr 2
        rw [List.getD_eq_getElem?_getD, List.getElem?_eq_getElem hj2, List.getD_eq_getElem?_getD, List.getElem?_map, List.getElem?_eq_getElem hj3]
        simp [str_self]
    · simp only [Rows.uptoBulk, bulk_strs]
      rw [List.length_map]
      omega
theorem rd_one (w : World) (l : List UInt8) : RdS (.slice (some ⟨w.heap.size, 0, none⟩) 1 1) [l] (w.alloc (.cells #[.string (str l)] 9)) :=
  ⟨some ⟨w.heap.size, 0, none⟩, 1, rfl, .inr ⟨w.heap.size, 0, rfl, Nat.le_refl _, fun j hj => by
    have : j = 0 := by simpa using hj
    subst this
    simp⟩⟩
theorem el_le (t : List (List UInt8)) (k : Nat) (h : k < t.length) : (t.getD k []).length ≤ sumL t := by
  have h1 := sumL_succ t k h
  have h2 := sumL_take t (k + 1)
  omega
theorem trim_nil : trim [] = [] := rfl
theorem lst_of_listR {l : List UInt8} {t : List (List UInt8)} (h : listR l = (t, 0)) : lst [] l = some t := by
  unfold listR at h
  cases e : lst [] l with
  | none => rw [e] at h; cases h
  | some u => rw [e] at h; cases h; rfl
/-- Texts that are elements for themselves come back. -/
theorem lst_join : ∀ t : List (List UInt8), (∀ j, j < t.length → listR (t.getD j []) = ([t.getD j []], 0)) → lst [] (joinF t) = some t
  | [], _ => by simp [joinF, lst_nil, addEl, trim_nil]
  | [x], h => by
    have := h 0 (by simp)
    exact lst_of_listR this
  | x :: y :: r, h => by
    have hx := lst_of_listR (h 0 (by simp))
    have ih := lst_join (y :: r) (fun j hj => h (j + 1) (by simpa using hj))
    show lst [] (x ++ 44 :: (32 :: joinF (y :: r))) = _
    rw [lst_split _ x [] _ _ (Nat.le_refl _) hx, lst_on _ _ 32 (by decide) (by decide), List.nil_append, lst_blank _ _ [] (Nat.le_refl _), ih]
    rfl

end Oc
end Go.Proofs.YthdepdgmlngafabDoor
