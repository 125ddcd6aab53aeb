/-
  slices.SortFunc at spans, by their beginnings.
-/
import Derived.Test.YtbgbidjngjdceaaDoorMgD
import Derived.Test.YtbgbidjngjdceaaDoorShelfQ
import Derived.Shelf.SlSortCmp.WholeK
set_option linter.unusedVariables false
set_option linter.unusedSimpArgs false
namespace Go.Proofs.YtbgbidjngjdceaaDoor
open Go.RowKit Go.Shelf Go.Proofs Go.Lib
open Go.Sort hiding Below
namespace Sn
open Oc

theorem ltFr (x y : Sp) : ltOf (fun x y : Sp => Lib.compareInt x.1 y.1) x y = decide (x.1 < y.1) := by
  unfold ltOf Lib.compareInt
  by_cases h1 : x.1 < y.1
  · simp [h1]
  · by_cases h2 : y.1 < x.1 <;> simp [h1, h2]
theorem swoFr : SWO (ltOf fun x y : Sp => Lib.compareInt x.1 y.1) where
  irrefl x := by rw [ltFr]; simp
  trans x y z h1 h2 := by rw [ltFr] at *; simp at *; omega
  ntrans x y z h1 h2 := by rw [ltFr] at *; simp at *; omega

set_option maxHeartbeats 1000000 in
theorem byFrom_any (x y : Sp) (W : World) : Calls Tryd.prog 42 #[.agg #[.int .i64 x.1, .int .i64 x.2], .agg #[.int .i64 y.1, .int .i64 y.2]] W fun e w' => e = .returned (.int .i64 (Lib.compareInt x.1 y.1)) ∧ ∃ q os', w' = grow (W.drewN q) os' := by
  have hcon := fun W' => Tryd.cmp_Compare_int x.1 y.1 W'
  generalize Lib.compareInt x.1 y.1 = r at hcon ⊢
  go_enter Tryd.func42, Tryd.ntmps42
  go_wp2_with fail
  refine (hcon _).mono ?_
  rintro e w' ⟨rfl, rfl⟩
  go_wp2
  go_ret
  exact ⟨rfl, 0, _, by rw [alloc_eq_grow, alloc_eq_grow, grow_grow]; rfl⟩

/-- The cells of a row hold these spans, and may be written. -/
def RC (w : World) (g : Nat) (d : List Sp) : Prop := ∀ j, j < d.length → w.cell? ⟨g, j * 2, none⟩ = some (.int .i64 (nthN d j).1) ∧ w.cell? ⟨g, j * 2 + 1, none⟩ = some (.int .i64 (nthN d j).2) ∧ w.frozen? ⟨g, j * 2, none⟩ = false ∧ w.frozen? ⟨g, j * 2 + 1, none⟩ = false
theorem RW.rc {T : Nat} {w : World} {g : Nat} {d t : List Sp} {m : Nat} (h : RW T w g d) (hm : m ≤ d.length) (ht : t = d.take m) : RC w g t := by
  intro j hj
  subst ht
  rw [List.length_take] at hj
  have e : nthN (d.take m) j = nthN d j := by
    unfold nthN
    rw [List.getD_eq_getElem?_getD, List.getD_eq_getElem?_getD, List.getElem?_take, if_pos (by omega)]
  rw [e]
  exact ⟨h.c0 j (by omega), h.c1 j (by omega), h.f _, h.f _⟩
theorem RC.holds {w : World} {g : Nat} {d : List Sp} (h : RC w g d) : HoldsK encN1 2 w g 0 d.toArray := by
  intro t ht
  have hs : (flatK encN1 2 d.toArray).size = d.length * 2 := by simp
  rw [hs] at ht
  have hj : t / 2 < d.length := by omega
  obtain ⟨c0, c1, f0, f1⟩ := h (t / 2) hj
  have en : d.toArray[t / 2]! = nthN d (t / 2) := by
    rw [nthN_mem hj]
    simp [hj]
  rw [get_flatK encN1 2 d.toArray t (by simpa using ht), en]
  rcases (show t % 2 = 0 ∨ t % 2 = 1 by omega) with hr | hr
  · rw [hr, show 0 + t = t / 2 * 2 by omega]
    exact ⟨c0, f0⟩
  · rw [hr, show 0 + t = t / 2 * 2 + 1 by omega]
    exact ⟨c1, f1⟩
theorem rc_of_holds {w : World} {g : Nat} {d : List Sp} (h : HoldsK encN1 2 w g 0 d.toArray) : RC w g d := by
  intro j hj
  have hs : (flatK encN1 2 d.toArray).size = d.length * 2 := by simp
  have en : ∀ t, t / 2 = j → d.toArray[t / 2]! = nthN d j := fun t ht => by
    rw [ht, nthN_mem hj]
    simp [hj]
  obtain ⟨a0, a1⟩ := h (j * 2) (by rw [hs]; omega)
  obtain ⟨b0, b1⟩ := h (j * 2 + 1) (by rw [hs]; omega)
  rw [get_flatK encN1 2 d.toArray _ (by simp; omega), en _ (by omega)] at a0 b0
  rw [show j * 2 % 2 = 0 by omega] at a0
  rw [show (j * 2 + 1) % 2 = 1 by omega] at b0
  rw [Nat.zero_add] at a0 a1 b0 b1
  exact ⟨a0, b0, a1, b1⟩

set_option maxHeartbeats 1000000 in
theorem SortFunc_s (g m c : Nat) (d : List Sp) (hd : d.length = m) (hm : m ≤ 4294967296) (w : World) (hrc : RC w g d) (hg : g < w.heap.size) :
    Calls Tryd.prog 41 #[.slice (some ⟨g, 0, none⟩) m c, .func (.func 42) #[] #[]] w fun e w' => e = .returned (.tuple #[]) ∧ ∃ d' : List Sp, d'.Perm d ∧ (∀ i j, i < j → j < m → (nthN d' i).1 ≤ (nthN d' j).1) ∧ RC w' g d' ∧ Below g w w' := by
  have eg : ∀ args w, (callFunc 42 args).run Tryd.prog w = .ok (.enter 42 args) w := enters_of Tryd.func42 (by kernel_rfl) rfl
  have hcon := AnyQ.slices_SortFunc Tryd.laysSortF 2 Tryd.isAgg44 Tryd.sizeOf44 encN1 (fun _ => rfl) (fun x v hv => by simp [encN1] at hv; rcases hv with rfl | rfl <;> rfl) (fun x y : Sp => Lib.compareInt x.1 y.1) swoFr 42 #[] g 0 c d.toArray w eg (fun _ _ _ _ x y => byFrom_any x y _) hrc.holds hg (by simp; omega)
  have hcon2 : Calls Tryd.prog 41 #[.slice (some ⟨g, 0, none⟩) d.toArray.size c, .func (.func 42) #[] #[]] w _ := hcon
  rw [show d.toArray.size = m by simpa using hd] at hcon2
  refine hcon2.mono ?_
  rintro e w' ⟨rfl, d', n, os, hp, hs, rfl⟩
  obtain ⟨p1, p2, p3⟩ := hp
  have hz : d'.size = m := by rw [p1]; simpa using hd
  have hsz : d.toArray.size = m := by simpa using hd
  have q1 : d'.extract 0 m = d' := by rw [← hz]; exact Array.extract_size
  have q2 : d.toArray.extract 0 m = d.toArray := by rw [← hsz]; exact Array.extract_size
  rw [q1, q2] at p3
  have en : ∀ i, i < m → nthN d'.toList i = d'[i]! := fun i hi => by
    rw [nthN_mem (by simpa [hz] using hi)]
    simp [hz, hi]
  refine ⟨rfl, d'.toList, by simpa using p3, fun i j hij hj => ?_, rc_of_holds ?_, ?_⟩
  · have h := hs i j (Nat.zero_le _) hij hj
    rw [ltFr] at h
    rw [en i (by omega), en j hj]
    simpa using h
  · rw [Array.toArray_toList]
    exact holdsK_sortWorldK_c encN1 2 w g 0 d.toArray d' n os hrc.holds hg p1
  · refine ⟨rfl, rfl, rfl, ?_, fun k hk => ?_⟩
    · exact size_sortWorldK_c encN1 2 w g 0 n d' os
    · have hne : g ≠ k := by omega
      have hkw : k < w.heap.size := by omega
      simp [sortWorldK, putRowK, putRow, mapBlock, grow, ahead, Array.getElem?_append, Array.getElem?_modify, hne, hkw]
      rw [Array.getElem_modify, if_neg hne]

end Sn
end Go.Proofs.YtbgbidjngjdceaaDoor
