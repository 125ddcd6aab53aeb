/-
  A row of spans that is the call's own: cells read and written; made, copied, cleared.
-/
import Derived.Test.YtbgbidjngjdceaaDoorMgP
import Derived.Laws.MakeOwn
import Derived.Laws.CopyRow
import Derived.Lib.SliceRun
set_option linter.unusedVariables false
set_option linter.unusedSimpArgs false
namespace Go.Proofs.YtbgbidjngjdceaaDoor
open Go.RowKit
namespace Sn

/-- The block g holds these spans. -/
def RW (T : Nat) (w : World) (g : Nat) (d : List Sp) : Prop := w.heap[g]? = some (.cells (encN d).toArray T (0, 0))
theorem RW.c0 {T : Nat} {w : World} {g : Nat} {d : List Sp} (h : RW T w g d) (j : Nat) (hj : j < d.length) : w.cell? ⟨g, j * 2, none⟩ = some (.int .i64 (nthN d j).1) := by
  have := Lib.cell_of_heap h (j * 2)
  rw [this]
  simpa using (encN_at d j hj).1
theorem RW.c1 {T : Nat} {w : World} {g : Nat} {d : List Sp} (h : RW T w g d) (j : Nat) (hj : j < d.length) : w.cell? ⟨g, j * 2 + 1, none⟩ = some (.int .i64 (nthN d j).2) := by
  have := Lib.cell_of_heap h (j * 2 + 1)
  rw [this]
  simpa using (encN_at d j hj).2
theorem RW.f {T : Nat} {w : World} {g : Nat} {d : List Sp} (h : RW T w g d) (j : Nat) : w.frozen? ⟨g, j, none⟩ = false := Lib.frozen_of_heap h j
theorem RW.lt {T : Nat} {w : World} {g : Nat} {d : List Sp} (h : RW T w g d) : g < w.heap.size := by
  rcases Nat.lt_or_ge g w.heap.size with h' | h'
  · exact h'
  · unfold RW at h; simp [Array.getElem?_eq_none h'] at h
theorem RW.below {T : Nat} {w w' : World} {g : Nat} {d : List Sp} (h : RW T w g d) (b : Below w.heap.size w w') : RW T w' g d := by
  unfold RW at *
  rw [b.block g (RW.lt h)]
  exact h
theorem encN_set : ∀ (d : List Sp) (j : Nat) (a b : Int), encN (d.set j (a, b)) = ((encN d).set (j * 2) (.int .i64 a)).set (j * 2 + 1) (.int .i64 b)
  | [], j, a, b => by simp [encN]
  | x :: d, 0, a, b => rfl
  | x :: d, j + 1, a, b => by
    have ih := encN_set d j a b
    have e : ∀ (y : Sp) (t : List Sp), encN (y :: t) = .int .i64 y.1 :: .int .i64 y.2 :: encN t := fun _ _ => rfl
    rw [List.set_cons_succ, e, e, ih, show (j + 1) * 2 = j * 2 + 1 + 1 by omega]
    simp
theorem RW.set {T : Nat} {w : World} {g : Nat} {d : List Sp} (h : RW T w g d) (j : Nat) (a b : Int) : RW T ((w.setCell ⟨g, j * 2, none⟩ (.int .i64 a)).setCell ⟨g, j * 2 + 1, none⟩ (.int .i64 b)) g (d.set j (a, b)) := by
  unfold RW at h ⊢
  rw [encN_set]
  simp [World.setCell, Array.getElem?_modify, h]
theorem encN_set1 : ∀ (d : List Sp) (j : Nat) (b : Int), encN (d.set j ((nthN d j).1, b)) = (encN d).set (j * 2 + 1) (.int .i64 b)
  | [], j, b => by simp [encN]
  | x :: d, 0, b => rfl
  | x :: d, j + 1, b => by
    have ih := encN_set1 d j b
    have e : ∀ (y : Sp) (t : List Sp), encN (y :: t) = .int .i64 y.1 :: .int .i64 y.2 :: encN t := fun _ _ => rfl
    have n : nthN (x :: d) (j + 1) = nthN d j := by unfold nthN; simp
    rw [n, List.set_cons_succ, e, e, ih, show (j + 1) * 2 + 1 = j * 2 + 1 + 1 + 1 by omega]
    simp
theorem RW.set1 {T : Nat} {w : World} {g : Nat} {d : List Sp} (h : RW T w g d) (j : Nat) (b : Int) : RW T (w.setCell ⟨g, j * 2 + 1, none⟩ (.int .i64 b)) g (d.set j ((nthN d j).1, b)) := by
  unfold RW at h ⊢
  rw [encN_set1]
  simp [World.setCell, Array.getElem?_modify, h]
theorem made2 (n : Nat) : madeCells #[(.int .i64 0 : Value), .int .i64 0] (n * 2) = (encN (List.replicate n (0, 0))).toArray := by
  apply Array.toList_inj.1
  apply List.ext_getElem?
  intro i
  have hl : (encN (List.replicate n ((0, 0) : Sp))).length = n * 2 := by rw [encN_len]; simp
  by_cases hi : i < n * 2
  · have e1 : (madeCells #[(.int .i64 0 : Value), .int .i64 0] (n * 2)).toList[i]? = some (.int .i64 0) := by
      unfold madeCells
      have : i % 2 = 0 ∨ i % 2 = 1 := by omega
      rcases this with h | h <;> simp [hi, h]
    rw [e1]
    have hj : i / 2 < (List.replicate n ((0, 0) : Sp)).length := by simp; omega
    have hn : nthN (List.replicate n ((0, 0) : Sp)) (i / 2) = (0, 0) := by
      unfold nthN
      rw [List.getD_eq_getElem?_getD, List.getElem?_replicate]
      split <;> rfl
    obtain ⟨c0, c1⟩ := encN_at (List.replicate n ((0, 0) : Sp)) (i / 2) hj
    rw [hn] at c0 c1
    rcases (show i = i / 2 * 2 ∨ i = i / 2 * 2 + 1 by omega) with h | h
    · rw [h]; exact c0.symm
    · rw [h]; exact c1.symm
  · rw [List.getElem?_eq_none (by simp [size_madeCells]; omega), List.getElem?_eq_none (by simp [hl]; omega)]
theorem run_mkN (W : World) (n : Nat) (hn : n ≤ 4294967296) : (Instr.makeSlice 22 (.int .i64 (n : Int)) (.int .i64 (n : Int))).run Tryd.prog W = .ok (.slice (some ⟨W.heap.size, 0, none⟩) n n) (W.alloc (.cells (encN (List.replicate n (0, 0))).toArray 44 (0, 0))) := by
  obtain ⟨i0, hi, hz0, hz1, hz2⟩ := info_parts infoN
  have hr := run_make (P := Tryd.prog) W 22 44 i0 (.agg #[.int .i64 0, .int .i64 0]) Tryd.underlying22 hi hz0 .i64 .i64 (n : Int) (n : Int) (by omega) (Int.le_refl _) (by rw [hz2]; omega) (by omega)
  simp only [Int.toNat_natCast, hz1] at hr
  rw [hr, ← made2]
  rfl
theorem encN_one (t : List Sp) : ∀ v ∈ encN t, v.oneCell' = true := fun v hv => by
  unfold encN encN1 at hv
  simp at hv
  obtain ⟨x, y, _, h⟩ := hv
  rcases h with rfl | rfl <;> rfl
/-- 'copy' of spans into a row of the call's own, as long. -/
theorem run_copyN (w : World) (ty : TypeId) (g : Nat) (n c1 c2 : Nat) (a : Addr) (d t : List Sp) (hg : RW 44 w g d) (hd : d.length = n) (ht : t.length = n)
    (hsrc : ∀ j v, (encN t)[j]? = some v → w.cell? (a.add j) = some v) :
    (Builtin.copy_ #[22, 22] ty #[.slice (some ⟨g, 0, none⟩) n c1, .slice (some a) n c2]).run Tryd.prog w = .ok (goInt n) (w.setRow g (encN t).toArray) := by
  obtain ⟨i0, hi, hz0, hz1, hz2⟩ := info_parts infoN
  have hl := run_loadCells_list (P := Tryd.prog) w a (encN t) hsrc
  have h1 := encN_one t
  have hst := run_storeCells_at Tryd.prog g 0 44 (encN t) 0 (encN d).toArray w hg (by simp [encN_len, hd, ht]) h1
  have hlen : (encN t).length = n * 2 := by rw [encN_len, ht]
  have hlen2 : (encN d).length = n * 2 := by rw [encN_len, hd]
  rw [hlen] at hl
  simp [Builtin.copy_, run_underlying Tryd.underlying22, Builtin.lenOf, Builtin.firstCells, sizeOf, typeInfo, hi, hz1, hl, hst, hlen, hlen2]
  rw [List.drop_of_length_le (by omega), List.append_nil]

end Sn
end Go.Proofs.YtbgbidjngjdceaaDoor
