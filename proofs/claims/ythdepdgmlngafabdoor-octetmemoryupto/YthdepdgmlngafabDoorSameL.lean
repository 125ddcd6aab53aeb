/-
  Texts held against texts: the law's own 'same'.
-/
import Derived.Test.YthdepdgmlngafabDoorToks
set_option linter.unusedVariables false
set_option linter.unusedSimpArgs false
namespace Go.Proofs.YthdepdgmlngafabDoor
open Go.RowKit Go.Shelf
namespace Oc

/-- A slice that reads as these texts. -/
def RdS (v : Value) (t : List (List UInt8)) (w : World) : Prop :=
  ∃ a c, v = .slice a t.length c ∧ (t = [] ∨ ∃ g o, a = some ⟨g, o, none⟩ ∧ t.length ≤ c ∧ ∀ j, j < t.length → w.cell? ⟨g, o + j, none⟩ = some (.string (str (t.getD j []))))
theorem OwnS.rd {B : Nat} {v : Value} {t : List (List UInt8)} {w : World} (h : OwnS B v t w) : RdS v t w := by
  obtain ⟨a, c, rfl⟩ := h.form
  refine ⟨a, c, rfl, ?_⟩
  cases t with
  | nil => exact .inl rfl
  | cons x t =>
    right
    obtain ⟨g, e, hc, _⟩ := h.cell 0 (by simp)
    refine ⟨g, 0, e, hc, fun j hj => ?_⟩
    obtain ⟨g', e', _, hcell⟩ := h.cell j hj
    rw [e] at e'
    injection e' with e'
    injection e' with e1
    subst e1
    rw [Nat.zero_add]
    exact hcell
theorem RdS.below {v : Value} {t : List (List UInt8)} {w w' : World} (h : RdS v t w) (b : Below w.heap.size w w') : RdS v t w' := by
  obtain ⟨a, c, rfl, h⟩ := h
  refine ⟨a, c, rfl, ?_⟩
  rcases h with h | ⟨g, o, e, hc, hcell⟩
  · exact .inl h
  · refine .inr ⟨g, o, e, hc, fun j hj => ?_⟩
    have h1 := hcell j hj
    rw [b.cell (p := ⟨g, o + j, none⟩) (World.block_lt_of_cell? w _ h1)]
    exact h1

theorem drawn_again (w : World) (n m : Nat) : Hid (∃ k, w.drewN (n + m) = w.drewN k) := ⟨_, rfl⟩
theorem drawn_twice (w : World) (n m : Nat) : ∃ k, (w.drewN n).drewN m = w.drewN k := ⟨n + m, World.drewN_drewN ..⟩

set_option maxRecDepth 100000 in
set_option maxHeartbeats 1000000 in
theorem same_any (v1 v2 : Value) (t1 t2 : List (List UInt8)) (w : World) (h1 : RdS v1 t1 w) (h2 : RdS v2 t2 w) (hl1 : t1.length ≤ 4294967296) (hl2 : t2.length ≤ 4294967296) :
    Calls Tryd.prog 14 #[v1, v2] w fun e w' => e = .returned (.bool (decide (t1 = t2))) ∧ ∃ n, w' = w.drewN n := by
  obtain ⟨a1, c1, rfl, h1⟩ := h1
  obtain ⟨a2, c2, rfl, h2⟩ := h2
  by_cases hn : t1.length = t2.length
  · have hne : ((t1.length : Int) != (t2.length : Int)) = false := by simp [hn]
    have H1 : Hid (t1 = [] ∨ ∃ g o, a1 = some ⟨g, o, none⟩ ∧ t1.length ≤ c1 ∧ ∀ j, j < t1.length → w.cell? ⟨g, o + j, none⟩ = some (.string (str (t1.getD j [])))) := h1
    have H2 : Hid (t2 = [] ∨ ∃ g o, a2 = some ⟨g, o, none⟩ ∧ t2.length ≤ c2 ∧ ∀ j, j < t2.length → w.cell? ⟨g, o + j, none⟩ = some (.string (str (t2.getD j [])))) := h2
    have HN : Hid (t1.length = t2.length) := hn
    have hle : t1.length ≤ t2.length := by omega
    clear h1 h2 hn
    go_enter Tryd.func14, Tryd.ntmps14
    go_wp2
    go_loopw [5] (fun i wr => ∃ k : Nat, k ≤ t1.length ∧ i = .int .i64 k ∧ Hid (∀ j, j < k → t1.getD j [] = t2.getD j []) ∧ Hid (∃ n, wr = w.drewN n)) (fun i _ => t1.length - (intOf i).toNat)
    case atStart => exact ⟨0, Nat.zero_le _, rfl, (fun j hj => by omega : ∀ j, j < 0 → _), (⟨0, rfl⟩ : ∃ n, w = w.drewN n)⟩
    case round =>
      obtain ⟨k, hk, rfl, hall, hw⟩ := hrel
      obtain ⟨n, rfl⟩ := hw.out
      clear hw
      by_cases hlt : k < t1.length
      · have hlt2 : k < t2.length := by omega
        rcases H1.out with h | ⟨g1, o1, rfl, hc1, hcell1⟩
        · rw [h] at hlt; simp at hlt
        rcases H2.out with h | ⟨g2, o2, rfl, hc2, hcell2⟩
        · rw [h] at hlt2; simp at hlt2
        have hk1 := hcell1 k hlt
        have hk2 := hcell2 k hlt2
        clear hcell1 hcell2
        by_cases he : t1.getD k [] = t2.getD k []
        · have HA : Hid (∀ j, j < k + 1 → t1.getD j [] = t2.getD j []) := by
            intro j hj
            by_cases hjk : j = k
            · subst hjk; exact he
            · exact hall.out j (by omega)
          rw [he] at hk1
          generalize str (t2.getD k []) = x at hk1 hk2
          clear he
          go_wp2_with fail
          go_quiet (fail)
          go_wp2
          go_roundw
          case rel => exact ⟨k + 1, by omega, by go_num, HA, drawn_again w _ _⟩
          case measure => simp [intOf]; omega
        · have HF : Hid (t1 ≠ t2) := fun e => he (by rw [e])
          have hb : ((str (t1.getD k [])).toList == (str (t2.getD k [])).toList) = false := by
            rw [eq_toList]
            exact decide_eq_false (fun e => he (str_inj e))
          generalize str (t1.getD k []) = x at hk1 hb
          generalize str (t2.getD k []) = y at hk2 hb
          clear he
          go_wp2_with fail
          go_quiet (fail)
          go_wp2
          go_ret
          exact ⟨ret_bool (decide_eq_false HF.out).symm, drawn_twice w _ _⟩
      · have HF : Hid (t1 = t2) := by
          show t1 = t2
          refine List.ext_getElem HN.out (fun j h1 h2 => ?_)
          have := hall.out j (by omega)
          rwa [List.getD_eq_getElem?_getD, List.getElem?_eq_getElem h1, List.getD_eq_getElem?_getD, List.getElem?_eq_getElem h2] at this
        go_wp2
        go_ret
        exact ⟨ret_bool (decide_eq_true HF.out).symm, _, rfl⟩
  · have hne : ((t1.length : Int) != (t2.length : Int)) = true := by simp; omega
    have HN : Hid (t1 ≠ t2) := fun e => hn (by rw [e])
    clear hn h1 h2
    go_enter Tryd.func14, Tryd.ntmps14
    go_wp2
    go_ret
    exact ⟨ret_bool (decide_eq_false HN.out).symm, 0, rfl⟩

end Oc
end Go.Proofs.YthdepdgmlngafabDoor
