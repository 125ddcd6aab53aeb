/-
  span, plainly: what a content range says.
-/
import Derived.Test.YtbgbidjngjdceaaDoorSnQ
import Derived.Test.YtbgbidjngjdceaaDoorSnV
set_option linter.unusedVariables false
set_option linter.unusedSimpArgs false
namespace Go.Proofs.YtbgbidjngjdceaaDoor
open Go.RowKit Go.Shelf
namespace Sn
open Oc Tg Ac

/-- A number as it is printed. -/
def pln (l : List UInt8) : Int × Bool := ((numR 10 l 4611686018427387904).1, decide ((numR 10 l 4611686018427387904).2 = 0) && decide (Lib.itoa (numR 10 l 4611686018427387904).1 = l))
theorem pln_bd (l : List UInt8) : 0 ≤ (pln l).1 ∧ (pln l).1 ≤ 4611686018427387904 := by
  have := numR_bd l 4611686018427387904 (by omega)
  exact ⟨this.1, this.2.1⟩
theorem pln_bad {l : List UInt8} (h : (numR 10 l 4611686018427387904).2 ≠ 0) : (pln l).2 = false := by unfold pln; simp [h]
theorem pln_nil : (pln []).2 = false := pln_bad (by decide +kernel)
theorem pln_star : (pln [42]).2 = false := pln_bad (by decide +kernel)
/-- A first and a last byte. -/
def exP (l : List UInt8) : Sp × Bool := (((pln (cutA 45 l)).1, (pln (cutB 45 l)).1 + 1), ((pln (cutA 45 l)).2 && (pln (cutB 45 l)).2) && decide ((pln (cutA 45 l)).1 ≤ (pln (cutB 45 l)).1))
/-- What stands behind the unit. -/
def tolS (s : List UInt8) : Sp × Int × Int :=
  if ((exP (cutA 47 s)).2 && (pln (cutB 47 s)).2) && isSp (exP (cutA 47 s)).1 (pln (cutB 47 s)).1 then ((exP (cutA 47 s)).1, (pln (cutB 47 s)).1, 0)
  else if (exP (cutA 47 s)).2 && decide (cutB 47 s = [42]) then ((exP (cutA 47 s)).1, -1, 0)
  else if decide (cutA 47 s = [42]) && (pln (cutB 47 s)).2 then ((0, 0), (pln (cutB 47 s)).1, 0)
  else ((0, 0), 0, 90)
/-- What a content range says. -/
def tolR (l : List UInt8) : Sp × Int × Int := if cutA 32 l = [98, 121, 116, 101, 115] then tolS (cutB 32 l) else ((0, 0), 0, 90)

theorem exP_nodash {l : List UInt8} (h : has 45 l = false) : (exP l).2 = false := by
  unfold exP
  rw [cutB_none 45 l h]
  dsimp only
  rw [pln_nil]
  simp
theorem exP_star : (exP [42]).2 = false := exP_nodash (by decide)
theorem tolS_noslash {s : List UInt8} (h : has 47 s = false) : tolS s = ((0, 0), 0, 90) := by
  unfold tolS
  rw [cutB_none 47 s h, pln_nil]
  simp
theorem tolS_star0 {s : List UInt8} (h : cutA 47 s = [42]) (hk : (pln (cutB 47 s)).2 = false) : tolS s = ((0, 0), 0, 90) := by
  unfold tolS
  rw [h, exP_star, hk]
  simp
theorem tolS_star1 {s : List UInt8} (h : cutA 47 s = [42]) (hk : (pln (cutB 47 s)).2 = true) : tolS s = ((0, 0), (pln (cutB 47 s)).1, 0) := by
  unfold tolS
  rw [h, exP_star, hk]
  simp
theorem tolS_bad {s : List UInt8} (h : cutA 47 s ≠ [42]) (hk : (exP (cutA 47 s)).2 = false) : tolS s = ((0, 0), 0, 90) := by
  unfold tolS
  rw [hk]
  simp [h]
theorem tolS_un {s : List UInt8} (h : cutA 47 s ≠ [42]) (hk : (pln (cutB 47 s)).2 = false) (hw : cutB 47 s ≠ [42]) : tolS s = ((0, 0), 0, 90) := by
  unfold tolS
  rw [hk]
  simp [h, hw]
theorem tolS_far {s : List UInt8} (h : cutA 47 s ≠ [42]) (hk : (pln (cutB 47 s)).2 = true) (hb : (pln (cutB 47 s)).1 ≤ (pln (cutB 45 (cutA 47 s))).1) : tolS s = ((0, 0), 0, 90) := by
  have hw : cutB 47 s ≠ [42] := fun e => by rw [e, pln_star] at hk; cases hk
  have hi : isSp (exP (cutA 47 s)).1 (pln (cutB 47 s)).1 = false := by
    unfold isSp exP
    rw [decide_eq_false]
    dsimp only
    omega
  unfold tolS
  rw [hi]
  simp [h, hw]
theorem tolS_ok {s : List UInt8} (he : (exP (cutA 47 s)).2 = true) (hk : (pln (cutB 47 s)).2 = true) (hb : (pln (cutB 45 (cutA 47 s))).1 < (pln (cutB 47 s)).1) : tolS s = ((exP (cutA 47 s)).1, (pln (cutB 47 s)).1, 0) := by
  have h1 := (pln_bd (cutA 45 (cutA 47 s))).1
  have hle : (pln (cutA 45 (cutA 47 s))).1 ≤ (pln (cutB 45 (cutA 47 s))).1 := by
    unfold exP at he
    simp only [Bool.and_eq_true, decide_eq_true_eq] at he
    exact he.2
  have hi : isSp (exP (cutA 47 s)).1 (pln (cutB 47 s)).1 = true := by
    unfold isSp exP
    rw [decide_eq_true]
    dsimp only
    omega
  unfold tolS
  rw [hi, he, hk]
  simp
theorem tolS_any {s : List UInt8} (he : (exP (cutA 47 s)).2 = true) (hk : (pln (cutB 47 s)).2 = false) (hw : cutB 47 s = [42]) : tolS s = ((exP (cutA 47 s)).1, -1, 0) := by
  unfold tolS
  rw [he, hk, hw]
  simp
theorem tolR_six {l : List UInt8} (h : l.take 6 = [98, 121, 116, 101, 115, 32]) : tolR l = tolS (l.drop 6) := by
  have hl : l = [98, 121, 116, 101, 115, 32] ++ l.drop 6 := by
    conv => lhs; rw [← List.take_append_drop 6 l]
    rw [h]
  generalize l.drop 6 = r at *
  subst hl
  unfold tolR
  rw [show cutA 32 ([98, 121, 116, 101, 115, 32] ++ r) = [98, 121, 116, 101, 115] by simp [cutA], show cutB 32 ([98, 121, 116, 101, 115, 32] ++ r) = r by simp [cutB], if_pos rfl]
theorem tolR_not {l : List UInt8} (h : l.take 6 ≠ [98, 121, 116, 101, 115, 32]) : tolR l = ((0, 0), 0, 90) := by
  unfold tolR
  split
  · rename_i e
    cases hh : has 32 l with
    | false =>
      rw [cutB_none 32 l hh]
      decide +kernel
    | true =>
      exfalso
      apply h
      have h2 := cut_app 32 l hh
      rw [e] at h2
      rw [← h2]
      rfl
  · rfl

end Sn
end Go.Proofs.YtbgbidjngjdceaaDoor
