/-
  span: the law's same; Cut, Tell, TellNone of both; awake.
-/
import Derived.Test.YtbgbidjngjdceaaDoorSnC
import Derived.Test.YtbgbidjngjdceaaDoorSnQ
import Derived.Test.YtbgbidjngjdceaaDoorDig
set_option linter.unusedVariables false
set_option linter.unusedSimpArgs false
namespace Go.Proofs.YtbgbidjngjdceaaDoor
open Go.RowKit Go.Shelf
namespace Sn
open Oc Tg Ac

theorem bel_drewN {n : Nat} {w w' : World} (h : Below n w w') (k : Nat) : Below n w (w'.drewN k) := h.trans ⟨rfl, rfl, rfl, Nat.le_refl _, fun _ _ => rfl⟩

set_option maxRecDepth 100000 in
set_option maxHeartbeats 2000000 in
theorem same_any (v1 v2 : Value) (t : List Sp) (w : World) (h1 : RdN v1 t w) (h2 : RdN v2 t w) (hl : t.length ≤ 4294967296) :
    Calls Tryd.prog 12 #[v1, v2] w fun e w' => e = .returned (.bool true) ∧ Below w.heap.size w w' := by
  have H1 : Hid (RdN v1 t w) := h1
  have H2 : Hid (RdN v2 t w) := h2
  obtain ⟨a1, c1, rfl, _⟩ := h1
  obtain ⟨a2, c2, rfl, _⟩ := h2
  have hne : ((t.length : Int) != (t.length : Int)) = false := by simp
  go_enter Tryd.func12, Tryd.ntmps12
  go_wp2
  go_loopw [5] (fun i wr => ∃ k : Nat, k ≤ t.length ∧ i = .int .i64 k ∧ Hid (Below w.heap.size w wr)) (fun i _ => t.length - (intOf i).toNat)
  case atStart => exact ⟨0, Nat.zero_le _, rfl, Below.refl _ _⟩
  case round =>
    obtain ⟨k, hk, rfl, hb⟩ := hrel
    by_cases hlt : k < t.length
    · obtain ⟨a1', c1', e1', hcs1⟩ := H1.out.below hb.out
      injection e1' with e11 _ e12
      subst e11 e12
      rcases hcs1 with h | ⟨g1, o1, rfl, hlc1, hcell1⟩
      · rw [h] at hlt; simp at hlt
      obtain ⟨a2', c2', e2', hcs2⟩ := H2.out.below hb.out
      injection e2' with e21 _ e22
      subst e21 e22
      rcases hcs2 with h | ⟨g2, o2, rfl, hlc2, hcell2⟩
      · rw [h] at hlt; simp at hlt
      obtain ⟨p0, p1⟩ := hcell1 k hlt
      obtain ⟨q0, q1⟩ := hcell2 k hlt
      clear hcell1 hcell2
      generalize (nthN t k).1 = X at *
      generalize (nthN t k).2 = Y at *
      have nX : (X != X) = false := by simp
      have nY : (Y != Y) = false := by simp
      go_wp2_with fail
      go_quiet (fail)
      go_wp2
      go_roundw
      case rel => exact ⟨k + 1, by omega, by go_num, bel_drewN hb.out _⟩
      case measure => simp [intOf]; omega
    · go_wp2
      go_ret
      exact ⟨rfl, hb.out⟩

/-- A span of a body of a size. -/
def isSp (x : Sp) (size : Int) : Bool := decide (0 ≤ x.1 ∧ x.1 < x.2 ∧ x.2 ≤ size)
theorem isSp_emp {x : Sp} (h : emp x = true) (size : Int) : isSp x size = false := by
  unfold emp at h; unfold isSp; simp at *; omega
theorem isSp_wth {x : Sp} (h : emp x = false) (size : Int) : isSp x size = decide (x = wth x size) := by
  unfold emp at h; unfold isSp wth
  rw [decide_eq_decide, Prod.ext_iff]
  simp at *
  omega

end Sn
end Go.Proofs.YtbgbidjngjdceaaDoor
