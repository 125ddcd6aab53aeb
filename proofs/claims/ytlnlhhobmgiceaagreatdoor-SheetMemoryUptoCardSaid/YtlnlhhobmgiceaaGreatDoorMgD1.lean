/- Several texts as one. -/
import Derived.Test.YtlnlhhobmgiceaaGreatDoorMgT
import Derived.Test.YtlnlhhobmgiceaaGreatDoorMgX
import Derived.Deep.QuietTactic
import Derived.Test.YtlnlhhobmgiceaaGreatDoorSrX
/-
  sheet: the law's parts (out of tplsht's WrA).
-/
set_option linter.unusedVariables false
set_option linter.unusedSimpArgs false
namespace Go.Proofs.YtlnlhhobmgiceaaGreatDoor
open Go.RowKit Go.Shelf
namespace Wr
open Oc Tg Pt

set_option maxRecDepth 100000 in
set_option maxHeartbeats 4000000 in
theorem parts15_any (v1 v2 : Value) (t : List P5) (w : World) (h1 : RdT v1 t w) (h2 : RdT v2 t w) (hl : t.length ≤ 4294967296) :
    Calls Tryz.prog 11 #[v1, v2] w fun e w' => e = .returned (.bool true) ∧ ∃ n, w' = w.drewN n := by
  obtain ⟨a1, c1, rfl, h1⟩ := h1
  obtain ⟨a2, c2, rfl, h2⟩ := h2
  have hne : ((t.length : Int) != (t.length : Int)) = false := by simp
  go_enter Tryz.func11, Tryz.ntmps11
  go_wp2
  go_loopw [5] (fun i wr => ∃ k : Nat, k ≤ t.length ∧ i = .int .i64 k ∧ Hid (∃ n, wr = w.drewN n)) (fun i _ => t.length - (intOf i).toNat)
  case atStart => exact ⟨0, Nat.zero_le _, rfl, (⟨0, rfl⟩ : ∃ n, w = w.drewN n)⟩
  case round =>
    obtain ⟨k, hk, rfl, hw⟩ := hrel
    obtain ⟨n, rfl⟩ := hw.out
    clear hw
    by_cases hlt : k < t.length
    · rcases h1 with h | ⟨g1, o1, rfl, hc1, hcell1⟩
      · rw [h] at hlt; simp at hlt
      rcases h2 with h | ⟨g2, o2, rfl, hc2, hcell2⟩
      · rw [h] at hlt; simp at hlt
      obtain ⟨p0, p1, p2, p3, p4⟩ := hcell1 k hlt
      obtain ⟨q0, q1, q2, q3, q4⟩ := hcell2 k hlt
      clear hcell1 hcell2
      generalize str (nthT t k).n = x0 at p0 q0
      generalize str (nthT t k).f = x1 at p1 q1
      generalize str (nthT t k).m = x2 at p2 q2
      generalize str (nthT t k).b = x3 at p3 q3
      generalize (nthT t k).h = z at p4 q4
      have hz : (z != z) = false := by simp
      go_wp2_with fail
      go_quiet (fail)
      go_wp2
      go_roundw
      case rel => exact ⟨k + 1, by omega, by go_num, Tg.drawn_again w _ _⟩
      case measure => simp [intOf]; omega
    · go_wp2
      go_ret
      exact ⟨rfl, _, rfl⟩

end Wr
end Go.Proofs.YtlnlhhobmgiceaaGreatDoor

/-
  The law SheetParses, walked.
-/
set_option linter.unusedVariables false
set_option linter.unusedSimpArgs false
namespace Go.Proofs.YtlnlhhobmgiceaaGreatDoor
open Go.RowKit Go.Shelf
namespace Sr
open Oc Tg Mf

theorem prsP_len (l mk : List UInt8) (most : Nat) : ∀ (f : Nat) (ps : List Pt.P5) (a : Nat), (prsP l mk most f ps a).1.length ≤ ps.length + f
  | 0, ps, a => by simp [prsP]
  | f + 1, ps, a => by
    rw [prsP]
    split
    · simp
    · split
      · simp
      · split
        · simp
        · split
          · simp
          · have := prsP_len l mk most f (ps ++ [(prtP l mk (tkP l a mk.length (decide (0 < ps.length))).2.2).1]) (prtP l mk (tkP l a mk.length (decide (0 < ps.length))).2.2).2.2
            rw [List.length_append] at this
            simp at this
            omega
theorem parR_len (b s : List UInt8) (most : Int) : (parR b s most).1.length ≤ s.length + 1 := by
  unfold parR
  split
  · simp
  · split
    · simp
    · dsimp only
      unfold allP
      split
      · simp
      · have := prsP_len s ([45, 45] ++ b) most.toNat (s.length + 1) [] (preP s ([45, 45] ++ b)).2
        simp at this
        simpa using this

end Sr
end Go.Proofs.YtlnlhhobmgiceaaGreatDoor
