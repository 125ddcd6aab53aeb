/-
  The law's sameWeights; AcceptWeights.
-/
import Derived.Test.YthaokkdcebmcpaaDoorAWa
import Derived.Test.YthaokkdcebmcpaaDoorAWz
import Derived.Test.YthaokkdcebmcpaaDoorAAw
set_option linter.unusedVariables false
set_option linter.unusedSimpArgs false
namespace Go.Proofs.YthaokkdcebmcpaaDoor
open Go.RowKit Go.Shelf
namespace Ac
open Oc Tg

set_option maxRecDepth 100000 in
set_option maxHeartbeats 1000000 in
theorem sameWeights_any (v1 v2 : Value) (t : List Wt) (w : World) (h1 : RdW v1 t w) (h2 : RdW v2 t w) (hl : t.length ≤ 4294967296) :
    Calls Tryd.prog 25 #[v1, v2] w fun e w' => e = .returned (.bool true) ∧ ∃ n, w' = w.drewN n := by
  obtain ⟨a1, c1, rfl, h1⟩ := h1
  obtain ⟨a2, c2, rfl, h2⟩ := h2
  have hne : ((t.length : Int) != (t.length : Int)) = false := by simp
  go_enter Tryd.func25, Tryd.ntmps25
  go_wp2
  go_loopw [5] (fun i wr => ∃ k : Nat, k ≤ t.length ∧ i = .int .i64 k ∧ Hid (∃ n, wr = w.drewN n)) (fun i _ => t.length - (intOf i).toNat)
  case atStart => exact ⟨0, Nat.zero_le _, rfl, (⟨0, rfl⟩ : ∃ n, w = w.drewN n)⟩
  case round =>
    obtain ⟨k, hk, rfl, hw⟩ := hrel
    obtain ⟨n, rfl⟩ := hw.out
    clear hw
    by_cases hlt : k < t.length
    · rcases h1 with h | ⟨g1, o1, rfl, hc1, hcell1⟩
      · rw [h] at hlt; simp at hlt
      rcases h2 with h | ⟨g2, o2, rfl, hc2, hcell2⟩
      · rw [h] at hlt; simp at hlt
      obtain ⟨p0, p1⟩ := hcell1 k hlt
      obtain ⟨q0, q1⟩ := hcell2 k hlt
      clear hcell1 hcell2
      generalize str (nthW t k).1 = x at p0 q0
      generalize (nthW t k).2 = y at p1 q1
      have hy : (y != y) = false := by simp
      have hx : (x.toList != x.toList) = false := by simp
      go_wp2_with fail
      go_quiet (fail)
      go_wp2
      go_roundw
      case rel => exact ⟨k + 1, by omega, by go_num, (⟨n + nq, rfl⟩ : ∃ m, w.drewN (n + nq) = w.drewN m)⟩
      case measure => simp [intOf]; omega
    · go_wp2
      go_ret
      exact ⟨rfl, _, rfl⟩

theorem wts_len : ∀ t : List (List UInt8), (wts t).1.length ≤ t.length
  | [] => Nat.zero_le _
  | x :: t => by
    have ih := wts_len t
    unfold wts
    split
    · exact Nat.zero_le _
    · split
      · exact Nat.zero_le _
      · show (wts t).1.length + 1 ≤ t.length + 1
        omega
theorem weightsR_len (l : List UInt8) : (weightsR l).1.length ≤ l.length + 1 := by
  unfold weightsR
  split
  · exact Nat.zero_le _
  · exact Nat.le_trans (wts_len _) (listR_short l).1

set_option maxRecDepth 100000 in
set_option maxHeartbeats 1000000 in
theorem walk_AcceptWeights (s : ByteArray) (hs : s.size ≤ 1048576) (w : World) (hw : Env w) :
    Calls Tryd.prog 8 #[.string s] w fun e w' => e = .returned (.bool true) ∧ Below w.heap.size w w' := by
  have HE : Hid (Env w) := hw
  clear hw
  have HA : Hid (∀ w, Env w → Calls Tryd.prog 23 #[.string s] w fun e w' => ∃ v, e = .returned (.tuple #[v, .int .i64 (weightsR s.data.toList).2]) ∧ OwnW 96 w.heap.size v (weightsR s.data.toList).1 w' ∧ Below w.heap.size w w') := fun w h => Weights_any s hs w h
  have HR : Hid (∀ w, Calls Tryd.prog 24 #[.string s] w fun e w' => ∃ v, e = .returned (.tuple #[v, .int .i64 (weightsR s.data.toList).2]) ∧ OwnW 99 w.heap.size v (weightsR s.data.toList).1 w' ∧ Below w.heap.size w w') := fun w => rWeights_any s hs w
  have hl := weightsR_len s.data.toList
  rw [size_list] at hl
  generalize (weightsR s.data.toList).1 = t at *
  generalize (weightsR s.data.toList).2 = er at *
  have HS : Hid (∀ v1 v2 w, RdW v1 t w → RdW v2 t w → Calls Tryd.prog 25 #[v1, v2] w fun e w' => e = .returned (.bool true) ∧ ∃ n, w' = w.drewN n) := fun v1 v2 w h1 h2 => sameWeights_any v1 v2 t w h1 h2 (by omega)
  have he : (er == er) = true := by simp
  go_enter Tryd.func8, Tryd.ntmps8
  go_wp2_with fail
  refine (HA.out _ HE.out).mono ?_
  rintro e w2 ⟨v1, rfl, ho1, hb2⟩
  have HB2 : Hid (Below w.heap.size w w2) := hb2
  have HO2 : Hid (RdW v1 t w2) := OwnW.rd ho1
  clear hb2 ho1
  go_wp2_with fail
  refine (HR.out _).mono ?_
  rintro e w3 ⟨v2, rfl, ho2, hb3⟩
  have HB3 : Hid (Below w.heap.size w w3) := bel_trans HB2.out hb3
  have HO3 : Hid (RdW v1 t w3) := HO2.out.below hb3
  have HP3 : Hid (RdW v2 t w3) := OwnW.rd ho2
  clear hb3 ho2
  go_wp2_with fail
  refine (awake_any _ (HE.out.below HB3.out)).mono ?_
  rintro e w4 ⟨rfl, hb4⟩
  have HB4 : Hid (Below w.heap.size w w4) := bel_trans HB3.out hb4
  have HO4 : Hid (RdW v1 t w4) := HO3.out.below hb4
  have HP4 : Hid (RdW v2 t w4) := HP3.out.below hb4
  clear hb4
  go_wp2_with fail
  refine (HS.out _ _ _ HO4.out HP4.out).mono ?_
  rintro e w5 ⟨rfl, n, rfl⟩
  go_wp2
  go_ret
  exact ⟨rfl, bel_trans HB4.out ⟨rfl, rfl, rfl, Nat.le_refl _, fun _ _ => rfl⟩⟩

end Ac
end Go.Proofs.YthaokkdcebmcpaaDoor
