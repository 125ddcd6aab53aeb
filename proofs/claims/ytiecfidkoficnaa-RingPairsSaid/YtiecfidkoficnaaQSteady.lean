/-
  The laws' own test of a queue of one text.
-/
import Derived.Test.YtiecfidkoficnaaQFull
import Derived.Deep.RegionWith
set_option maxRecDepth 100000
set_option linter.unusedVariables false
set_option linter.unusedSimpArgs false
namespace Go.Proofs.Ytiecfidkoficnaa
open Go.RowKit
namespace Rg

set_option maxHeartbeats 2000000 in
theorem steady_any (w : World) : Calls Try.prog 17 #[] w fun e w' => e = .returned (.bool true) ∧ Below w.heap.size w w' := by
  go_enter Try.func17, Try.ntmps17
  go_wp2_with fail
  refine (qNew_S w 1 (by omega) (by omega)).mono ?_
  rintro e w1 ⟨p, bs, cap, E, rfl, hnew, hq, hb⟩
  rcases hnew with ⟨_, _, rfl, hcap, rfl, rfl⟩ | ⟨hbad, _⟩
  · obtain rfl : cap = 1 := by omega
    have HB1 : Hid (Below w.heap.size w w1) := hb
    have HQ1 : Hid (QP w1 9 1 97 (some ⟨w.heap.size, 0, none⟩) [w.heap.size] 1 []) := hq
    clear hq hb hcap
    go_wp2_with fail
    refine (qPush_S HQ1.out _ (by simp)).mono ?_
    rintro e w2 ⟨rfl, bs2, hq2, hin2, hb2⟩
    have HQ2 : Hid (QP w2 9 1 97 (some ⟨w.heap.size, 0, none⟩) bs2 1 [[.string ⟨#[97]⟩]]) := hq2
    have HI2 : Hid (∀ b ∈ bs2, w.heap.size ≤ b) := (fun b hb => by
      rcases hin2 b hb with h | h
      · simp at h; omega
      · have := HB1.out.size; omega : ∀ b ∈ bs2, w.heap.size ≤ b)
    have HB2 : Hid (Below w.heap.size w w2) := HB1.out.trans (hb2.below HB1.out.size (by simp))
    clear hq2 hin2 hb2
    go_wp2_with fail
    refine (qPushNo_S HQ2.out _ (by simp)).mono ?_
    rintro e w3 ⟨rfl, hb3⟩
    have HB3 : Hid (Below w.heap.size w w3) := bel_trans HB2.out hb3
    have HQ3 : Hid (QP w3 9 1 97 (some ⟨w.heap.size, 0, none⟩) bs2 1 [[.string ⟨#[97]⟩]]) := HQ2.out.below hb3
    clear hb3
    go_wp2_with fail
    refine (qPop_S _ HQ3.out).mono ?_
    rintro e w4 ⟨rfl, hq4, hb4⟩
    have HB4 : Hid (Below w.heap.size w w4) := HB3.out.trans (hb4.below HB3.out.size HI2.out)
    clear hq4 hb4
    go_wp2
    go_ret
    exact ⟨rfl, HB4.out⟩
  · omega

end Rg
end Go.Proofs.Ytiecfidkoficnaa
