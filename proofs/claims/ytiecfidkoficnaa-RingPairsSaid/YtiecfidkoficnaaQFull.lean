/-
  The queue's Push where nothing fits.
-/
import Derived.Test.YtiecfidkoficnaaQPush
set_option maxRecDepth 100000
set_option linter.unusedVariables false
set_option linter.unusedSimpArgs false
namespace Go.Proofs.Ytiecfidkoficnaa
open Go.RowKit
namespace Rg

set_option maxHeartbeats 2000000 in
theorem qPushNo_S {w : World} {p : Option Addr} {bs : List Nat} {cap : Nat} {xs : List (List Value)} (HQ : QP w 9 1 97 p bs cap xs) (x : ByteArray) (hfull : xs.length = cap) : Calls Try.prog 20 #[.pointer p, .string x] w fun e w' => e = .returned (.int .i64 21) ∧ Below w.heap.size w w' := by
  have HQ' : Hid (QP w 9 1 97 p bs cap xs) := HQ
  clear HQ
  have HF : Hid (xs.length = cap) := hfull
  clear hfull
  go_enter Try.func20, Try.ntmps20
  go_wp2_with fail
  refine (qLen_S HQ'.out).mono ?_
  rintro e w1 ⟨rfl, hb⟩
  have HB1 : Hid (Below w.heap.size w w1) := hb
  clear hb
  go_wp2_with fail
  refine (qCap_S (HQ'.out.below HB1.out)).mono ?_
  rintro e w2 ⟨rfl, hb⟩
  have HB2 : Hid (Below w.heap.size w w2) := bel_trans HB1.out hb
  clear hb
  rw [HF.out]
  go_wp2
  go_ret
  exact ⟨rfl, HB2.out⟩

/-- A queue holds at most so many. -/
theorem QP.le_S {w : World} {p : Option Addr} {bs : List Nat} {cap : Nat} {xs : List (List Value)} (HQ : QP w 9 1 97 p bs cap xs) : xs.length ≤ cap := by
  rcases HQ with ⟨_, _, rfl, rfl⟩ | ⟨qp, sv, head, n, cs, _, _, H, _⟩
  · simp
  · have := H.hc; have := H.hn; omega

set_option maxHeartbeats 2000000 in
theorem qPushNo_I {w : World} {p : Option Addr} {bs : List Nat} {cap : Nat} {xs : List (List Value)} (HQ : QP w 3 1 106 p bs cap xs) (x : Int) (hfull : xs.length = cap) : Calls Try.prog 33 #[.pointer p, .int .i64 x] w fun e w' => e = .returned (.int .i64 21) ∧ Below w.heap.size w w' := by
  have HQ' : Hid (QP w 3 1 106 p bs cap xs) := HQ
  clear HQ
  have HF : Hid (xs.length = cap) := hfull
  clear hfull
  go_enter Try.func33, Try.ntmps33
  go_wp2_with fail
  refine (qLen_I HQ'.out).mono ?_
  rintro e w1 ⟨rfl, hb⟩
  have HB1 : Hid (Below w.heap.size w w1) := hb
  clear hb
  go_wp2_with fail
  refine (qCap_I (HQ'.out.below HB1.out)).mono ?_
  rintro e w2 ⟨rfl, hb⟩
  have HB2 : Hid (Below w.heap.size w w2) := bel_trans HB1.out hb
  clear hb
  rw [HF.out]
  go_wp2
  go_ret
  exact ⟨rfl, HB2.out⟩

/-- A queue holds at most so many. -/
theorem QP.le_I {w : World} {p : Option Addr} {bs : List Nat} {cap : Nat} {xs : List (List Value)} (HQ : QP w 3 1 106 p bs cap xs) : xs.length ≤ cap := by
  rcases HQ with ⟨_, _, rfl, rfl⟩ | ⟨qp, sv, head, n, cs, _, _, H, _⟩
  · simp
  · have := H.hc; have := H.hn; omega

end Rg
end Go.Proofs.Ytiecfidkoficnaa
