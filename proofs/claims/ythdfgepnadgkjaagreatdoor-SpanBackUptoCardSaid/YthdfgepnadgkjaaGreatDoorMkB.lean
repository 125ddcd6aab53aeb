/-
  span: Boundary, the document's Stands and Boundary; SpanMarks.
-/
import Derived.Test.YthdfgepnadgkjaaGreatDoorMkT
import Derived.Test.YthdfgepnadgkjaaGreatDoorSnY
set_option linter.unusedVariables false
set_option linter.unusedSimpArgs false
namespace Go.Proofs.YthdfgepnadgkjaaGreatDoor
open Go.RowKit Go.Shelf
namespace Sn
open Oc Tg Ac Mk

theorem itoaD (k : Nat) : Lib.itoa (k : Int) = D k := by
  unfold Lib.itoa
  rw [if_neg (by omega)]
  rfl
theorem itoa_len (k : Nat) (h : k ≤ 1048576) : (Lib.itoa (k : Int)).length ≤ 22 := by
  have := decD_len (k : Int) (by omega) (by omega)
  by_cases h0 : k = 0
  · subst h0
    rw [show ((0 : Nat) : Int) = 0 from rfl, itoa_zero]
    decide
  · rw [itoa_decD _ (by omega), if_neg (by omega)]
    simpa using Nat.le_succ_of_le this
def partL : List UInt8 := [112, 97, 114, 116]

theorem ext_list2 (s : ByteArray) (a b : Nat) : (s.extract a b).data.toList = (s.data.toList.drop a).take (b - a) := by
  rw [ByteArray.data_extract, Array.toList_extract, List.extract_eq_take_drop]
theorem occ_ext (b s : ByteArray) (k : Nat) : ((b.extract k (k + s.size)).toList == s.toList) = Lib.occAt b.data.toList s.data.toList k := by
  rw [eq_toList]
  unfold Lib.occAt
  rw [Bool.eq_iff_iff, decide_eq_true_iff, List.isPrefixOf_iff_prefix, List.prefix_iff_eq_take, size_list]
  constructor
  · intro h
    have := congrArg (fun x : ByteArray => x.data.toList) h
    rw [ext_list2, Nat.add_sub_cancel_left] at this
    exact this.symm
  · intro h
    apply eq_list
    rw [ext_list2, Nat.add_sub_cancel_left]
    exact h.symm

set_option maxRecDepth 100000 in
set_option maxHeartbeats 2000000 in
theorem Boundary_any (b : Bs) (hb : b.length ≤ 1048576) (N : Nat) (hN : N ≤ b.length) (hfree : ¬ std b N) (hall : ∀ m, m < N → std b m) (w : World) (hw : ML w) (hp : Pow w) :
    Calls Tryz.prog 8 #[.string (str b)] w fun e w' => e = .returned (.string (str (partL ++ D N))) ∧ Below w.heap.size w w' := by
  have HT : Hid (Calls Tryz.prog 24 #[.string (str b)] w fun e w' => ∃ n ks, e = .returned (.map (some w.heap.size)) ∧ MI w.heap.size n ks w' ∧ (∀ m, m ∈ ks ↔ m ≤ b.length ∧ std b m) ∧ Below w.heap.size w w') := taken_any b hb w hw
  have HD : Hid (∀ W, Below w.heap.size w W → Calls Tryz.prog 25 #[.int .i64 (N : Int)] W fun e w' => e = .returned (.string (str (Lib.itoa (N : Int)))) ∧ Below (World.heap W).size W w') := fun W bl => Digits_any (N : Int) (by omega) (by omega) W (hp.below bl (Nat.le_refl _))
  have HL : Hid ((Lib.itoa (N : Int)).length ≤ 22) := itoa_len N (by omega)
  have HE : Hid (str partL ++ str (Lib.itoa (N : Int)) = str (partL ++ D N)) := (by rw [cat_str, str_list, itoaD] : _ = _)
  have zI : (str (Lib.itoa (N : Int))).size ≤ 22 := by rw [str_size]; exact HL.out
  clear hw hp
  generalize str (partL ++ D N) = R at *
  generalize str (Lib.itoa (N : Int)) = I at *
  go_enter Tryz.func8, Tryz.ntmps8
  go_wp2_with fail
  refine HT.out.mono ?_
  rintro e w1 ⟨n, ks, rfl, hm, hks, hb1⟩
  have HM : Hid (MI w.heap.size n ks w1) := hm
  have HB1 : Hid (Below w.heap.size w w1) := hb1
  have HIn : Hid (∀ k, k < N → k ∈ ks) := fun k hk => (hks k).2 ⟨by omega, hall k hk⟩
  have HOut : Hid (N ∉ ks) := fun h => hfree ((hks N).1 h).2
  clear hm hb1 hks hfree hall
  go_wp2
  go_loopw [4] (fun nv wr => ∃ k : Nat, k ≤ N ∧ nv = .int .i64 (k : Int) ∧ Hid (Below w1.heap.size w1 wr)) (fun nv _ => N - (intOf nv).toNat)
  case atStart => exact ⟨0, Nat.zero_le _, rfl, Below.refl _ _⟩
  case round =>
    obtain ⟨k, hk, rfl, hbl⟩ := hrel
    have hlk := look_MI (HM.out.below hbl.out) k (by omega)
    have hb2 : Below w1.heap.size w1 (wr.alloc (.cells #[] 62)) := hbl.out.alloc hbl.out.size _
    have HB2 : Hid (Below w1.heap.size w1 (wr.alloc (.cells #[] 62))) := hb2
    clear hb2
    by_cases hlt : k < N
    · rw [decide_eq_true (HIn.out k hlt)] at hlk
      go_wp2
      go_roundw
      case rel => exact ⟨k + 1, by omega, by go_num, HB2⟩
      case measure => simp [intOf]; omega
    · obtain rfl : k = N := by omega
      rw [decide_eq_false HOut.out] at hlk
      go_wp2_with fail
      refine (HD.out _ (bel_trans HB1.out HB2.out)).mono ?_
      rintro e w3 ⟨rfl, hb3⟩
      have HB3 : Hid (Below w.heap.size w w3) := bel_trans (bel_trans HB1.out HB2.out) hb3
      clear hb3
      have hsum : ¬ (9223372036854775807 : Int) < (4 : Int) + (I.size : Int) := by omega
      go_wp2
      go_ret
      refine ⟨?_, HB3.out⟩
      rw [← HE.out]
      rfl

end Sn
end Go.Proofs.YthdfgepnadgkjaaGreatDoor
