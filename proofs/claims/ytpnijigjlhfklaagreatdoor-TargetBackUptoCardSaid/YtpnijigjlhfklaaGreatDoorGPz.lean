/-
  target: placeOf, authorityOf (towards TargetPrints, TargetBack).
-/
import Derived.Test.YtpnijigjlhfklaaGreatDoorGPv
import Derived.Deep.RegionHeld3
set_option linter.unusedVariables false
set_option linter.unusedSimpArgs false
set_option maxRecDepth 100000
namespace Go.Proofs.YtpnijigjlhfklaaGreatDoor
open Go.RowKit Go.Shelf
namespace Tg
open Oc

/-- Path and query as text. -/
def plcR (p q : List UInt8) (h : Bool) : List UInt8 := if h then p ++ 63 :: q else p
/-- Host and port as text. -/
def autR (host : List UInt8) (port : Int) : List UInt8 := if port = -1 then host else host ++ 58 :: Lib.itoa port

set_option maxHeartbeats 2000000 in
theorem placeOf_any (a c : Int) (B P Q : ByteArray) (f : Bool) (hp : P.size ≤ 4000000) (hq : Q.size ≤ 4000000) (w : World) :
    Calls Tryz.prog 53 #[.agg #[.int .i64 a, .string B, .int .i64 c, .string P, .string Q, .bool f]] w fun e w' => e = .returned (.string (str (plcR P.data.toList Q.data.toList f))) ∧ Below w.heap.size w w' := by
  have HF : Hid (str (plcR P.data.toList Q.data.toList false) = P) := (by show str P.data.toList = P; exact str_self P : _ = _)
  have HT : Hid (str (plcR P.data.toList Q.data.toList true) = P ++ ⟨#[63]⟩ ++ Q) := (by
    refine eq_list ?_
    rw [str_list]
    simp [plcR, ByteArray.toList_data_append] : _ = _)
  cases f with
  | false =>
    go_enter Tryz.func53, Tryz.ntmps53
    go_wp2
    go_ret
    rw [HF.out]
    exact ⟨rfl, (Below.refl _ w).alloc (Nat.le_refl _) _⟩
  | true =>
    go_enter Tryz.func53, Tryz.ntmps53
    go_wp2
    go_ret
    rw [HT.out]
    exact ⟨rfl, (Below.refl _ w).alloc (Nat.le_refl _) _⟩

set_option maxHeartbeats 2000000 in
theorem authorityOf_any (a c : Int) (B P Q : ByteArray) (f : Bool) (hB : B.size ≤ 4000000) (c0 : -9223372036854775808 ≤ c) (c1 : c ≤ 9223372036854775807) (w : World) (he : HE w) :
    Calls Tryz.prog 54 #[.agg #[.int .i64 a, .string B, .int .i64 c, .string P, .string Q, .bool f]] w fun e w' => e = .returned (.string (str (autR B.data.toList c))) ∧ Below w.heap.size w w' := by
  by_cases hc : c = -1
  · subst hc
    have HF : Hid (str (autR B.data.toList (-1)) = B) := (by show str B.data.toList = B; exact str_self B : _ = _)
    go_enter Tryz.func54, Tryz.ntmps54
    go_wp2
    go_ret
    rw [HF.out]
    exact ⟨rfl, (Below.refl _ w).alloc (Nat.le_refl _) _⟩
  · have hcb : (c == -1) = false := by simp [hc]
    have HF : Hid (str (autR B.data.toList c) = B ++ ⟨#[58]⟩ ++ str (Lib.itoa c)) := (by
      refine eq_list ?_
      unfold autR
      rw [str_list, if_neg hc]
      simp [ByteArray.toList_data_append, str_list] : _ = _)
    obtain ⟨w2, hw2⟩ : ∃ w2, w2 = w.alloc (.cells #[.int .i64 a, .string B, .int .i64 c, .string P, .string Q, .bool f] 23) := ⟨_, rfl⟩
    have R1 : w2.heap[w.heap.size]? = some (.cells #[.int .i64 a, .string B, .int .i64 c, .string P, .string Q, .bool f] 23 (0, 0)) := by rw [hw2]; exact World.alloc_heap_new w _
    have hz2 : w.heap.size < w2.heap.size := by rw [hw2]; simp
    have hb2 : Below w.heap.size w w2 := by rw [hw2]; exact (Below.refl _ w).alloc (Nat.le_refl _) _
    have HB2 : Hid (Below w.heap.size w w2) := hb2
    have HE2 : Hid (HE w2) := he.below hb2
    have HMc : Hid (∀ W, Below w2.heap.size w2 W → W.cell? ⟨w.heap.size, 1, none⟩ = some (.string B) ∧ W.cell? ⟨w.heap.size, 2, none⟩ = some (.int .i64 c)) := (fun W hW => by
      have R := (hW.block _ hz2).trans R1
      have e1 := Lib.cell_of_heap R 1
      have e2 := Lib.cell_of_heap R 2
      simp at e1 e2
      exact ⟨e1, e2⟩ : ∀ W, Below w2.heap.size w2 W → W.cell? ⟨w.heap.size, 1, none⟩ = some (.string B) ∧ W.cell? ⟨w.heap.size, 2, none⟩ = some (.int .i64 c))
    have HD : Hid (∀ W, Below w2.heap.size w2 W → Calls Tryz.prog 81 #[.int .i64 c] W fun e w' => e = .returned (.string (str (Lib.itoa c))) ∧ Below W.heap.size W w') := fun W hW => Digits_any c c0 c1 W (HE2.out.below hW).2
    have hdl : (str (Lib.itoa c)).size ≤ 22 := by
      rw [str_size]
      by_cases h0 : c = 0
      · subst h0; rw [itoa_zero]; decide
      · rw [itoa_decD c h0, List.length_append]
        have := decD_len c c0 c1
        split <;> simp <;> omega
    generalize str (Lib.itoa c) = D at *
    have HBn : Hid (Below w2.heap.size w2 w2) := Below.refl _ _
    have HBd : Hid (Below w2.heap.size w2 w2.drew) := (Below.refl _ w2).drew
    clear R1 hb2 he hc
    go_enter Tryz.func54, Tryz.ntmps54
    go_wp2_with fail
    rw [← hw2]
    clear hw2
    have sK : (⟨#[58]⟩ : ByteArray).size = 1 := rfl
    generalize (⟨#[58]⟩ : ByteArray) = K at *
    have n0 : ¬ (9223372036854775807 < B.size + K.size) := by omega
    have n1 := n0
    have n2 : ¬ (9223372036854775807 < B.size + K.size + D.size) := by omega
    have n3 : ¬ (9223372036854775807 < (B ++ K).size + D.size) := by rw [ByteArray.size_append]; omega
    clear sK n1 hB hdl
    go_region_held3 (fun W => W.cell? ⟨w.heap.size, 1, none⟩ = some (.string B) ∧ W.cell? ⟨w.heap.size, 2, none⟩ = some (.int .i64 c)) (first | exact HMc.out _ HBn.out | exact HMc.out _ HBd.out) (first | (go_at_call 81; refine (HD.out _ HBd.out).mono ?_; rintro e wn ⟨rfl, hbn⟩; have HBn : Hid (Below w2.heap.size w2 wn) := bel_trans HBd.out hbn; clear hbn))
    all_goals
      go_wp2
      go_ret
      rw [HF.out]
      exact ⟨rfl, HB2.out.trans (HBn.out.mono HB2.out.size)⟩

end Tg
end Go.Proofs.YtpnijigjlhfklaaGreatDoor
