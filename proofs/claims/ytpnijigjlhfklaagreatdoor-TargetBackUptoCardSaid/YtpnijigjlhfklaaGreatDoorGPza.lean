/-
  target: written (towards TargetPrints, TargetBack).
-/
import Derived.Test.YtpnijigjlhfklaaGreatDoorGPz
set_option linter.unusedVariables false
set_option linter.unusedSimpArgs false
set_option maxRecDepth 100000
namespace Go.Proofs.YtpnijigjlhfklaaGreatDoor
open Go.RowKit Go.Shelf
namespace Tg
open Oc

def getL : List UInt8 := [71, 69, 84]
/-- A target as text, and the method with which it is read. -/
def wrtR (form : Int) (host : List UInt8) (port : Int) (path query : List UInt8) (hq : Bool) : List UInt8 × List UInt8 :=
  if form = 1 then (getL, plcR path query hq)
  else if form = 2 then (getL, httpL ++ autR host port ++ plcR path query hq)
  else if form = 3 then (conL, autR host port)
  else if form = 4 then (optL, [42])
  else (getL, [])
theorem itoa_len (c : Int) (c0 : -9223372036854775808 ≤ c) (c1 : c ≤ 9223372036854775807) : (Lib.itoa c).length ≤ 22 := by
  by_cases h0 : c = 0
  · subst h0; rw [itoa_zero]; decide
  · rw [itoa_decD c h0, List.length_append]
    have := decD_len c c0 c1
    split <;> simp <;> omega
theorem autR_len (h : List UInt8) (c : Int) (c0 : -9223372036854775808 ≤ c) (c1 : c ≤ 9223372036854775807) : (autR h c).length ≤ h.length + 23 := by
  have := itoa_len c c0 c1
  unfold autR
  split
  · omega
  · rw [List.length_append, List.length_cons]; omega
theorem plcR_len (p q : List UInt8) (h : Bool) : (plcR p q h).length ≤ p.length + q.length + 1 := by
  unfold plcR
  split
  · rw [List.length_append, List.length_cons]; omega
  · omega

set_option maxHeartbeats 4000000 in
theorem written_any (a c : Int) (B P Q : ByteArray) (f : Bool) (hB : B.size ≤ 1048576) (hP : P.size ≤ 1048576) (hQ : Q.size ≤ 1048576) (c0 : -9223372036854775808 ≤ c) (c1 : c ≤ 9223372036854775807) (w : World) (he : HE w) :
    Calls Tryz.prog 28 #[.agg #[.int .i64 a, .string B, .int .i64 c, .string P, .string Q, .bool f]] w fun e w' => e = .returned (.tuple #[.string (str (wrtR a B.data.toList c P.data.toList Q.data.toList f).1), .string (str (wrtR a B.data.toList c P.data.toList Q.data.toList f).2)]) ∧ Below w.heap.size w w' := by
  obtain ⟨w2, hw2⟩ : ∃ w2, w2 = w.alloc (.cells #[.int .i64 a, .string B, .int .i64 c, .string P, .string Q, .bool f] 23) := ⟨_, rfl⟩
  have R1 : w2.heap[w.heap.size]? = some (.cells #[.int .i64 a, .string B, .int .i64 c, .string P, .string Q, .bool f] 23 (0, 0)) := by rw [hw2]; exact World.alloc_heap_new w _
  have hz2 : w.heap.size < w2.heap.size := by rw [hw2]; simp
  have hb2 : Below w.heap.size w w2 := by rw [hw2]; exact (Below.refl _ w).alloc (Nat.le_refl _) _
  have HB2 : Hid (Below w.heap.size w w2) := hb2
  have HE2 : Hid (HE w2) := he.below hb2
  have HMc : Hid (∀ W, Below w2.heap.size w2 W → W.cell? ⟨w.heap.size, 0, none⟩ = some (.int .i64 a) ∧ W.cell? ⟨w.heap.size, 1, none⟩ = some (.string B) ∧ W.cell? ⟨w.heap.size, 2, none⟩ = some (.int .i64 c) ∧ W.cell? ⟨w.heap.size, 3, none⟩ = some (.string P) ∧ W.cell? ⟨w.heap.size, 4, none⟩ = some (.string Q) ∧ W.cell? ⟨w.heap.size, 5, none⟩ = some (.bool f)) := (fun W hW => by
    have R := (hW.block _ hz2).trans R1
    have e0 := Lib.cell_of_heap R 0
    have e1 := Lib.cell_of_heap R 1
    have e2 := Lib.cell_of_heap R 2
    have e3 := Lib.cell_of_heap R 3
    have e4 := Lib.cell_of_heap R 4
    have e5 := Lib.cell_of_heap R 5
    simp at e0 e1 e2 e3 e4 e5
    exact ⟨e0, e1, e2, e3, e4, e5⟩ : ∀ W, Below w2.heap.size w2 W → W.cell? ⟨w.heap.size, 0, none⟩ = some (.int .i64 a) ∧ W.cell? ⟨w.heap.size, 1, none⟩ = some (.string B) ∧ W.cell? ⟨w.heap.size, 2, none⟩ = some (.int .i64 c) ∧ W.cell? ⟨w.heap.size, 3, none⟩ = some (.string P) ∧ W.cell? ⟨w.heap.size, 4, none⟩ = some (.string Q) ∧ W.cell? ⟨w.heap.size, 5, none⟩ = some (.bool f))
  have HA : Hid (∀ W, Below w2.heap.size w2 W → Calls Tryz.prog 54 #[.agg #[.int .i64 a, .string B, .int .i64 c, .string P, .string Q, .bool f]] W fun e w' => e = .returned (.string (str (autR B.data.toList c))) ∧ Below W.heap.size W w') := fun W hW => authorityOf_any a c B P Q f (by omega) c0 c1 W (HE2.out.below hW)
  have HP : Hid (∀ W, Calls Tryz.prog 53 #[.agg #[.int .i64 a, .string B, .int .i64 c, .string P, .string Q, .bool f]] W fun e w' => e = .returned (.string (str (plcR P.data.toList Q.data.toList f))) ∧ Below W.heap.size W w') := fun W => placeOf_any a c B P Q f (by omega) (by omega) W
  have lA := autR_len B.data.toList c c0 c1
  have lP := plcR_len P.data.toList Q.data.toList f
  rw [size_list, ← str_size] at lA
  rw [size_list, size_list, ← str_size] at lP
  have HBn : Hid (Below w2.heap.size w2 w2) := Below.refl _ _
  have HBd : Hid (Below w2.heap.size w2 w2.drew) := (Below.refl _ w2).drew
  clear R1 hb2 he
  by_cases h1 : a = 1
  · subst h1
    have HW : Hid (wrtR 1 B.data.toList c P.data.toList Q.data.toList f = (getL, plcR P.data.toList Q.data.toList f)) := (rfl : _ = _)
    rw [HW.out]
    dsimp only
    generalize str (plcR P.data.toList Q.data.toList f) = PT at *
    go_enter Tryz.func28, Tryz.ntmps28
    go_wp2_with fail
    rw [← hw2]
    refine (HP.out _).mono ?_
    rintro e w3 ⟨rfl, hb3⟩
    have HB3 : Hid (Below w2.heap.size w2 w3) := hb3
    clear hb3
    go_wp2
    go_ret2
    exact ⟨rfl, HB2.out.trans (HB3.out.mono HB2.out.size)⟩
  have e1 : (a == 1) = false := by simp [h1]
  by_cases h2 : a = 2
  · subst h2
    have HW : Hid (str (wrtR 2 B.data.toList c P.data.toList Q.data.toList f).2 = ⟨#[104, 116, 116, 112, 58, 47, 47]⟩ ++ str (autR B.data.toList c) ++ str (plcR P.data.toList Q.data.toList f)) := (by
      refine eq_list ?_
      rw [str_list]
      simp [wrtR, httpL, ByteArray.toList_data_append, str_list] : _ = _)
    have HW1 : Hid ((wrtR 2 B.data.toList c P.data.toList Q.data.toList f).1 = getL) := (rfl : _ = _)
    rw [HW.out, HW1.out]
    clear HW HW1
    generalize str (plcR P.data.toList Q.data.toList f) = PT at *
    generalize str (autR B.data.toList c) = AT at *
    have sK : (⟨#[104, 116, 116, 112, 58, 47, 47]⟩ : ByteArray).size = 7 := rfl
    go_enter Tryz.func28, Tryz.ntmps28
    go_wp2_with fail
    rw [← hw2]
    clear hw2
    generalize hK : (⟨#[104, 116, 116, 112, 58, 47, 47]⟩ : ByteArray) = K at *
    have HK : Hid (K = ⟨#[104, 116, 116, 112, 58, 47, 47]⟩) := hK.symm
    clear hK
    have n1 : ¬ (9223372036854775807 < K.size + AT.size) := by omega
    have n2 : ¬ (9223372036854775807 < K.size + AT.size + PT.size) := by omega
    have n3 : ¬ (9223372036854775807 < (K ++ AT).size + PT.size) := by rw [ByteArray.size_append]; omega
    clear sK lA lP hB hP hQ
    go_region_held3 (fun W => W.cell? ⟨w.heap.size, 0, none⟩ = some (.int .i64 2) ∧ W.cell? ⟨w.heap.size, 1, none⟩ = some (.string B) ∧ W.cell? ⟨w.heap.size, 2, none⟩ = some (.int .i64 c) ∧ W.cell? ⟨w.heap.size, 3, none⟩ = some (.string P) ∧ W.cell? ⟨w.heap.size, 4, none⟩ = some (.string Q) ∧ W.cell? ⟨w.heap.size, 5, none⟩ = some (.bool f)) (first | exact HMc.out _ HBn.out | exact HMc.out _ HBd.out)
      (first
        | (go_at_call 54; first | refine (HA.out _ HBn.out).mono ?_ | refine (HA.out _ HBd.out).mono ?_; rintro e wn ⟨rfl, hbn⟩; have HBd : Hid (Below w2.heap.size w2 wn) := bel_trans (by first | exact HBn.out | exact HBd.out) hbn; have HBn : Hid (Below w2.heap.size w2 wn) := HBd; clear hbn)
        | (go_at_call 53; refine (HP.out _).mono ?_; rintro e wm ⟨rfl, hbm⟩; have HBd : Hid (Below w2.heap.size w2 wm) := bel_trans (by first | exact HBn.out | exact HBd.out) hbm; have HBn : Hid (Below w2.heap.size w2 wm) := HBd; clear hbm))
    all_goals
      go_wp2
      go_ret2
      have hK := HK.out
      subst hK
      exact ⟨rfl, HB2.out.trans (HBn.out.mono HB2.out.size)⟩
  have e2 : (a == 2) = false := by simp [h2]
  by_cases h3 : a = 3
  · subst h3
    have HW : Hid (wrtR 3 B.data.toList c P.data.toList Q.data.toList f = (conL, autR B.data.toList c)) := (rfl : _ = _)
    rw [HW.out]
    dsimp only
    generalize str (autR B.data.toList c) = AT at *
    go_enter Tryz.func28, Tryz.ntmps28
    go_wp2_with fail
    rw [← hw2]
    refine (HA.out _ HBn.out).mono ?_
    rintro e w3 ⟨rfl, hb3⟩
    have HB3 : Hid (Below w2.heap.size w2 w3) := hb3
    clear hb3
    go_wp2
    go_ret2
    exact ⟨rfl, HB2.out.trans (HB3.out.mono HB2.out.size)⟩
  have e3 : (a == 3) = false := by simp [h3]
  by_cases h4 : a = 4
  · subst h4
    have HW : Hid (wrtR 4 B.data.toList c P.data.toList Q.data.toList f = (optL, [42])) := (rfl : _ = _)
    rw [HW.out]
    clear hw2
    go_enter Tryz.func28, Tryz.ntmps28
    go_wp2
    go_ret2
    exact ⟨rfl, (Below.refl _ w).alloc (Nat.le_refl _) _⟩
  have e4 : (a == 4) = false := by simp [h4]
  have HW : Hid (wrtR a B.data.toList c P.data.toList Q.data.toList f = (getL, [])) := (by unfold wrtR; rw [if_neg h1, if_neg h2, if_neg h3, if_neg h4] : _ = _)
  rw [HW.out]
  clear hw2
  go_enter Tryz.func28, Tryz.ntmps28
  go_wp2
  go_ret2
  exact ⟨rfl, (Below.refl _ w).alloc (Nat.le_refl _) _⟩

end Tg
end Go.Proofs.YtpnijigjlhfklaaGreatDoor
