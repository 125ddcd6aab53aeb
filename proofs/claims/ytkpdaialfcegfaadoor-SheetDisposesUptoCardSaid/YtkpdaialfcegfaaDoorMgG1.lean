/- Several texts as one. -/
import Derived.Test.YtkpdaialfcegfaaDoorMgF1
import Derived.Test.YtkpdaialfcegfaaDoorDsC
/-
  The laws of sheet's pairs: IsBoundary of "B", awake, the law's pairs.
-/
set_option linter.unusedVariables false
set_option linter.unusedSimpArgs false
namespace Go.Proofs.YtkpdaialfcegfaaDoor
open Go.RowKit Go.Shelf
namespace Tg
open Oc

set_option maxRecDepth 100000 in
set_option maxHeartbeats 1000000 in
theorem pairs15_any (v1 v2 : Value) (t : List Prm) (w : World) (h1 : RdQ v1 t w) (h2 : RdQ v2 t w) (hl : t.length ≤ 4294967296) :
    Calls Tryd.prog 11 #[v1, v2] w fun e w' => e = .returned (.bool true) ∧ ∃ n, w' = w.drewN n := by
  obtain ⟨a1, c1, rfl, h1⟩ := h1
  obtain ⟨a2, c2, rfl, h2⟩ := h2
  have hne : ((t.length : Int) != (t.length : Int)) = false := by simp
  go_enter Tryd.func11, Tryd.ntmps11
  go_wp2
  go_loopw [5] (fun i wr => ∃ k : Nat, k ≤ t.length ∧ i = .int .i64 k ∧ Hid (∃ n, wr = w.drewN n)) (fun i _ => t.length - (intOf i).toNat)
  case atStart => exact ⟨0, Nat.zero_le _, rfl, (⟨0, rfl⟩ : ∃ n, w = w.drewN n)⟩
  case round =>
    obtain ⟨k, hk, rfl, hw⟩ := hrel
    obtain ⟨n, rfl⟩ := hw.out
    clear hw
    by_cases hlt : k < t.length
    · rcases h1 with h | ⟨g1, o1, rfl, hc1, hcell1⟩
      · rw [h] at hlt; simp at hlt
      rcases h2 with h | ⟨g2, o2, rfl, hc2, hcell2⟩
      · rw [h] at hlt; simp at hlt
      obtain ⟨p0, p1, p2⟩ := hcell1 k hlt
      obtain ⟨q0, q1, q2⟩ := hcell2 k hlt
      clear hcell1 hcell2
      generalize str (nth t k).1 = x at p0 q0
      generalize str (nth t k).2.1 = y at p1 q1
      generalize (nth t k).2.2 = z at p2 q2
      have hz : (z != z) = false := by simp
      go_wp2_with fail
      go_quiet (fail)
      go_wp2
      go_roundw
      case rel => exact ⟨k + 1, by omega, by go_num, drawn_again w _ _⟩
      case measure => simp [intOf]; omega
    · go_wp2
      go_ret
      exact ⟨rfl, _, rfl⟩


/-- The signs of a boundary. -/
def bndS : ByteArray := ⟨#[65, 66, 67, 68, 69, 70, 71, 72, 73, 74, 75, 76, 77, 78, 79, 80, 81, 82, 83, 84, 85, 86, 87, 88, 89, 90, 97, 98, 99, 100, 101, 102, 103, 104, 105, 106, 107, 108, 109, 110, 111, 112, 113, 114, 115, 116, 117, 118, 119, 120, 121, 122, 48, 49, 50, 51, 52, 53, 54, 55, 56, 57, 39, 40, 41, 43, 95, 44, 45, 46, 47, 58, 61, 63]⟩
theorem TrimB (w : World) : Calls Tryd.prog 33 #[.string ⟨#[66]⟩, .string bndS] w fun e w' => e = .returned (.string ⟨#[]⟩) ∧ Below w.heap.size w w' := by
  have hcon := Any.strings_TrimLeft_laid Tryd.lays161 (by kernel_rfl) ⟨#[66]⟩ bndS w (by decide) (ascii_of_all (by decide))
  exact hcon

set_option maxRecDepth 100000 in
set_option maxHeartbeats 1000000 in
theorem IsBoundary_B (w : World) : Calls Tryd.prog 15 #[.string ⟨#[66]⟩] w fun e w' => e = .returned (.bool true) ∧ Below w.heap.size w w' := by
  have HT : Hid (∀ w, _) := fun w => TrimB w
  unfold bndS at HT
  go_enter Tryd.func15, Tryd.ntmps15
  go_wp2_with fail
  refine (HT.out _).mono ?_
  rintro e w1 ⟨rfl, hb1⟩
  go_wp2
  go_ret
  exact ⟨rfl, hb1⟩

theorem awake_whole : whole [97, 61, 98, 43, 99] = true := by
  rw [whole_cons (by decide), whole_cons (by decide), whole_cons (by decide), whole_cons (by decide), whole_cons (by decide)]
  exact whole_nil
theorem awake_dec (c : UInt8) (h : c ≠ 37) : decR [c] = ([c], 0, 0) := by
  rw [decR_whole _ (by rw [whole_cons h]; exact whole_nil), zs_one c [] (trip_ne h []), zs_nil]; rfl
theorem awake_shp : shpR [97, 61, 98, 43, 99] = ([([97], [98, 32, 99], true)], 0, 0) := by
  unfold shpR
  rw [awake_whole, if_pos rfl]
  have e1 : splitB 38 [97, 61, 98, 43, 99] = [[97, 61, 98, 43, 99]] := by decide +kernel
  have e2 : cutA 61 [97, 61, 98, 43, 99] = [97] ∧ cutB 61 [97, 61, 98, 43, 99] = [98, 43, 99] ∧ has 61 [97, 61, 98, 43, 99] = true := by decide +kernel
  have e3 : ([97] : List UInt8).map sp = [97] ∧ ([98, 43, 99] : List UInt8).map sp = [98, 32, 99] := by decide +kernel
  have e4 : decR [98, 32, 99] = ([98, 32, 99], 0, 0) := by
    rw [decR_whole _ (by rw [whole_cons (by decide), whole_cons (by decide), whole_cons (by decide)]; exact whole_nil), zs_one _ _ (trip_ne (by decide) _), zs_one _ _ (trip_ne (by decide) _), zs_one _ _ (trip_ne (by decide) _), zs_nil]
    rfl
  unfold pairsR
  rw [e1]
  simp only [List.filter_cons, List.filter_nil, ne_eq, reduceCtorEq, not_false_eq_true, decide_true, if_true, List.map_cons, List.map_nil]
  unfold pairR spd
  rw [e2.1, e2.2.1, e2.2.2, e3.1, e3.2, awake_dec 97 (by decide), e4]

set_option maxRecDepth 100000 in
set_option maxHeartbeats 2000000 in
theorem awake15_any (w : World) (hm : ML w) :
    Calls Tryd.prog 10 #[] w fun e w' => e = .returned (.bool true) ∧ Below w.heap.size w w' := by
  have HP : Hid (Calls Tryd.prog 8 #[.string ⟨#[97, 61, 98, 43, 99]⟩] w fun e w' => ∃ v, e = .returned (.tuple #[v, .int .i64 0, .int .i64 0]) ∧ OwnQ 58 w.heap.size v [([97], [98, 32, 99], true)] w' ∧ Below w.heap.size w w') := by
    have h := Pairs_any ⟨#[97, 61, 98, 43, 99]⟩ (by decide) w hm
    rw [show (⟨#[97, 61, 98, 43, 99]⟩ : ByteArray).data.toList = [97, 61, 98, 43, 99] from rfl, awake_shp] at h
    exact h
  have HI : Hid (∀ w, _) := fun w => IsBoundary_B w
  clear hm
  go_enter Tryd.func10, Tryd.ntmps10
  go_wp2_with fail
  refine HP.out.mono ?_
  rintro e w1 ⟨v, rfl, ho, hb1⟩
  obtain ⟨a, c, rfl, hr⟩ := ho.rd
  obtain ⟨g, o, rfl, hc, hcell⟩ : ∃ g o, a = some ⟨g, o, none⟩ ∧ [(([97] : List UInt8), ([98, 32, 99] : List UInt8), true)].length ≤ c ∧ ∀ j, j < [(([97] : List UInt8), ([98, 32, 99] : List UInt8), true)].length → w1.cell? ⟨g, o + j * 3, none⟩ = some (.string (str (nth [([97], [98, 32, 99], true)] j).1)) ∧ w1.cell? ⟨g, o + j * 3 + 1, none⟩ = some (.string (str (nth [([97], [98, 32, 99], true)] j).2.1)) ∧ w1.cell? ⟨g, o + j * 3 + 2, none⟩ = some (.bool (nth [([97], [98, 32, 99], true)] j).2.2) := by
    rcases hr with h | h
    · cases h
    · exact h
  obtain ⟨c0, c1, c2⟩ := hcell 0 (by decide)
  have c0' : w1.cell? ⟨g, o, none⟩ = some (.string ⟨#[97]⟩) := c0
  have c1' : w1.cell? ⟨g, o + 1, none⟩ = some (.string ⟨#[98, 32, 99]⟩) := by have := c1; rw [Nat.zero_mul, Nat.add_zero] at this; exact this
  have c2' : w1.cell? ⟨g, o + 2, none⟩ = some (.bool true) := by have := c2; rw [Nat.zero_mul, Nat.add_zero] at this; exact this
  have hc1 : 1 ≤ c := hc
  have HB1 : Hid (Below w.heap.size w w1) := hb1
  clear c0 c1 c2 hcell hr hb1 ho hc
  have hln : [(([97] : List UInt8), ([98, 32, 99] : List UInt8), true)].length = 1 := rfl
  rw [hln]
  clear hln
  go_wp2_with fail
  refine (HI.out _).mono ?_
  rintro e w2 ⟨rfl, hb2⟩
  go_wp2
  go_ret
  exact ⟨rfl, HB1.out.trans (hb2.mono HB1.out.size)⟩

theorem qs_pairs_len (l : List UInt8) : (pairsR l).length ≤ l.length + 1 := by
  unfold pairsR
  rw [List.length_map]
  exact Nat.le_trans (List.length_filter_le _ _) (split_len 38 l)
theorem shpR_len (l : List UInt8) : (shpR l).1.length ≤ l.length + 1 := by
  unfold shpR
  split
  · exact qs_pairs_len l
  · exact Nat.zero_le _

end Tg
end Go.Proofs.YtkpdaialfcegfaaDoor

/-
  The law SheetDisposes.
-/
set_option linter.unusedVariables false
set_option linter.unusedSimpArgs false
namespace Go.Proofs.YtkpdaialfcegfaaDoor
open Go.RowKit Go.Shelf
namespace Ds
open Oc

theorem rdq {v : Value} {t : List Prm} {w : World} (h : RdP v t w) : Tg.RdQ v t w := h
theorem disR_len (l : List UInt8) : (disR l).2.1.length ≤ l.length := by
  unfold disR
  dsimp only
  split
  · exact Nat.zero_le _
  · show (List.map lowN _).length ≤ _
    rw [List.length_map]
    have h1 := paramsR_short ((trim l).drop (tokLen (trim l)))
    have h2 := trim_le l
    rw [List.length_drop] at h1
    omega

set_option maxRecDepth 100000 in
set_option maxHeartbeats 2000000 in
theorem walk_SheetDisposes (s : ByteArray) (hs : s.size ≤ 1048576) (w : World) (ht : Tab w) (hm : Tg.ML w) :
    Calls Tryd.prog 6 #[.string s] w fun e w' => e = .returned (.bool true) ∧ Below w.heap.size w w' := by
  have HA : Hid (∀ w, Tg.ML w → _) := fun w h => Tg.awake15_any w h
  have HQ : Hid (∀ w, Tab w → Tg.ML w → _) := fun w t h => Disposition_any s (by omega) w t h
  have HR : Hid (∀ w, _) := fun w => rDisposition_any s (by omega) w
  have hl := disR_len s.data.toList
  rw [size_list] at hl
  have HM : Hid (Tg.ML w) := hm
  have HT : Hid (Tab w) := ht
  clear hm ht
  generalize disR s.data.toList = q at *
  obtain ⟨q1, q2, q3⟩ := q
  dsimp only at HQ HR hl
  generalize str q1 = X at *
  go_enter Tryd.func6, Tryd.ntmps6
  go_wp2_with fail
  refine (HQ.out _ HT.out HM.out).mono ?_
  rintro e w1 ⟨v1, rfl, o1, k1⟩
  have HB1 : Hid (Below w.heap.size w w1) := k1
  have r1 : Hid (RdP v1 q2 w1) := OwnP.rd o1
  have O1 : Hid (OwnP 58 w.heap.size v1 q2 w1) := o1
  clear o1 k1
  go_wp2_with fail
  refine (HR.out _).mono ?_
  rintro e w2 ⟨v2, rfl, o2, k2⟩
  have HB2 : Hid (Below w.heap.size w w2) := HB1.out.trans (k2.mono HB1.out.size)
  have O12 : Hid (OwnP 58 w.heap.size v1 q2 w2) := Oc.OwnP.below O1.out k2
  have O2 : Hid (OwnP 59 w1.heap.size v2 q2 w2) := o2
  clear o2 k2
  go_wp2_with fail
  refine (HA.out _ (HM.out.below HB2.out)).mono ?_
  rintro e w3 ⟨rfl, k3⟩
  have HB3 : Hid (Below w.heap.size w w3) := HB2.out.trans (k3.mono HB2.out.size)
  have HP : Hid (Calls Tryd.prog 11 #[v1, v2] w3 fun e w' => e = .returned (.bool true) ∧ ∃ n, w' = w3.drewN n) := Tg.pairs15_any v1 v2 q2 w3 (rdq (OwnP.rd (Oc.OwnP.below O12.out k3))) (rdq (OwnP.rd (Oc.OwnP.below O2.out k3))) (by omega)
  clear k3
  go_wp2_with fail
  refine Calls.mono HP.out ?_
  rintro e w4 ⟨rfl, n, rfl⟩
  go_wp2
  go_ret
  exact ⟨rfl, HB3.out.trans ⟨rfl, rfl, rfl, Nat.le_refl _, fun _ _ => rfl⟩⟩

end Ds
end Go.Proofs.YtkpdaialfcegfaaDoor
