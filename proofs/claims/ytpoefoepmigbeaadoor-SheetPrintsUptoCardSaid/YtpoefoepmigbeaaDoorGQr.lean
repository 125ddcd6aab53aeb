/-
  target: decodeSpaces, readPair.
-/
import Derived.Test.YtpoefoepmigbeaaDoorGSg
import Derived.Test.YtpoefoepmigbeaaDoorGPr
import Derived.Test.YtpoefoepmigbeaaDoorGPl8
import Derived.Lib.ReplaceLaws
set_option linter.unusedVariables false
set_option linter.unusedSimpArgs false
namespace Go.Proofs.YtpoefoepmigbeaaDoor
open Go.RowKit Go.Shelf
attribute [local go_sem] Oper.semAt_some
namespace Tg
open Oc

theorem Replace_sp (s : ByteArray) (hs : s.size ≤ 4000000000) (w : World) (h : ML w) :
    Calls Tryd.prog 19 #[.string s, .string ⟨#[43]⟩, .string ⟨#[32]⟩] w fun e w' => e = .returned (.string (str (s.data.toList.map sp))) ∧ Below w.heap.size w w' := by
  obtain ⟨m, hm⟩ := h
  have hc := Lib.countB_mul_le ⟨#[43]⟩ (by decide) s.size s (Nat.le_refl _)
  rw [show (⟨#[43]⟩ : ByteArray).size = 1 from rfl] at hc
  refine (Tryd.strings_ReplaceAll s ⟨#[43]⟩ ⟨#[32]⟩ m w (by omega) hm (by decide) (by rw [show (⟨#[32]⟩ : ByteArray).size = 1 from rfl]; omega)).mono ?_
  rintro e w' ⟨rfl, hb⟩
  rw [show (⟨#[43]⟩ : ByteArray).data.toList = [43] from rfl, show (⟨#[32]⟩ : ByteArray).data.toList = [32] from rfl, replace_sp]
  exact ⟨rfl, hb⟩

set_option maxRecDepth 100000 in
set_option maxHeartbeats 1000000 in
theorem decodeSpaces_any (s : ByteArray) (hs : s.size ≤ 4000000000) (w : World) (hm : ML w) :
    Calls Tryd.prog 47 #[.string s] w fun e w' => e = .returned (.string (str (spd s.data.toList))) ∧ Below w.heap.size w w' := by
  have HR : Hid (∀ w, ML w → _) := fun w h => Replace_sp s hs w h
  have HD : Hid (∀ w, _) := fun w => Decode_any (str (s.data.toList.map sp)) (by rw [str_size, List.length_map, size_list]; omega) w
  rw [str_list] at HD
  unfold spd
  generalize str (s.data.toList.map sp) = R at *
  generalize decR (s.data.toList.map sp) = D at *
  obtain ⟨D1, D2, D3⟩ := D
  dsimp only at HD ⊢
  go_enter Tryd.func47, Tryd.ntmps47
  go_wp2_with fail
  refine (HR.out _ hm).mono ?_
  rintro e w1 ⟨rfl, hb1⟩
  go_wp2_with fail
  refine (HD.out _).mono ?_
  rintro e w2 ⟨rfl, hb2⟩
  go_wp2
  go_ret
  exact ⟨rfl, hb1.trans (hb2.mono hb1.size)⟩

set_option maxRecDepth 100000 in
set_option maxHeartbeats 1000000 in
theorem readPair_any (s : ByteArray) (hs : s.size ≤ 4000000000) (w : World) (hm : ML w) :
    Calls Tryd.prog 29 #[.string s] w fun e w' => e = .returned (.agg #[.string (str (pairR s.data.toList).1), .string (str (pairR s.data.toList).2.1), .bool (pairR s.data.toList).2.2]) ∧ Below w.heap.size w w' := by
  have hla := cutA_len 61 s.data.toList
  have hlb := cutB_len 61 s.data.toList
  rw [size_list] at hla hlb
  have HC : Hid (∀ w, ML w → _) := fun w h => Cut_one s 61 hs w h
  have HA : Hid (∀ w, ML w → _) := fun w h => decodeSpaces_any (str (cutA 61 s.data.toList)) (by rw [str_size]; omega) w h
  have HB : Hid (∀ w, ML w → _) := fun w h => decodeSpaces_any (str (cutB 61 s.data.toList)) (by rw [str_size]; omega) w h
  rw [str_list] at HA HB
  unfold pairR
  dsimp only
  generalize str (cutA 61 s.data.toList) = a at *
  generalize str (cutB 61 s.data.toList) = b at *
  generalize has 61 s.data.toList = h at *
  generalize str (spd (cutA 61 s.data.toList)) = x at *
  generalize str (spd (cutB 61 s.data.toList)) = y at *
  clear hla hlb
  go_enter Tryd.func29, Tryd.ntmps29
  go_wp2_with fail
  refine (HC.out _ ?_).mono ?_
  · exact hm.below ((Below.refl _ _).alloc (Nat.le_refl _) _)
  rintro e w1 ⟨rfl, hb1⟩
  have hm1 : ML w1 := (hm.below ((Below.refl _ _).alloc (Nat.le_refl _) _)).below hb1
  have hB1 : Below w.heap.size w w1 := ((Below.refl _ w).alloc (Nat.le_refl _) _).trans (hb1.mono (by simp))
  have k0 : w1.cell? ⟨w.heap.size, 0, none⟩ = some (.string ⟨#[]⟩) := (hb1.cell (p := ⟨w.heap.size, 0, none⟩) (by simp)).trans (by simp)
  have f0 : ∀ j : Nat, j < 3 → w1.frozen? ⟨w.heap.size, j, none⟩ = false := fun j hj => (hb1.frozen (p := ⟨w.heap.size, j, none⟩) (by simp)).trans (by simp)
  have k1 : w1.cell? ⟨w.heap.size, 1, none⟩ = some (.string ⟨#[]⟩) := (hb1.cell (p := ⟨w.heap.size, 1, none⟩) (by simp)).trans (by simp)
  have k2 : w1.cell? ⟨w.heap.size, 2, none⟩ = some (.bool false) := (hb1.cell (p := ⟨w.heap.size, 2, none⟩) (by simp)).trans (by simp)
  have hsz : w.heap.size < w1.heap.size := by have := hb1.size; simp at this; omega
  clear hb1
  go_wp2_with fail
  refine (HA.out _ hm1).mono ?_
  rintro e w2 ⟨rfl, hb2⟩
  have hm2 := hm1.below hb2
  go_wp2_with fail
  refine (HB.out _ hm2).mono ?_
  rintro e w3 ⟨rfl, hb3⟩
  have hb := hb2.trans (hb3.mono hb2.size)
  have K0 : w3.cell? ⟨w.heap.size, 0, none⟩ = some (.string ⟨#[]⟩) := (hb.cell (p := ⟨w.heap.size, 0, none⟩) hsz).trans k0
  have K1 : w3.cell? ⟨w.heap.size, 1, none⟩ = some (.string ⟨#[]⟩) := (hb.cell (p := ⟨w.heap.size, 1, none⟩) hsz).trans k1
  have K2 : w3.cell? ⟨w.heap.size, 2, none⟩ = some (.bool false) := (hb.cell (p := ⟨w.heap.size, 2, none⟩) hsz).trans k2
  have F0 : w3.frozen? ⟨w.heap.size, 0, none⟩ = false := (hb.frozen (p := ⟨w.heap.size, 0, none⟩) hsz).trans (f0 0 (by omega))
  have F1 : w3.frozen? ⟨w.heap.size, 1, none⟩ = false := (hb.frozen (p := ⟨w.heap.size, 1, none⟩) hsz).trans (f0 1 (by omega))
  have F2 : w3.frozen? ⟨w.heap.size, 2, none⟩ = false := (hb.frozen (p := ⟨w.heap.size, 2, none⟩) hsz).trans (f0 2 (by omega))
  have hB3 : Below w.heap.size w w3 := hB1.trans (hb.mono hB1.size)
  have hsz3 : w.heap.size < w3.heap.size := Nat.lt_of_lt_of_le hsz hb.size
  clear f0 k0 k1 k2
  go_wp2
  refine bodyPost_ret (v := .agg #[.string x, .string y, .bool h]) (by simp [results, Tryd.results29, go_sem, K0, K1, K2, hsz3]) rfl ⟨rfl, ?_⟩
  exact ((hB3.setCell (Nat.le_refl _) _).setCell (Nat.le_refl _) _).setCell (Nat.le_refl _) _

end Tg
end Go.Proofs.YtpoefoepmigbeaaDoor
