/-
  Canon, and the document's.
-/
import Derived.Test.YtojahhmdfbfnfaaDoorFR1
set_option linter.unusedVariables false
set_option linter.unusedSimpArgs false
namespace Go.Proofs.YtojahhmdfbfnfaaDoor
open Go.RowKit
namespace Fd
open Oc

/-- The byte at a place of a text of small letters, as a capital one where a piece begins. -/
def capI (t : ByteArray) (j : Nat) : Int := if 97 ≤ byt t j ∧ byt t j ≤ 122 ∧ (j = 0 ∨ byt t (j - 1) = 45) then byt t j - 32 else byt t j
def canonL (t : ByteArray) : List UInt8 := (List.range t.size).map fun j => UInt8.ofNat (capI t j).toNat
def canonS (s : ByteArray) : ByteArray := str (canonL (lowS s))

theorem capI_bd (t : ByteArray) (j : Nat) : 0 ≤ capI t j ∧ capI t j ≤ 255 := by
  have := byt_bd t j
  unfold capI
  split <;> omega
theorem capI_dash (t : ByteArray) (j : Nat) : (capI t j = 45) ↔ (byt t j = 45) := by
  unfold capI
  split <;> omega
theorem capI_up {t : ByteArray} {j : Nat} (h : 97 ≤ byt t j ∧ byt t j ≤ 122 ∧ (j = 0 ∨ byt t (j - 1) = 45)) : capI t j = byt t j - 32 := by unfold capI; rw [if_pos h]
theorem capI_not {t : ByteArray} {j : Nat} (h : ¬ (97 ≤ byt t j ∧ byt t j ≤ 122 ∧ (j = 0 ∨ byt t (j - 1) = 45))) : capI t j = byt t j := by unfold capI; rw [if_neg h]
theorem canonL_len (t : ByteArray) : (canonL t).length = t.size := by unfold canonL; simp
theorem canonL_at (t : ByteArray) (j : Nat) (h : j < t.size) : (((canonL t).getD j 0).toNat : Int) = capI t j := by
  unfold canonL
  rw [List.getD_eq_getElem?_getD, List.getElem?_map, List.getElem?_range h]
  have := capI_bd t j
  simp [UInt8.toNat_ofNat']
  omega
theorem cap_next (t : ByteArray) (k : Nat) : ∀ j, j < t.size → (if j < k + 1 then capI t j else byt t j) = if j = k then capI t k else if j < k then capI t j else byt t j := by
  intro j hj
  by_cases hjk : j = k
  · subst hjk; rw [if_pos (by omega), if_pos rfl]
  · rw [if_neg hjk]
    by_cases h2 : j < k
    · rw [if_pos (by omega), if_pos h2]
    · rw [if_neg (by omega), if_neg h2]

set_option maxRecDepth 100000 in
set_option maxHeartbeats 1000000 in
theorem Canon_any (s : ByteArray) (hs : s.size ≤ maxLen) (w : World) :
    Calls Tryd.prog 14 #[.string s] w fun e w' => e = .returned (.string (canonS s)) ∧ Below w.heap.size w w' := by
  have HL : Hid (Calls Tryd.prog 52 #[.string s] w fun e w' => e = .returned (.string (lowS s)) ∧ Below w.heap.size w w') := Lower_any s hs w
  unfold canonS
  have hs2 : (lowS s).size ≤ maxLen := by rw [lowS_size]; exact hs
  clear hs
  unfold maxLen at hs2
  generalize lowS s = t at *
  have hcv := fun w => Lib.run_convert_string_bytes (P := Tryd.prog) w 9 71 5 t Tryd.underlying9 Tryd.underlying71 Tryd.underlying5
  go_enter Tryd.func14, Tryd.ntmps14
  go_wp2_with fail
  refine HL.out.mono ?_
  rintro e w1 ⟨rfl, hb1⟩
  have HB1 : Hid (Below w.heap.size w w1) := hb1
  clear hb1
  have HB2 : Hid (Below w.heap.size w (Lib.bytesWorld w1 5 t)) := bel_trans HB1.out (below_bytes w1 5 t)
  have HR : Hid (Row (Lib.bytesWorld w1 5 t) w1.heap.size t.size (byt t)) := bytes_row w1 5 t
  have hle : w.heap.size ≤ w1.heap.size := HB1.out.size
  go_wp2
  go_loopw [11] (fun i wr => ∃ k : Nat, k ≤ t.size ∧ i = .int .i64 k ∧ Hid (Row wr w1.heap.size t.size (fun j => if j < k then capI t j else byt t j)) ∧ Hid (Below w.heap.size w wr)) (fun i _ => t.size - (intOf i).toNat)
  case atStart => exact ⟨0, Nat.zero_le _, rfl, (by simpa using HR.out : Row _ _ _ _), HB2⟩
  case round =>
    obtain ⟨k, hk, rfl, hrow, hbel⟩ := hrel
    clear HR HB2 hcv
    by_cases hlt : k < t.size
    · have hck : wr.cell? ⟨w1.heap.size, k, none⟩ = some (.int .u8 (byt t k)) := by
        have := hrow.out.cell k hlt
        rwa [if_neg (by omega)] at this
      have hfk := hrow.out.free k hlt
      obtain ⟨b0, b1⟩ := byt_bd t k
      have HN : Hid (∀ j, j < t.size → (if j < k + 1 then capI t j else byt t j) = if j = k then capI t k else if j < k then capI t j else byt t j) := cap_next t k
      have HU : 97 ≤ byt t k ∧ byt t k ≤ 122 ∧ (k = 0 ∨ byt t (k - 1) = 45) → Hid (capI t k = byt t k - 97 + 65) := fun h => (by rw [capI_up h]; omega : capI t k = _)
      have HS : ¬ (97 ≤ byt t k ∧ byt t k ≤ 122 ∧ (k = 0 ∨ byt t (k - 1) = 45)) → Hid (Row wr w1.heap.size t.size (fun j => if j < k + 1 then capI t j else byt t j)) := fun h => by
        refine ⟨fun j hj => ?_, hrow.out.free⟩
        rw [hrow.out.cell j hj, HN.out j hj]
        by_cases hjk : j = k
        · subst hjk; rw [if_neg (by omega), if_pos rfl, capI_not h]
        · rw [if_neg hjk]
      by_cases h97 : 97 ≤ byt t k
      · by_cases h122 : byt t k ≤ 122
        · by_cases hk0 : k = 0
          · have E1 := HU ⟨h97, h122, .inl hk0⟩
            clear HU HS
            subst hk0
            go_wp2
            go_roundw
            case rel => exact ⟨1, by omega, by go_num, hrow.out.set 0 hlt _ _ (by rw [← E1.out]; exact HN.out), hbel.out.setCell hle _⟩
            case measure => simp [intOf]; omega
          · have hpk : wr.cell? ⟨w1.heap.size, k - 1, none⟩ = some (.int .u8 (capI t (k - 1))) := by
              have := hrow.out.cell (k - 1) (by omega)
              rwa [if_pos (by omega)] at this
            have hcast : ((k : Int) - 1) = ((k - 1 : Nat) : Int) := by omega
            have hkz : ((k : Int) == 0) = false := by simp; omega
            obtain ⟨p0, p1⟩ := capI_bd t (k - 1)
            by_cases hd : byt t (k - 1) = 45
            · have E1 := HU ⟨h97, h122, .inr hd⟩
              have hq : capI t (k - 1) = 45 := (capI_dash t (k - 1)).2 hd
              clear HU HS hd
              generalize capI t (k - 1) = pv at *
              subst hq
              go_wp2
              go_roundw
              case rel => exact ⟨k + 1, by omega, by go_num, hrow.out.set k hlt _ _ (by rw [← E1.out]; exact HN.out), hbel.out.setCell hle _⟩
              case measure => simp [intOf]; omega
            · have hsame := HS (fun h => h.2.2.elim hk0 hd)
              have hq : (capI t (k - 1) == 45) = false := by
                rw [beq_eq_false_iff_ne]
                exact fun e => hd ((capI_dash t (k - 1)).1 e)
              clear HU HS hd
              generalize capI t (k - 1) = pv at *
              go_wp2
              go_roundw
              case rel => exact ⟨k + 1, by omega, by go_num, hsame.out, hbel.out⟩
              case measure => simp [intOf]; omega
        · have hsame := HS (fun h => h122 h.2.1)
          have g122 : decide (byt t k ≤ 122) = false := decide_eq_false h122
          clear HU HS
          go_wp2
          go_roundw
          case rel => exact ⟨k + 1, by omega, by go_num, hsame.out, hbel.out⟩
          case measure => simp [intOf]; omega
      · have hsame := HS (fun h => h97 h.1)
        have g97 : decide (97 ≤ byt t k) = false := decide_eq_false h97
        clear HU HS
        go_wp2
        go_roundw
        case rel => exact ⟨k + 1, by omega, by go_num, hsame.out, hbel.out⟩
        case measure => simp [intOf]; omega
    · have hbk := back wr w1.heap.size t.size (grownCap w1 t.size 0 5) _ (canonL t) hrow.out (canonL_len t) (fun j hj => by rw [if_pos (by omega), canonL_at _ _ hj])
      go_wp2
      go_ret
      exact ⟨rfl, hbel.out⟩

set_option maxRecDepth 100000 in
set_option maxHeartbeats 1000000 in
theorem rCanon_any (s : ByteArray) (hs : s.size ≤ maxLen) (w : World) :
    Calls Tryd.prog 15 #[.string s] w fun e w' => e = .returned (.string (canonS s)) ∧ Below w.heap.size w w' := by
  have HL : Hid (Calls Tryd.prog 53 #[.string s] w fun e w' => e = .returned (.string (lowS s)) ∧ Below w.heap.size w w') := rLower_any s hs w
  unfold canonS
  have hs2 : (lowS s).size ≤ maxLen := by rw [lowS_size]; exact hs
  clear hs
  unfold maxLen at hs2
  generalize lowS s = t at *
  have hcv := fun w => Lib.run_convert_string_bytes (P := Tryd.prog) w 9 71 5 t Tryd.underlying9 Tryd.underlying71 Tryd.underlying5
  go_enter Tryd.func15, Tryd.ntmps15
  go_wp2_with fail
  refine HL.out.mono ?_
  rintro e w1 ⟨rfl, hb1⟩
  have HB1 : Hid (Below w.heap.size w w1) := hb1
  clear hb1
  have HB2 : Hid (Below w.heap.size w (Lib.bytesWorld w1 5 t)) := bel_trans HB1.out (below_bytes w1 5 t)
  have HR : Hid (Row (Lib.bytesWorld w1 5 t) w1.heap.size t.size (byt t)) := bytes_row w1 5 t
  have hle : w.heap.size ≤ w1.heap.size := HB1.out.size
  go_wp2
  go_loopw [4] (fun i wr => ∃ k : Nat, k ≤ t.size ∧ i = .int .i64 k ∧ Hid (Row wr w1.heap.size t.size (fun j => if j < k then capI t j else byt t j)) ∧ Hid (Below w.heap.size w wr)) (fun i _ => t.size - (intOf i).toNat)
  case atStart => exact ⟨0, Nat.zero_le _, rfl, (by simpa using HR.out : Row _ _ _ _), HB2⟩
  case round =>
    obtain ⟨k, hk, rfl, hrow, hbel⟩ := hrel
    clear HR HB2 hcv
    by_cases hlt : k < t.size
    · have hck : wr.cell? ⟨w1.heap.size, k, none⟩ = some (.int .u8 (byt t k)) := by
        have := hrow.out.cell k hlt
        rwa [if_neg (by omega)] at this
      have hfk := hrow.out.free k hlt
      obtain ⟨b0, b1⟩ := byt_bd t k
      have HN : Hid (∀ j, j < t.size → (if j < k + 1 then capI t j else byt t j) = if j = k then capI t k else if j < k then capI t j else byt t j) := cap_next t k
      have HU : 97 ≤ byt t k ∧ byt t k ≤ 122 ∧ (k = 0 ∨ byt t (k - 1) = 45) → Hid (capI t k = byt t k - 32) := fun h => (by rw [capI_up h] : capI t k = _)
      have HS : ¬ (97 ≤ byt t k ∧ byt t k ≤ 122 ∧ (k = 0 ∨ byt t (k - 1) = 45)) → Hid (Row wr w1.heap.size t.size (fun j => if j < k + 1 then capI t j else byt t j)) := fun h => by
        refine ⟨fun j hj => ?_, hrow.out.free⟩
        rw [hrow.out.cell j hj, HN.out j hj]
        by_cases hjk : j = k
        · subst hjk; rw [if_neg (by omega), if_pos rfl, capI_not h]
        · rw [if_neg hjk]
      by_cases h97 : 97 ≤ byt t k
      · by_cases h122 : byt t k ≤ 122
        · by_cases hk0 : k = 0
          · have E1 := HU ⟨h97, h122, .inl hk0⟩
            clear HU HS
            subst hk0
            go_wp2
            go_roundw
            case rel => exact ⟨1, by omega, by go_num, hrow.out.set 0 hlt _ _ (by rw [← E1.out]; exact HN.out), hbel.out.setCell hle _⟩
            case measure => simp [intOf]; omega
          · have hpk : wr.cell? ⟨w1.heap.size, k - 1, none⟩ = some (.int .u8 (capI t (k - 1))) := by
              have := hrow.out.cell (k - 1) (by omega)
              rwa [if_pos (by omega)] at this
            have hcast : ((k : Int) - 1) = ((k - 1 : Nat) : Int) := by omega
            have hkz : ((k : Int) == 0) = false := by simp; omega
            obtain ⟨p0, p1⟩ := capI_bd t (k - 1)
            by_cases hd : byt t (k - 1) = 45
            · have E1 := HU ⟨h97, h122, .inr hd⟩
              have hq : capI t (k - 1) = 45 := (capI_dash t (k - 1)).2 hd
              clear HU HS hd
              generalize capI t (k - 1) = pv at *
              subst hq
              go_wp2
              go_roundw
              case rel => exact ⟨k + 1, by omega, by go_num, hrow.out.set k hlt _ _ (by rw [← E1.out]; exact HN.out), hbel.out.setCell hle _⟩
              case measure => simp [intOf]; omega
            · have hsame := HS (fun h => h.2.2.elim hk0 hd)
              have hq : (capI t (k - 1) == 45) = false := by
                rw [beq_eq_false_iff_ne]
                exact fun e => hd ((capI_dash t (k - 1)).1 e)
              clear HU HS hd
              generalize capI t (k - 1) = pv at *
              go_wp2
              go_roundw
              case rel => exact ⟨k + 1, by omega, by go_num, hsame.out, hbel.out⟩
              case measure => simp [intOf]; omega
        · have hsame := HS (fun h => h122 h.2.1)
          have g122 : decide (byt t k ≤ 122) = false := decide_eq_false h122
          clear HU HS
          go_wp2
          go_roundw
          case rel => exact ⟨k + 1, by omega, by go_num, hsame.out, hbel.out⟩
          case measure => simp [intOf]; omega
      · have hsame := HS (fun h => h97 h.1)
        have g97 : decide (97 ≤ byt t k) = false := decide_eq_false h97
        clear HU HS
        go_wp2
        go_roundw
        case rel => exact ⟨k + 1, by omega, by go_num, hsame.out, hbel.out⟩
        case measure => simp [intOf]; omega
    · have hbk := back wr w1.heap.size t.size (grownCap w1 t.size 0 5) _ (canonL t) hrow.out (canonL_len t) (fun j hj => by rw [if_pos (by omega), canonL_at _ _ hj])
      go_wp2
      go_ret
      exact ⟨rfl, hbel.out⟩

end Fd
end Go.Proofs.YtojahhmdfbfnfaaDoor
