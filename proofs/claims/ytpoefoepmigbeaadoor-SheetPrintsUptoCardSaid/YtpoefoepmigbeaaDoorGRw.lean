/-
  The document's spaced, Pairs, Query.
-/
import Derived.Test.YtpoefoepmigbeaaDoorGRs
import Derived.Test.YtpoefoepmigbeaaDoorGRd2
import Derived.Test.YtpoefoepmigbeaaDoorGRp
import Derived.Test.YtpoefoepmigbeaaDoorGPa
import Derived.Test.YtpoefoepmigbeaaDoorLow
set_option linter.unusedVariables false
set_option linter.unusedSimpArgs false
namespace Go.Proofs.YtpoefoepmigbeaaDoor
open Go.RowKit Go.Shelf
namespace Tg
open Oc

def spI (x : Int) : Int := if x = 43 then 32 else x
theorem sp_getD (l : List UInt8) (j : Nat) (hj : j < l.length) : (((l.map sp).getD j 0).toNat : Int) = spI ((l.getD j 0).toNat : Int) := by
  rw [List.getD_eq_getElem?_getD, List.getElem?_map, List.getElem?_eq_getElem hj, List.getD_eq_getElem?_getD, List.getElem?_eq_getElem hj]
  show ((sp l[j]).toNat : Int) = spI (l[j].toNat : Int)
  unfold sp spI
  by_cases h : l[j] = 43
  · rw [if_pos h, if_pos (by rw [h]; rfl)]; rfl
  · rw [if_neg h, if_neg (fun e => h (UInt8.toNat_inj.1 (by show _ = 43; omega)))]

set_option maxRecDepth 100000 in
set_option maxHeartbeats 1000000 in
theorem rspaced_any (s : ByteArray) (hs : s.size ≤ 4000000000) (w : World) :
    Calls Tryd.prog 36 #[.string s] w fun e w' => e = .returned (.string (str (spd s.data.toList))) ∧ Below w.heap.size w w' := by
  have hcv := fun w => Lib.run_convert_string_bytes (P := Tryd.prog) w 9 48 5 s Tryd.underlying9 Tryd.underlying48 Tryd.underlying5
  have hb := below_bytes w 5 s
  have hr := bytes_row w 5 s
  have HD : Hid (∀ w, _) := fun w => rDecode_any (str (s.data.toList.map sp)) (by rw [str_size, List.length_map, size_list]; omega) w
  rw [str_list] at HD
  unfold spd
  generalize decR (s.data.toList.map sp) = D at *
  obtain ⟨D1, D2, D3⟩ := D
  dsimp only at HD ⊢
  go_enter Tryd.func36, Tryd.ntmps36
  go_wp2
  go_loopw [4] (fun i wr => ∃ k : Nat, k ≤ s.size ∧ i = .int .i64 k ∧ Hid (Row wr w.heap.size s.size (fun j => if j < k then spI (byt s j) else byt s j)) ∧ Hid (Below w.heap.size w wr)) (fun i _ => s.size - (intOf i).toNat)
  case atStart => exact ⟨0, Nat.zero_le _, rfl, (by simpa using hr : Row _ _ _ _), hb⟩
  case round =>
    obtain ⟨k, hk, rfl, hrow, hbel⟩ := hrel
    clear hr hb hcv
    by_cases hlt : k < s.size
    · have hck : wr.cell? ⟨w.heap.size, k, none⟩ = some (.int .u8 (byt s k)) := by
        have := hrow.out.cell k hlt
        rwa [if_neg (by omega)] at this
      have hfk := hrow.out.free k hlt
      obtain ⟨b0, b1⟩ := byt_bd s k
      have HN : Hid (∀ j, j < s.size → (if j < k + 1 then spI (byt s j) else byt s j) = if j = k then spI (byt s k) else if j < k then spI (byt s j) else byt s j) := by
        intro j hj
        by_cases hjk : j = k
        · subst hjk; rw [if_pos (by omega), if_pos rfl]
        · rw [if_neg hjk]
          by_cases h2 : j < k
          · rw [if_pos (by omega), if_pos h2]
          · rw [if_neg (by omega), if_neg h2]
      by_cases hup : byt s k = 43
      · have E1 : Hid (spI (byt s k) = 32) := (by unfold spI; rw [if_pos hup] : spI (byt s k) = 32)
        have hq : (byt s k == 43) = true := by simp [hup]
        clear hup
        go_wp2
        go_roundw
        case rel => exact ⟨k + 1, by omega, by go_num, hrow.out.set k hlt _ _ (by rw [← E1.out]; exact HN.out), hbel.out.setCell (Nat.le_refl _) _⟩
        case measure => simp [intOf]; omega
      · have E1 : Hid (spI (byt s k) = byt s k) := (by unfold spI; rw [if_neg hup] : spI (byt s k) = byt s k)
        have hq : (byt s k == 43) = false := by simp [hup]
        have hsame : Hid (Row wr w.heap.size s.size (fun j => if j < k + 1 then spI (byt s j) else byt s j)) := by
          refine ⟨fun j hj => ?_, hrow.out.free⟩
          rw [hrow.out.cell j hj, HN.out j hj]
          by_cases hjk : j = k
          · subst hjk; rw [if_neg (by omega), if_pos rfl, E1.out]
          · rw [if_neg hjk]
        clear hup
        go_wp2
        go_roundw
        case rel => exact ⟨k + 1, by omega, by go_num, hsame.out, hbel.out⟩
        case measure => simp [intOf]; omega
    · have hbk := back wr w.heap.size s.size (grownCap w s.size 0 5) _ (s.data.toList.map sp) hrow.out (by simp) (fun j hj => by rw [if_pos (by omega), sp_getD _ _ (by rw [size_list]; exact hj)]; rfl)
      generalize str (s.data.toList.map sp) = R at *
      go_wp2_with fail
      refine (HD.out _).mono ?_
      rintro e w2 ⟨rfl, hb2⟩
      go_wp2
      go_ret
      exact ⟨rfl, hbel.out.trans (hb2.mono hbel.out.size)⟩

end Tg
end Go.Proofs.YtpoefoepmigbeaaDoor
