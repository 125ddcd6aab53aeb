/-
  octet.Same.
-/
import Derived.Test.YtjngpafokkjkdaaGreatDoorLow
import Derived.Deep.QuietTactic
import Derived.BigQuiet
set_option linter.unusedVariables false
set_option linter.unusedSimpArgs false
namespace Go.Proofs.YtjngpafokkjkdaaGreatDoor
open Go.RowKit
namespace Oc

theorem lowS_eq {a b : ByteArray} (hn : a.size = b.size) (h : ∀ j, j < a.size → lowI (byt a j) = lowI (byt b j)) : lowS a = lowS b := by
  unfold lowS
  congr 1
  apply List.ext_getElem
  · simp [lower, hn]
  · intro j h1 h2
    have ha : j < a.data.toList.length := by simpa [lower] using h1
    have hb : j < b.data.toList.length := by simpa [lower] using h2
    have e1 := lower_getD _ j ha
    have e2 := lower_getD _ j hb
    have := h j (by rw [← size_list]; exact ha)
    unfold byt at this
    rw [← e1, ← e2] at this
    rw [List.getD_eq_getElem?_getD, List.getElem?_eq_getElem h1, List.getD_eq_getElem?_getD, List.getElem?_eq_getElem h2] at this
    exact UInt8.toNat_inj.1 (Int.ofNat.inj this)

theorem lowS_ne {a b : ByteArray} (k : Nat) (ha : k < a.size) (hb : k < b.size) (h : lowI (byt a k) ≠ lowI (byt b k)) : lowS a ≠ lowS b := by
  intro e
  have e := str_inj e
  apply h
  have e1 := lower_getD a.data.toList k (by rw [size_list]; exact ha)
  have e2 := lower_getD b.data.toList k (by rw [size_list]; exact hb)
  rw [e] at e1
  exact e1.symm.trans e2

theorem lowS_sizes {a b : ByteArray} (h : a.size ≠ b.size) : lowS a ≠ lowS b := by
  intro e
  have := congrArg ByteArray.size e
  rw [lowS_size, lowS_size] at this
  exact h this

theorem lowI_idem (c : Int) : lowI (lowI c) = lowI c := by unfold lowI; (repeat' split) <;> omega
theorem lowS_byt (s : ByteArray) (j : Nat) (h : j < s.size) : byt (lowS s) j = lowI (byt s j) := by
  unfold byt lowS
  rw [str_list, lower_getD _ _ (by rw [size_list]; exact h)]
theorem lowS_idem (a : ByteArray) : lowS (lowS a) = lowS a := by
  refine lowS_eq (lowS_size a) (fun j hj => ?_)
  rw [lowS_size] at hj
  rw [lowS_byt a j hj, lowI_idem]
theorem bel_trans {w w1 w2 : World} (a : Below w.heap.size w w1) (b : Below w1.heap.size w1 w2) : Below w.heap.size w w2 := a.trans (b.mono a.size)

set_option maxRecDepth 100000 in
set_option maxHeartbeats 400000 in
theorem Same_any (a b : ByteArray) (ha : a.size ≤ maxLen) (hb : b.size ≤ maxLen) (w : World) :
    Calls Tryz.prog 52 #[.string a, .string b] w fun e w' => e = .returned (.bool (decide (lowS a = lowS b))) ∧ Below w.heap.size w w' := by
  unfold maxLen at ha hb
  by_cases hn : a.size = b.size
  · have hcv := fun w => Lib.run_convert_string_bytes (P := Tryz.prog) w 9 128 5 a Tryz.underlying9 Tryz.underlying128 Tryz.underlying5
    have hbel := below_bytes w 5 a
    have hr := bytes_row w 5 a
    have hne : ((a.size : Int) != (b.size : Int)) = false := by simp [hn]
    have HN : Hid (a.size = b.size) := hn
    have hle : a.size ≤ b.size := by omega
    clear hn
    go_enter Tryz.func52, Tryz.ntmps52
    go_wp2
    go_loopw [15] (fun i wr => ∃ k : Nat, k ≤ a.size ∧ i = .int .i64 k ∧ Hid (∀ j, j < k → lowI (byt a j) = lowI (byt b j)) ∧ Hid (Row wr w.heap.size a.size (byt a)) ∧ Hid (Below w.heap.size w wr)) (fun i _ => a.size - (intOf i).toNat)
    case atStart => exact ⟨0, Nat.zero_le _, rfl, (fun j hj => by omega : ∀ j, j < 0 → _), hr, hbel⟩
    case round =>
      obtain ⟨k, hk, rfl, hall, hrow, hbl⟩ := hrel
      clear hr hbel hcv
      by_cases hlt : k < a.size
      · have hck := hrow.out.cell k hlt
        obtain ⟨b0, b1⟩ := byt_bd a k
        have hkb : k < b.size := by omega
        have hby : ((b[k].toNat : Nat) : Int) = byt b k := byt_at b k hkb
        obtain ⟨d0, d1⟩ := byt_bd b k
        cases hc : (lowI (byt a k) != lowI (byt b k)) with
        | false =>
          go_wp2_with fail
          go_quiet ((go_at_call 81; exact Calls.quiet_of_same (lowerByte_any _ (by omega) (by omega) _)))
          go_wp2
          go_roundw
          case rel =>
            refine ⟨k + 1, by omega, by go_num, (fun j hj => ?_ : ∀ j, j < k + 1 → lowI (byt a j) = lowI (byt b j)), hrow.out.drewN _, below_drewN hbl.out _⟩
            by_cases hjk : j = k
            · subst hjk; simpa using hc
            · exact hall.out j (by omega)
          case measure => simp [intOf]; omega
        | true =>
          go_wp2_with fail
          go_quiet ((go_at_call 81; exact Calls.quiet_of_same (lowerByte_any _ (by omega) (by omega) _)))
          go_wp2
          go_ret
          exact ⟨ret_bool (decide_eq_false (lowS_ne k hlt hkb (by simpa using hc))).symm, below_drewN hbl.out _⟩
      · have hfin := lowS_eq HN.out (fun j hj => hall.out j (by omega))
        have HF : Hid (lowS a = lowS b) := hfin
        clear hfin
        go_wp2
        go_ret
        exact ⟨ret_bool (decide_eq_true HF.out).symm, hbl.out⟩
  · have hne : ((a.size : Int) != (b.size : Int)) = true := by simp; omega
    have HN : Hid (lowS a ≠ lowS b) := lowS_sizes hn
    clear hn
    go_enter Tryz.func52, Tryz.ntmps52
    go_wp2
    go_ret
    exact ⟨ret_bool (decide_eq_false HN.out).symm, Below.refl _ _⟩

end Oc
end Go.Proofs.YtjngpafokkjkdaaGreatDoor
