/-
  handle: isName, the document's IsName.
-/
import Derived.Test.YticncpjpkgdnlaaGreatDoorMgL
import Derived.Test.YticncpjpkgdnlaaGreatDoorHnK
set_option linter.unusedVariables false
set_option linter.unusedSimpArgs false
set_option maxRecDepth 100000
namespace Go.Proofs.YticncpjpkgdnlaaGreatDoor
open Go.RowKit Go.Shelf
namespace Hn
open Oc

set_option maxHeartbeats 400000 in
theorem isDigit_any (c : Int) (w : World) :
    Calls Tryz.prog 89 #[.int .i32 c] w fun e w' => e = .returned (.bool (digI c)) ∧ w' = w := by
  by_cases a : 48 ≤ c
  · by_cases b : c ≤ 57
    · go_enter Tryz.func89, Tryz.ntmps89
      go_wp2
      go_ret
      exact ⟨ret_bool (digI_t ⟨a, b⟩).symm, rfl⟩
    · go_enter Tryz.func89, Tryz.ntmps89
      go_wp2
      go_ret
      exact ⟨ret_bool (digI_f (by omega)).symm, rfl⟩
  · go_enter Tryz.func89, Tryz.ntmps89
    go_wp2
    go_ret
    exact ⟨ret_bool (digI_f (by omega)).symm, rfl⟩

set_option maxHeartbeats 400000 in
theorem isLetter_any (c : Int) (w : World) :
    Calls Tryz.prog 88 #[.int .i32 c] w fun e w' => e = .returned (.bool (lettI c)) ∧ w' = w := by
  by_cases a : 97 ≤ c
  · by_cases b : c ≤ 122
    · go_enter Tryz.func88, Tryz.ntmps88
      go_wp2
      go_ret
      exact ⟨ret_bool (lettI_t (by omega)).symm, rfl⟩
    · have a2 : 65 ≤ c := by omega
      have b2 : ¬ c ≤ 90 := by omega
      go_enter Tryz.func88, Tryz.ntmps88
      go_wp2
      go_ret
      exact ⟨ret_bool (lettI_f (by omega)).symm, rfl⟩
  · by_cases a2 : 65 ≤ c
    · by_cases b2 : c ≤ 90
      · go_enter Tryz.func88, Tryz.ntmps88
        go_wp2
        go_ret
        exact ⟨ret_bool (lettI_t (by omega)).symm, rfl⟩
      · go_enter Tryz.func88, Tryz.ntmps88
        go_wp2
        go_ret
        exact ⟨ret_bool (lettI_f (by omega)).symm, rfl⟩
    · go_enter Tryz.func88, Tryz.ntmps88
      go_wp2
      go_ret
      exact ⟨ret_bool (lettI_f (by omega)).symm, rfl⟩

/-- What next gives of a text: its place's rune, as far as names go. -/
theorem rune_at (s : ByteArray) (pos : Nat) (hp : pos < s.size) : ∃ (c w : Nat), Utf8.decode s pos = (c, w) ∧ 1 ≤ w ∧ c ≤ 2147483647 ∧ (((s.data.toList.getD pos 0).toNat < 128 ∧ c = (s.data.toList.getD pos 0).toNat ∧ w = 1) ∨ (128 ≤ (s.data.toList.getD pos 0).toNat ∧ 128 ≤ c)) := by
  have hg : (s[pos]'hp) = s.data.toList.getD pos 0 := (at_lt s pos hp).symm
  by_cases ha : (s.data.toList.getD pos 0).toNat < 128
  · have h := decode_ascii s pos hp (by rw [hg]; exact ha)
    rw [hg] at h
    exact ⟨_, _, h, Nat.le_refl _, by omega, .inl ⟨ha, rfl, rfl⟩⟩
  · have h := decode_high s pos hp (by rw [hg]; omega)
    exact ⟨_, _, rfl, h.2, decode_le s pos, .inr ⟨by omega, h.1⟩⟩

theorem lett_high {c : Int} (h : 128 ≤ c) : lettI c = false := lettI_f (by omega)
theorem dig_high {c : Int} (h : 128 ≤ c) : digI c = false := digI_f (by omega)

set_option maxHeartbeats 1000000 in
theorem isName_any (s : ByteArray) (hs : s.size ≤ maxLen) (w : World) :
    Calls Tryz.prog 51 #[.string s] w fun e w' => e = .returned (.bool (isNm s.data.toList)) ∧ Below w.heap.size w w' := by
  unfold maxLen at hs
  have HR0 : Hid (isNm s.data.toList = nmF 0 s.data.toList) := rfl
  have HBw : Hid (∀ p, Below w.heap.size w (w.iter s p)) := fun p => (Below.refl _ w).alloc (Nat.le_refl _) _
  have HE : Hid (s.data.toList ≠ [] → nmF s.size s.data.toList = true) := fun h => by rw [← size_list]; exact nmF_end h
  have HS : Hid (∀ k, k < s.size → nmF k s.data.toList = ((lettI ((s.data.toList.getD k 0).toNat : Int) || (decide (k ≠ 0) && (decide (((s.data.toList.getD k 0).toNat : Int) = 95) || digI ((s.data.toList.getD k 0).toNat : Int)))) && nmF (k + 1) s.data.toList)) := fun k hk => nmF_step _ k (by rw [size_list]; exact hk)
  have HL : Hid (∀ c W, Calls Tryz.prog 88 #[.int .i32 c] W fun e w' => e = .returned (.bool (lettI c)) ∧ w' = W) := fun c W => isLetter_any c W
  have HD : Hid (∀ c W, Calls Tryz.prog 89 #[.int .i32 c] W fun e w' => e = .returned (.bool (digI c)) ∧ w' = W) := fun c W => isDigit_any c W
  have HN : Hid (s.size = 0 → s.data.toList = []) := fun h => List.length_eq_zero_iff.1 ((size_list s).trans h)
  generalize isNm s.data.toList = R at *
  go_enter Tryz.func51, Tryz.ntmps51
  go_wp2
  go_loopw [] (fun wr => ∃ pos : Nat, wr = w.iter s pos ∧ pos ≤ s.size ∧ Hid (R = nmF pos s.data.toList)) (fun wr => s.size - wr.iterPos w.heap.size)
  case atStart => exact ⟨0, rfl, Nat.zero_le _, HR0⟩
  case round =>
    obtain ⟨pos, rfl, hle, hR⟩ := hrel
    by_cases hp : pos < s.size
    · obtain ⟨c, wd, hdec, hw1, hc1, hcc⟩ := rune_at s pos hp
      have hnx : ∀ ty, (Instr.next (.pointer (some ⟨w.heap.size, 0, none⟩)) true ty).run Tryz.prog (w.iter s pos) = .ok (.tuple #[.bool true, .int .i64 pos, .int .i32 (c : Nat)]) (w.iter s (pos + wd)) := fun ty => by
        have h := run_next_any (P := Tryz.prog) w s pos ty hp
        rw [hdec] at h
        exact h
      have HSt : Hid (_ = _) := HS.out pos hp
      have HCc : Hid (((s.data.toList.getD pos 0).toNat < 128 ∧ c = (s.data.toList.getD pos 0).toNat ∧ wd = 1) ∨ (128 ≤ (s.data.toList.getD pos 0).toNat ∧ 128 ≤ c)) := hcc
      clear hdec hcc
      generalize (s.data.toList.getD pos 0).toNat = b at *
      by_cases hl : lettI (c : Int) = true
      · have HF : Hid (wd = 1 ∧ R = nmF (pos + 1) s.data.toList) := by
          rcases HCc.out with ⟨h1, rfl, h3⟩ | ⟨h1, h2⟩
          · refine ⟨h3, ?_⟩
            rw [hR.out, HSt.out, hl]
            simp
          · rw [lett_high (by omega)] at hl
            cases hl
        have hw : wd = 1 := HF.out.1
        subst hw
        go_wp2_with fail
        refine (HL.out _ _).mono ?_
        rintro e w1 ⟨rfl, hw1⟩
        rw [hw1, hl]
        clear hw1 hl
        go_wp2
        go_roundw
        case rel => exact ⟨pos + 1, rfl, by omega, HF.out.2⟩
        case measure => simp; omega
      · have hl : lettI (c : Int) = false := by simpa using hl
        by_cases h0 : pos = 0
        · have hz : ((pos : Int) == 0) = true := by simp [h0]
          have HF : Hid (R = false) := by
            show R = false
            rw [hR.out, HSt.out]
            rcases HCc.out with ⟨h1, rfl, h3⟩ | ⟨h1, h2⟩
            · rw [hl, h0]
              simp
            · rw [lett_high (by omega), h0]
              simp
          clear h0
          go_wp2_with fail
          refine (HL.out _ _).mono ?_
          rintro e w1 ⟨rfl, hw1⟩
          rw [hw1, hl]
          clear hw1 hl
          go_wp2
          go_ret
          exact ⟨ret_bool HF.out.symm, HBw.out _⟩
        · have hz : ((pos : Int) == 0) = false := by simp [h0]
          by_cases h5 : c = 95
          · have h5' : ((c : Int) == 95) = true := by simp [h5]
            have h5'' : ((c : Int) != 95) = false := by simp [h5]
            have HF : Hid (wd = 1 ∧ R = nmF (pos + 1) s.data.toList) := by
              rcases HCc.out with ⟨h1, rfl, h3⟩ | ⟨h1, h2⟩
              · refine ⟨h3, ?_⟩
                rw [hR.out, HSt.out, h5, decide_eq_true h0]
                simp
              · omega
            have hw : wd = 1 := HF.out.1
            subst hw
            clear h5
            go_wp2_with fail
            refine (HL.out _ _).mono ?_
            rintro e w1 ⟨rfl, hw1⟩
            rw [hw1, hl]
            clear hw1 hl
            go_wp2
            go_roundw
            case rel => exact ⟨pos + 1, rfl, by omega, HF.out.2⟩
            case measure => simp; omega
          · have h5' : ((c : Int) == 95) = false := by simp; omega
            have h5'' : ((c : Int) != 95) = true := by simp; omega
            by_cases hd : digI (c : Int) = true
            · have HF : Hid (wd = 1 ∧ R = nmF (pos + 1) s.data.toList) := by
                rcases HCc.out with ⟨h1, rfl, h3⟩ | ⟨h1, h2⟩
                · refine ⟨h3, ?_⟩
                  rw [hR.out, HSt.out, hd, decide_eq_true h0]
                  simp
                · rw [dig_high (by omega)] at hd
                  cases hd
              have hw : wd = 1 := HF.out.1
              subst hw
              go_wp2_with fail
              refine (HL.out _ _).mono ?_
              rintro e w1 ⟨rfl, hw1⟩
              rw [hw1, hl]
              clear hw1 hl
              go_wp2_with fail
              refine (HD.out _ _).mono ?_
              rintro e w1 ⟨rfl, hw1⟩
              rw [hw1, hd]
              clear hw1 hd
              go_wp2
              go_roundw
              case rel => exact ⟨pos + 1, rfl, by omega, HF.out.2⟩
              case measure => simp; omega
            · have hd : digI (c : Int) = false := by simpa using hd
              have HF : Hid (R = false) := by
                show R = false
                rw [hR.out, HSt.out]
                rcases HCc.out with ⟨h1, rfl, h3⟩ | ⟨h1, h2⟩
                · have h5b : ((c : Nat) : Int) ≠ 95 := by omega
                  rw [hl, hd, decide_eq_false h5b]
                  simp
                · have h5b : ((b : Nat) : Int) ≠ 95 := by omega
                  rw [lett_high (by omega), dig_high (by omega), decide_eq_false h5b]
                  simp
              go_wp2_with fail
              refine (HL.out _ _).mono ?_
              rintro e w1 ⟨rfl, hw1⟩
              rw [hw1, hl]
              clear hw1 hl
              go_wp2_with fail
              refine (HD.out _ _).mono ?_
              rintro e w1 ⟨rfl, hw1⟩
              rw [hw1, hd]
              clear hw1 hd
              go_wp2
              go_ret
              exact ⟨ret_bool HF.out.symm, HBw.out _⟩
    · have hnx : ∀ ty, (Instr.next (.pointer (some ⟨w.heap.size, 0, none⟩)) true ty).run Tryz.prog (w.iter s pos) = _ := fun ty => run_next_end w s pos ty hp
      obtain rfl : pos = s.size := by omega
      by_cases hz : s.size = 0
      · have he := empty_of hz
        have HF : Hid (R = false) := by
          show R = false
          rw [hR.out, HN.out hz]
          unfold nmF
          split
          · rfl
          · rename_i h
            exact absurd hz h
        clear hz
        go_wp2
        go_ret
        exact ⟨ret_bool HF.out.symm, HBw.out _⟩
      · have he := nonempty_of hz
        have HF : Hid (R = true) := by
          show R = true
          rw [hR.out]
          exact HE.out (list_ne hz)
        go_wp2
        go_ret
        exact ⟨ret_bool HF.out.symm, HBw.out _⟩

end Hn
end Go.Proofs.YticncpjpkgdnlaaGreatDoor
