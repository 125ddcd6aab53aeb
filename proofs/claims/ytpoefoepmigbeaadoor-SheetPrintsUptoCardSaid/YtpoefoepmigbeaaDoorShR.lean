/-
  The document's coded and PrintPairs of sheet (written by mkshr.py).
-/
import Derived.Test.YtpoefoepmigbeaaDoorShQ
import Derived.Test.YtpoefoepmigbeaaDoorGRd2
import Derived.Test.YtpoefoepmigbeaaDoorGPa
set_option linter.unusedVariables false
set_option linter.unusedSimpArgs false
namespace Go.Proofs.YtpoefoepmigbeaaDoor
open Go.RowKit Go.Shelf
namespace Tg
open Oc

theorem byte_eq (c d : UInt8) : ((c.toNat : Int) == (d.toNat : Int)) = decide (c = d) := by
  by_cases h : c = d
  · simp [h]
  · have : ¬ c.toNat = d.toNat := fun e => h (UInt8.toNat_inj.1 e)
    simp [h]
    omega
theorem take_cod (s : ByteArray) (k : Nat) (h : k < s.size) : cod (s.data.toList.take (k + 1)) = cod (s.data.toList.take k) ++ codB (s.data.toList.getD k 0) := by
  rw [take_snoc s k h, cod_append]; simp [cod]

set_option maxRecDepth 100000 in
set_option maxHeartbeats 4000000 in
theorem rcoded_any (s : ByteArray) (hs : s.size ≤ 4000000000) (w : World) :
    Calls Tryd.prog 20 #[.string s] w fun e w' => e = .returned (.string (str (cod s.data.toList))) ∧ Below w.heap.size w w' := by
  have HN : Hid (_) := Ow.none w
  go_enter Tryd.func20, Tryd.ntmps20
  go_wp2
  go_loopw [3, 4] (fun ov i wr => ∃ k : Nat, k ≤ s.size ∧ i = .int .i64 k ∧ Hid (Ow w.heap.size ov (cod (s.data.toList.take k)) wr) ∧ Hid (Below w.heap.size w wr)) (fun _ i _ => s.size - (intOf i).toNat)
  case atStart => exact ⟨0, Nat.zero_le _, rfl, HN.out, (Below.refl _ w).alloc (Nat.le_refl _) _⟩
  case round =>
    obtain ⟨k, hk, rfl, hown, hbl⟩ := hrel
    have hsz := hbl.out.size
    by_cases hlt : k < s.size
    · have h0 : ((s[k].toNat : Nat) : Int) = ((s.data.toList.getD k 0).toNat : Int) := by rw [getD_of s k hlt]
      have HT : Hid (_) := take_cod s k hlt
      have HL : Hid ((cod (s.data.toList.take k)).length + 3 ≤ 140737488355328) := by
        have h1 := cod_len (s.data.toList.take k)
        have h2 : (s.data.toList.take k).length ≤ s.size := by rw [List.length_take, size_list]; omega
        show _ ≤ _
        omega
      generalize s.data.toList.getD k 0 = c at *
      generalize cod (s.data.toList.take k) = t at *
      have hu := c.toNat_lt
      have HLt : Hid (∀ w, Calls Tryd.prog 39 #[.int .u8 (c.toNat : Int)] w fun e w' => e = .returned (.bool (lettI (c.toNat : Int))) ∧ w' = w) := fun w => IsLetter_any (c.toNat : Int) (by omega) (by omega) w
      have HDg : Hid (∀ w, Calls Tryd.prog 40 #[.int .u8 (c.toNat : Int)] w fun e w' => e = .returned (.bool (digI (c.toNat : Int))) ∧ w' = w) := fun w => IsDigit_any (c.toNat : Int) (by omega) (by omega) w
      have HCS : Hid ((#[Value.int .u8 (c.toNat : Int)] : Array Value).toList = Lib.byteCells [c]) := (rfl : (#[Value.int .u8 (c.toNat : Int)] : Array Value).toList = Lib.byteCells [c])
      have HU : Hid (codB c = if lettI (c.toNat : Int) || digI (c.toNat : Int) || [42, 45, 46, 95].contains c then [c] else if c = 32 then [43] else [37, hd (c.toNat / 16), hd (c.toNat % 16)]) := (rfl : codB c = _)
      have HFIN : Hid (∀ v' w', Ow w.heap.size v' (t ++ codB c) w' → Below w.heap.size wr w' → Hid (Ow w.heap.size v' (cod (s.data.toList.take (k + 1))) w') ∧ Hid (Below w.heap.size w w')) := fun v' w' h1 h2 => ⟨(by rw [HT.out]; exact h1 : Ow _ _ _ _), hbl.out.trans h2⟩
      have E42 : ((c.toNat : Int) == 42) = decide (c = 42) := byte_eq c 42
      have E45 : ((c.toNat : Int) == 45) = decide (c = 45) := byte_eq c 45
      have E46 : ((c.toNat : Int) == 46) = decide (c = 46) := byte_eq c 46
      have E95 : ((c.toNat : Int) == 95) = decide (c = 95) := byte_eq c 95
      have E32 : ((c.toNat : Int) == 32) = decide (c = 32) := byte_eq c 32
      generalize lettI (c.toNat : Int) = la at *
      generalize digI (c.toNat : Int) = da at *
      by_cases hla : la = true
      · subst hla
        have hcb : codB c = [c] := by rw [HU.out]; simp
        rw [hcb] at HFIN
        clear hcb HU
        go_wp2_with (first | (go_at_call 39; refine (HLt.out _).mono ?_; rintro e w1 ⟨rfl, hw1⟩; rw [hw1]; clear hw1) | (go_at_call 40; refine (HDg.out _).mono ?_; rintro e w1 ⟨rfl, hw1⟩; rw [hw1]; clear hw1) | (at_builtin; go_must (refine wp_ap rfl (.tmp 38) (.tmp 40) rfl w.heap.size _ t [c] _ _ HCS.out rfl hown.out rfl (by have := HL.out; simp; omega) hsz ?_); intro v6 w6 h1 h2; obtain ⟨q1, q2⟩ := HFIN.out v6 w6 h1 h2; clear h1 h2))
        go_roundw
        case rel => exact ⟨k + 1, by omega, by go_num, q1, q2⟩
        case measure => simp [intOf]; omega
      · have hla : la = false := by simpa using hla
        subst hla
        by_cases hda : da = true
        · subst hda
          have hcb : codB c = [c] := by rw [HU.out]; simp
          rw [hcb] at HFIN
          clear hcb HU
          go_wp2_with (first | (go_at_call 39; refine (HLt.out _).mono ?_; rintro e w1 ⟨rfl, hw1⟩; rw [hw1]; clear hw1) | (go_at_call 40; refine (HDg.out _).mono ?_; rintro e w1 ⟨rfl, hw1⟩; rw [hw1]; clear hw1) | (at_builtin; go_must (refine wp_ap rfl (.tmp 38) (.tmp 40) rfl w.heap.size _ t [c] _ _ HCS.out rfl hown.out rfl (by have := HL.out; simp; omega) hsz ?_); intro v6 w6 h1 h2; obtain ⟨q1, q2⟩ := HFIN.out v6 w6 h1 h2; clear h1 h2))
          go_roundw
          case rel => exact ⟨k + 1, by omega, by go_num, q1, q2⟩
          case measure => simp [intOf]; omega
        · have hda : da = false := by simpa using hda
          subst hda
          by_cases h42 : c = 42
          · have hcb : codB c = [c] := by rw [HU.out]; simp [h42]
            rw [hcb] at HFIN
            rw [decide_eq_true h42] at E42
            clear hcb HU h42
            go_wp2_with (first | (go_at_call 39; refine (HLt.out _).mono ?_; rintro e w1 ⟨rfl, hw1⟩; rw [hw1]; clear hw1) | (go_at_call 40; refine (HDg.out _).mono ?_; rintro e w1 ⟨rfl, hw1⟩; rw [hw1]; clear hw1) | (at_builtin; go_must (refine wp_ap rfl (.tmp 38) (.tmp 40) rfl w.heap.size _ t [c] _ _ HCS.out rfl hown.out rfl (by have := HL.out; simp; omega) hsz ?_); intro v6 w6 h1 h2; obtain ⟨q1, q2⟩ := HFIN.out v6 w6 h1 h2; clear h1 h2))
            go_roundw
            case rel => exact ⟨k + 1, by omega, by go_num, q1, q2⟩
            case measure => simp [intOf]; omega
          · rw [decide_eq_false h42] at E42
            by_cases h45 : c = 45
            · have hcb : codB c = [c] := by rw [HU.out]; simp [h45]
              rw [hcb] at HFIN
              rw [decide_eq_true h45] at E45
              clear hcb HU h45
              go_wp2_with (first | (go_at_call 39; refine (HLt.out _).mono ?_; rintro e w1 ⟨rfl, hw1⟩; rw [hw1]; clear hw1) | (go_at_call 40; refine (HDg.out _).mono ?_; rintro e w1 ⟨rfl, hw1⟩; rw [hw1]; clear hw1) | (at_builtin; go_must (refine wp_ap rfl (.tmp 38) (.tmp 40) rfl w.heap.size _ t [c] _ _ HCS.out rfl hown.out rfl (by have := HL.out; simp; omega) hsz ?_); intro v6 w6 h1 h2; obtain ⟨q1, q2⟩ := HFIN.out v6 w6 h1 h2; clear h1 h2))
              go_roundw
              case rel => exact ⟨k + 1, by omega, by go_num, q1, q2⟩
              case measure => simp [intOf]; omega
            · rw [decide_eq_false h45] at E45
              by_cases h46 : c = 46
              · have hcb : codB c = [c] := by rw [HU.out]; simp [h46]
                rw [hcb] at HFIN
                rw [decide_eq_true h46] at E46
                clear hcb HU h46
                go_wp2_with (first | (go_at_call 39; refine (HLt.out _).mono ?_; rintro e w1 ⟨rfl, hw1⟩; rw [hw1]; clear hw1) | (go_at_call 40; refine (HDg.out _).mono ?_; rintro e w1 ⟨rfl, hw1⟩; rw [hw1]; clear hw1) | (at_builtin; go_must (refine wp_ap rfl (.tmp 38) (.tmp 40) rfl w.heap.size _ t [c] _ _ HCS.out rfl hown.out rfl (by have := HL.out; simp; omega) hsz ?_); intro v6 w6 h1 h2; obtain ⟨q1, q2⟩ := HFIN.out v6 w6 h1 h2; clear h1 h2))
                go_roundw
                case rel => exact ⟨k + 1, by omega, by go_num, q1, q2⟩
                case measure => simp [intOf]; omega
              · rw [decide_eq_false h46] at E46
                by_cases h95 : c = 95
                · have hcb : codB c = [c] := by rw [HU.out]; simp [h95]
                  rw [hcb] at HFIN
                  rw [decide_eq_true h95] at E95
                  clear hcb HU h95
                  go_wp2_with (first | (go_at_call 39; refine (HLt.out _).mono ?_; rintro e w1 ⟨rfl, hw1⟩; rw [hw1]; clear hw1) | (go_at_call 40; refine (HDg.out _).mono ?_; rintro e w1 ⟨rfl, hw1⟩; rw [hw1]; clear hw1) | (at_builtin; go_must (refine wp_ap rfl (.tmp 38) (.tmp 40) rfl w.heap.size _ t [c] _ _ HCS.out rfl hown.out rfl (by have := HL.out; simp; omega) hsz ?_); intro v6 w6 h1 h2; obtain ⟨q1, q2⟩ := HFIN.out v6 w6 h1 h2; clear h1 h2))
                  go_roundw
                  case rel => exact ⟨k + 1, by omega, by go_num, q1, q2⟩
                  case measure => simp [intOf]; omega
                · rw [decide_eq_false h95] at E95
                  by_cases h32 : c = 32
                  · have hcb : codB c = [43] := by rw [HU.out]; simp [h32]
                    rw [hcb] at HFIN
                    rw [decide_eq_true h32] at E32
                    clear hcb HU h32 h42 h45 h46 h95
                    go_wp2_with (first | (go_at_call 39; refine (HLt.out _).mono ?_; rintro e w1 ⟨rfl, hw1⟩; rw [hw1]; clear hw1) | (go_at_call 40; refine (HDg.out _).mono ?_; rintro e w1 ⟨rfl, hw1⟩; rw [hw1]; clear hw1) | (at_builtin; go_must (refine wp_ap rfl (.tmp 44) (.tmp 45) rfl w.heap.size _ t [43] _ _ rfl rfl hown.out rfl (by have := HL.out; simp; omega) hsz ?_); intro v6 w6 h1 h2; obtain ⟨q1, q2⟩ := HFIN.out v6 w6 h1 h2; clear h1 h2))
                    go_roundw
                    case rel => exact ⟨k + 1, by omega, by go_num, q1, q2⟩
                    case measure => simp [intOf]; omega
                  · rw [decide_eq_false h32] at E32
                    have hcb : codB c = [37, hd (c.toNat / 16), hd (c.toNat % 16)] := by rw [HU.out]; simp [h32, h42, h45, h46, h95]
                    rw [hcb] at HFIN
                    clear hcb HU h32 h42 h45 h46 h95
                    have ha : ((c.toNat : Nat) : Int) % 16 = ((c.toNat % 16 : Nat) : Int) := by omega
                    have hd0 : ((c.toNat : Nat) : Int) / 16 = ((c.toNat / 16 : Nat) : Int) := by omega
                    have l1 : c.toNat / 16 < 16 := by omega
                    have l2 : c.toNat % 16 < 16 := by omega
                    have h1 := digits_at (c.toNat / 16) l1
                    have h2 := digits_at (c.toNat % 16) l2
                    generalize c.toNat / 16 = p at *
                    generalize c.toNat % 16 = q at *
                    have l1' : (p : Int) < 16 := by omega
                    have l2' : (q : Int) < 16 := by omega
                    have ht : (((c.toNat : Nat) : Int)).tmod 16 = (q : Int) := by rw [Int.tmod_eq_emod_of_nonneg (by omega)]; exact ha
                    have wp : IntKind.u8.wrap (p : Int) = (p : Int) := by rw [IntKind.wrap_u8]; omega
                    have wq : IntKind.u8.wrap (q : Int) = (q : Int) := by rw [IntKind.wrap_u8]; omega
                    have HOd : Hid (Ow w.heap.size u3 t wr.drew) := hown.out
                    have hcs : (#[Value.int .u8 37, Value.int .u8 ((hd p).toNat : Int), Value.int .u8 ((hd q).toNat : Int)] : Array Value).toList = Lib.byteCells [37, hd p, hd q] := rfl
                    go_wp2_with (first | (go_at_call 39; refine (HLt.out _).mono ?_; rintro e w1 ⟨rfl, hw1⟩; rw [hw1]; clear hw1) | (go_at_call 40; refine (HDg.out _).mono ?_; rintro e w1 ⟨rfl, hw1⟩; rw [hw1]; clear hw1) | fail)
                    go_region_law (refine step_ap rfl (.tmp 47) (.tmp 54) rfl w.heap.size u3 t [37, hd p, hd q] 3 rfl wr.drew _ hcs (by simp [Act.eval, Act.put]) HOd.out (by simp [Act.eval, Act.put]) HL.out hsz ?_; intro v2 w2 HO2 HB2)
                    all_goals go_wp2
                    all_goals obtain ⟨q1, q2⟩ := HFIN.out _ _ HO2.out ((⟨rfl, rfl, rfl, Nat.le_refl _, fun _ _ => rfl⟩ : Below w.heap.size wr wr.drew).trans HB2.out)
                    all_goals exact ⟨⟨k + 1, by omega, by go_num, q1, q2⟩, by simp [intOf]; omega⟩
    · obtain rfl : k = s.size := by omega
      have hall : s.data.toList.take s.size = s.data.toList := List.take_of_length_le (by rw [size_list]; exact Nat.le_refl _)
      have hback := hown.out.back
      rw [hall] at hback
      have HE : Hid (_ = _) := hall
      obtain ⟨R, hR⟩ : ∃ R, R = cod s.data.toList := ⟨_, rfl⟩
      rw [← hR] at hback
      have HE : Hid (_ = _) := hR
      clear hall hR
      go_wp2
      go_ret
      exact ⟨by rw [← HE.out]; rfl, hbl.out⟩

end Tg
end Go.Proofs.YtpoefoepmigbeaaDoor
