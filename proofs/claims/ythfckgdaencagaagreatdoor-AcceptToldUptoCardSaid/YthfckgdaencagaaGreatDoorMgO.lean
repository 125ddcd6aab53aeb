/- Several texts as one. -/
import Derived.Test.YthfckgdaencagaaGreatDoorMgJ
import Derived.Test.YthfckgdaencagaaGreatDoorMgM
import Derived.Test.YthfckgdaencagaaGreatDoorMgN
/-
  The document's List.
-/
set_option linter.unusedVariables false
set_option linter.unusedSimpArgs false
namespace Go.Proofs.YthfckgdaencagaaGreatDoor
open Go.RowKit Go.Shelf
namespace Oc

theorem unqR_q (l : List UInt8) (h : qlen l = 0) : unqR l = ([], 0, 13) := by unfold unqR; rw [if_pos h]
theorem unqR_p (l : List UInt8) (h : ¬ qlen l = 0) : ∃ x, unqR l = (x, (qlen l : Int), 0) := by unfold unqR; rw [if_neg h]; exact ⟨_, rfl⟩
theorem ownS_emptyB {B : Nat} (w : World) (hB : B ≤ w.heap.size) : OwnS B (.slice (some ⟨w.heap.size, 0, none⟩) 0 0) [] (w.alloc (.cells #[] 9)) := (ownS_empty w).lower hB

set_option maxRecDepth 100000 in
set_option maxHeartbeats 2000000 in
theorem rList_any (s : ByteArray) (hs : s.size ≤ 134217728) (w : World) :
    Calls Tryz.prog 13 #[.string s] w fun e w' => ∃ v, e = .returned (.tuple #[v, .int .i64 (listR s.data.toList).2]) ∧ OwnS w.heap.size v (listR s.data.toList).1 w' ∧ Below w.heap.size w w' := by
  go_enter Tryz.func13, Tryz.ntmps13
  go_wp2
  go_loopw [4, 5, 6] (fun lv fv av wr => ∃ (fr a : Nat) (acc : List (List UInt8)), fr ≤ a ∧ a ≤ s.size + 1 ∧ fv = .int .i64 fr ∧ av = .int .i64 a ∧ acc.length ≤ a ∧ Hid (if a ≤ s.size then lst [] s.data.toList = (lst (piece s.data.toList fr a) (s.data.toList.drop a)).map (acc ++ ·) else lst [] s.data.toList = some acc) ∧ Hid (OwnS w.heap.size lv acc wr) ∧ Hid (Below w.heap.size w wr)) (fun _ _ av _ => s.size + 1 - (intOf av).toNat)
  case atStart => exact ⟨0, 0, [], Nat.le_refl _, Nat.zero_le _, rfl, rfl, Nat.le_refl _, (by rw [if_pos (Nat.zero_le _)]; simp [piece_nil] : if 0 ≤ s.size then _ else _), ownS_empty w, (Below.refl _ w).alloc (Nat.le_refl _) _⟩
  case round =>
    obtain ⟨fr, a, acc, hfa, has, rfl, rfl, hacc, hst0, hown, hbl⟩ := hrel
    have hsz := hbl.out.size
    by_cases hle : a ≤ s.size
    · have hst : Hid (lst [] s.data.toList = (lst (piece s.data.toList fr a) (s.data.toList.drop a)).map (acc ++ ·)) := (by have h := hst0.out; rwa [if_pos hle] at h : lst [] s.data.toList = _)
      clear hst0
      have HE : Hid ((s.extract fr a).data.toList = piece s.data.toList fr a) := piece_ext s fr a
      by_cases hcm : a = s.size ∨ (∃ h : a < s.size, byt s a = 44)
      · -- an element ends here
        have HN : Hid (if a + 1 ≤ s.size then lst [] s.data.toList = (lst (piece s.data.toList (a + 1) (a + 1)) (s.data.toList.drop (a + 1))).map ((acc ++ addEl (trim (piece s.data.toList fr a)) []) ++ ·) else lst [] s.data.toList = some (acc ++ addEl (trim (piece s.data.toList fr a)) [])) := by
          show if _ then _ else _
          rcases hcm with h | ⟨h, hb⟩
          · rw [if_neg (by omega), hst.out, show s.data.toList.drop a = [] from List.drop_of_length_le (by rw [size_list]; omega), lst_nil]
            rfl
          · rw [if_pos (by omega)]
            refine lst_step _ acc fr a [] ?_
            have e := drop_cons s.data.toList a (by rw [size_list]; exact h)
            have e2 : s.data.toList.getD a 0 = 44 := UInt8.toNat_inj.1 (by unfold byt at hb; show _ = 44; omega)
            rw [hst.out, e, e2]
        have HLn : Hid ((acc ++ addEl (trim (piece s.data.toList fr a)) []).length ≤ a + 1) := by
          show List.length _ ≤ _
          have := addEl_len (trim (piece s.data.toList fr a))
          rw [List.length_append]
          omega
        have hts : (∃ h : a < s.size, ((a : Int) == (s.size : Int)) = false ∧ ((s[a].toNat : Nat) : Int) = byt s a ∧ (byt s a == 44) = true) ∨ ((a : Int) == (s.size : Int)) = true := by
          rcases hcm with h | ⟨h, hb⟩
          · right; simp [h]
          · left; exact ⟨h, by simp; omega, byt_at s a h, by simp [hb]⟩
        clear hcm
        have hle' : (a : Int) ≤ (s.size : Int) := by omega
        by_cases hz : trim (piece s.data.toList fr a) = []
        · have HZ : Hid (addEl (trim (piece s.data.toList fr a)) [] = []) := addEl_none hz []
          have HEm : Hid ((str (trim (piece s.data.toList fr a))).toList.isEmpty = true) := (by rw [str_empty]; simp [hz] : (str (trim (piece s.data.toList fr a))).toList.isEmpty = true)
          clear hz
          rcases hts with ⟨hlt, hts1, hts2, hts3⟩ | hts1
          all_goals
            go_wp2_with fail
            refine (rTrim_any (s.extract fr a) (by unfold maxLen; simp; omega) _).mono ?_
            rintro e w2 ⟨rfl, rfl⟩
            rw [HE.out]
            have hem := HEm.out
            generalize str (trim (piece s.data.toList fr a)) = x at hem ⊢
            go_wp2
            go_roundw
            case rel => exact ⟨a + 1, a + 1, _, Nat.le_refl _, by omega, by go_num, by go_num, HLn.out, HN, (by rw [HZ.out, List.append_nil]; exact hown.out : OwnS _ _ _ _), hbl⟩
            case measure => simp [intOf]; omega
        · have HZ : Hid (addEl (trim (piece s.data.toList fr a)) [] = [trim (piece s.data.toList fr a)]) := addEl_some hz []
          have hem : (str (trim (piece s.data.toList fr a))).toList.isEmpty = false := by rw [str_empty]; simp [hz]
          clear hz
          rcases hts with ⟨hlt, hts1, hts2, hts3⟩ | hts1
          all_goals
            go_wp2_with fail
            refine (rTrim_any (s.extract fr a) (by unfold maxLen; simp; omega) _).mono ?_
            rintro e w2 ⟨rfl, rfl⟩
            rw [HE.out]
            go_wp2_with (at_builtin; go_must (refine wp_appS rfl (.tmp 33) (.tmp 35) rfl w.heap.size _ acc _ (trim (piece s.data.toList fr a)) rfl hown.out rfl ?h1 ?h2 ?_))
            case h1 => omega
            case h2 => omega
            intro v' w3 hown3 hb3
            have HO3 : Hid (OwnS w.heap.size v' (acc ++ addEl (trim (piece s.data.toList fr a)) []) w3) := (by rw [HZ.out]; exact hown3 : OwnS _ _ _ _)
            have HB3 : Hid (Below w.heap.size w w3) := hbl.out.trans hb3
            clear hown3 hb3
            go_wp2
            go_roundw
            case rel => exact ⟨a + 1, a + 1, _, Nat.le_refl _, by omega, by go_num, by go_num, HLn.out, HN, HO3, HB3⟩
            case measure => simp [intOf]; omega
      · have hlt : a < s.size := by
          rcases Nat.lt_or_ge a s.size with h | h
          · exact h
          · exact absurd (.inl (by omega)) hcm
        have h44 : ¬ byt s a = 44 := fun h => hcm (.inr ⟨hlt, h⟩)
        clear hcm
        have hby : ((s[a].toNat : Nat) : Int) = byt s a := byt_at s a hlt
        have hne : ((a : Int) == (s.size : Int)) = false := by simp; omega
        have h44' : (byt s a == 44) = false := by simp [h44]
        have HC : Hid (byt s a = ((s.data.toList.getD a 0).toNat : Int)) := rfl
        have HD : Hid (s.data.toList.drop a = s.data.toList.getD a 0 :: s.data.toList.drop (a + 1)) := drop_cons _ a (by rw [size_list]; exact hlt)
        have HP : Hid (piece s.data.toList fr a ++ [s.data.toList.getD a 0] = piece s.data.toList fr (a + 1)) := piece_snoc _ fr a hfa (by rw [size_list]; exact hlt)
        generalize s.data.toList.getD a 0 = u at HC HD HP
        have HU44 : Hid (u ≠ 44) := fun e => h44 (by have := HC.out; rw [e] at this; exact this)
        clear h44
        by_cases h34 : byt s a = 34
        · have HU : Hid (u = 34) := UInt8.toNat_inj.1 (by have := HC.out; show u.toNat = 34; omega)
          have h34' : (byt s a == 34) = true := by simp [h34]
          clear h34
          have HX : Hid ((s.extract a s.size).data.toList = s.data.toList.drop a) := Lib.extract_to_end s a
          have hqb := qlen_bd (s.data.toList.drop a)
          rw [List.length_drop, size_list] at hqb
          obtain ⟨hq1, hq2⟩ := hqb
          by_cases hq : qlen (s.data.toList.drop a) = 0
          · have HN : Hid (listR s.data.toList = ([], 14)) := listR_none (by
              rw [hst.out]
              have h := hq
              rw [HD.out] at h ⊢
              rw [lst_bad _ _ _ HU.out h]
              rfl)
            have HQ : Hid (unqR (s.data.toList.drop a) = ([], 0, 13)) := unqR_q _ hq
            go_wp2_with fail
            refine (rUnquote_any (s.extract a s.size) (by simp; omega) _).mono ?_
            rintro e w2 ⟨rfl, hb2⟩
            rw [HX.out, HQ.out]
            have hs2 := hb2.size
            go_wp2
            go_ret2
            rw [HN.out]
            exact ⟨_, rfl, ownS_emptyB _ (by omega), (hbl.out.trans (hb2.mono hsz)).alloc (by omega) _⟩
          · have hq3 := hq2 hq
            have HN : Hid (lst [] s.data.toList = (lst (piece s.data.toList fr (a + qlen (s.data.toList.drop a))) (s.data.toList.drop (a + qlen (s.data.toList.drop a)))).map (acc ++ ·)) := by
              show lst _ _ = _
              rw [← piece_app _ fr a _ hfa, ← List.drop_drop]
              have h := hst.out
              have hq' := hq
              rw [HD.out] at h hq'
              rw [lst_quote _ _ _ HU.out hq', ← HD.out] at h
              exact h
            obtain ⟨x, hx⟩ := unqR_p _ hq
            have HQ : Hid (unqR (s.data.toList.drop a) = (x, (qlen (s.data.toList.drop a) : Int), 0)) := hx
            clear hq2 hx
            go_wp2_with fail
            refine (rUnquote_any (s.extract a s.size) (by simp; omega) _).mono ?_
            rintro e w2 ⟨rfl, hb2⟩
            rw [HX.out, HQ.out]
            have HO2 : Hid (OwnS w.heap.size _ acc w2) := hown.out.below hb2
            have HB2 : Hid (Below w.heap.size w w2) := hbl.out.trans (hb2.mono hsz)
            clear hb2
            generalize qlen (s.data.toList.drop a) = n at *
            go_wp2
            go_roundw
            case rel => exact ⟨fr, a + n, acc, by omega, by omega, rfl, by go_num, by omega, (by show if _ then _ else _; rw [if_pos (by omega)]; exact HN.out), HO2, HB2⟩
            case measure => simp [intOf]; omega
        · have h34' : (byt s a == 34) = false := by simp [h34]
          have HU34 : Hid (u ≠ 34) := fun e => h34 (by have := HC.out; rw [e] at this; exact this)
          clear h34
          have HN : Hid (lst [] s.data.toList = (lst (piece s.data.toList fr (a + 1)) (s.data.toList.drop (a + 1))).map (acc ++ ·)) := by
            show lst _ _ = _
            rw [hst.out, HD.out, lst_on _ _ _ HU44.out HU34.out, HP.out]
          go_wp2
          go_roundw
          case rel => exact ⟨fr, a + 1, acc, by omega, by omega, rfl, by go_num, by omega, (by show if _ then _ else _; rw [if_pos (by omega)]; exact HN.out), hown, hbl⟩
          case measure => simp [intOf]; omega
    · have HN : Hid (listR s.data.toList = (acc, 0)) := listR_some (by have h := hst0.out; rwa [if_neg hle] at h)
      have hle' : ¬ (a : Int) ≤ (s.size : Int) := by omega
      go_wp2
      go_ret2
      rw [HN.out]
      exact ⟨_, rfl, hown.out, hbl.out⟩

end Oc
end Go.Proofs.YthfckgdaencagaaGreatDoor

/-
  The document's blanks, signs, Params.
-/
set_option linter.unusedVariables false
set_option linter.unusedSimpArgs false
namespace Go.Proofs.YthfckgdaencagaaGreatDoor
open Go.RowKit Go.Shelf
namespace Oc

theorem drop_getD (l : List UInt8) (a j : Nat) : (l.drop a).getD j 0 = l.getD (a + j) 0 := by
  rw [List.getD_eq_getElem?_getD, List.getD_eq_getElem?_getD, List.getElem?_drop]
theorem ext_take (s : ByteArray) (i n : Nat) : s.extract i (i + n) = str ((s.data.toList.drop i).take n) := by
  apply eq_list
  rw [str_list, Lib.extract_data, show i + n - i = n by omega]

set_option maxRecDepth 100000 in
set_option maxHeartbeats 1000000 in
theorem blanks_any (s : ByteArray) (hs : s.size ≤ 134217728) (a : Nat) (ha : a ≤ s.size) (w : World) :
    Calls Tryz.prog 56 #[.string s, .int .i64 (a : Int)] w fun e w' => e = .returned (.int .i64 (bl (s.data.toList.drop a))) ∧ w' = w := by
  have HL : Hid ((s.data.toList.drop a).length = s.size - a) := (by simp : (s.data.toList.drop a).length = s.size - a)
  go_enter Tryz.func56, Tryz.ntmps56
  go_wp2
  go_loop [5] (fun nv => ∃ k : Nat, k ≤ s.size - a ∧ nv = .int .i64 k ∧ Hid (∀ j, j < k → blankB ((s.data.toList.drop a).getD j 0) = true)) (fun nv => s.size - a - (intOf nv).toNat)
  case atStart => exact ⟨0, Nat.zero_le _, rfl, (fun j hj => by omega : ∀ j, j < 0 → _)⟩
  case round =>
    obtain ⟨k, hk, rfl, hall⟩ := hrel
    by_cases hlt : k < s.size - a
    · have hlt2 : a + k < s.size := by omega
      have hby : ((s[a + k].toNat : Nat) : Int) = byt s (a + k) := byt_at s (a + k) hlt2
      obtain ⟨b0, b1⟩ := byt_bd s (a + k)
      have HC : Hid (blankB ((s.data.toList.drop a).getD k 0) = blankI (byt s (a + k))) := (by rw [drop_getD]; rfl : blankB _ = _)
      cases hb : blankI (byt s (a + k)) with
      | true =>
        have HA : Hid (∀ j, j < k + 1 → blankB ((s.data.toList.drop a).getD j 0) = true) := by
          intro j hj
          by_cases hjk : j = k
          · subst hjk; rw [HC.out]; exact hb
          · exact hall.out j (by omega)
        go_wp2_with (go_at_call 43; refine (IsBlank_any _ (by omega) (by omega) _).mono ?_; rintro e w' ⟨rfl, rfl⟩)
        go_round
        case rel => exact ⟨k + 1, by omega, by go_num, HA⟩
        case measure => simp [intOf]; omega
      | false =>
        have HN : Hid (bl (s.data.toList.drop a) = k) := tw_stop blankB 0 _ k (by rw [HL.out]; exact hlt) hall.out (by rw [HC.out]; exact hb)
        go_wp2_with (go_at_call 43; refine (IsBlank_any _ (by omega) (by omega) _).mono ?_; rintro e w' ⟨rfl, rfl⟩)
        go_ret
        exact ⟨ret_int (by rw [HN.out]), rfl⟩
    · have HN : Hid (bl (s.data.toList.drop a) = k) := (tw_all blankB 0 _ (fun j hj => hall.out j (by rw [HL.out] at hj; omega))).trans (by rw [HL.out]; omega)
      have hge : ¬ ((a : Int) + (k : Int) < (s.size : Int)) := by omega
      go_wp2
      go_ret
      exact ⟨ret_int (by rw [HN.out]), rfl⟩

set_option maxRecDepth 100000 in
set_option maxHeartbeats 1000000 in
theorem signs_any (s : ByteArray) (hs : s.size ≤ 134217728) (a : Nat) (ha : a ≤ s.size) (w : World) :
    Calls Tryz.prog 57 #[.string s, .int .i64 (a : Int)] w fun e w' => e = .returned (.int .i64 (tokLen (s.data.toList.drop a))) ∧ w' = w := by
  have HL : Hid ((s.data.toList.drop a).length = s.size - a) := (by simp : (s.data.toList.drop a).length = s.size - a)
  go_enter Tryz.func57, Tryz.ntmps57
  go_wp2
  go_loop [5] (fun nv => ∃ k : Nat, k ≤ s.size - a ∧ nv = .int .i64 k ∧ Hid (∀ j, j < k → tokB ((s.data.toList.drop a).getD j 0) = true)) (fun nv => s.size - a - (intOf nv).toNat)
  case atStart => exact ⟨0, Nat.zero_le _, rfl, (fun j hj => by omega : ∀ j, j < 0 → _)⟩
  case round =>
    obtain ⟨k, hk, rfl, hall⟩ := hrel
    by_cases hlt : k < s.size - a
    · have hlt2 : a + k < s.size := by omega
      have hby : ((s[a + k].toNat : Nat) : Int) = byt s (a + k) := byt_at s (a + k) hlt2
      obtain ⟨b0, b1⟩ := byt_bd s (a + k)
      have HC : Hid (tokB ((s.data.toList.drop a).getD k 0) = tokI (byt s (a + k))) := (by rw [drop_getD]; rfl : tokB _ = _)
      cases hb : tokI (byt s (a + k)) with
      | true =>
        have HA : Hid (∀ j, j < k + 1 → tokB ((s.data.toList.drop a).getD j 0) = true) := by
          intro j hj
          by_cases hjk : j = k
          · subst hjk; rw [HC.out]; exact hb
          · exact hall.out j (by omega)
        go_wp2_with (go_at_call 31; refine (IsSign_any _ (by omega) (by omega) _).mono ?_; rintro e w' ⟨rfl, rfl⟩)
        go_round
        case rel => exact ⟨k + 1, by omega, by go_num, HA⟩
        case measure => simp [intOf]; omega
      | false =>
        have HN : Hid (tokLen (s.data.toList.drop a) = k) := tw_stop tokB 0 _ k (by rw [HL.out]; exact hlt) hall.out (by rw [HC.out]; exact hb)
        go_wp2_with (go_at_call 31; refine (IsSign_any _ (by omega) (by omega) _).mono ?_; rintro e w' ⟨rfl, rfl⟩)
        go_ret
        exact ⟨ret_int (by rw [HN.out]), rfl⟩
    · have HN : Hid (tokLen (s.data.toList.drop a) = k) := (tw_all tokB 0 _ (fun j hj => hall.out j (by rw [HL.out] at hj; omega))).trans (by rw [HL.out]; omega)
      have hge : ¬ ((a : Int) + (k : Int) < (s.size : Int)) := by omega
      go_wp2
      go_ret
      exact ⟨ret_int (by rw [HN.out]), rfl⟩

end Oc
end Go.Proofs.YthfckgdaencagaaGreatDoor
