import Derived.Test.YtdcfhnbagldilaaGreatDoorMgK
set_option linter.unusedVariables false
set_option linter.unusedSimpArgs false
namespace Go.Proofs.YtdcfhnbagldilaaGreatDoor
open Go.RowKit Go.Shelf
namespace Fd
open Oc Tg
theorem byt_list (s : ByteArray) (k : Nat) (c : UInt8) (h : s.data.toList.getD k 0 = c) : byt s k = (c.toNat : Int) := by unfold byt; rw [h]
theorem list_byt (s : ByteArray) (k : Nat) (c : UInt8) (h : byt s k = (c.toNat : Int)) : s.data.toList.getD k 0 = c := by unfold byt at h; exact UInt8.toNat_inj.1 (by omega)
theorem mapk (o : Option Nat) (a b : Nat) : (o.map (· + a)).map (· + b) = o.map (· + (a + b)) := by cases o <;> simp [Nat.add_assoc]
set_option maxRecDepth 100000 in
set_option maxHeartbeats 2000000 in
theorem rQuoted_any (s : ByteArray) (hs : s.size ≤ 134217728) (h0 : 0 < s.size) (hq : byt s 0 = 34) (w : World) :
    Calls Tryz.prog 122 #[.string s] w fun e w' => e = .returned (.int .i64 (qlen s.data.toList : Nat)) ∧ w' = w := by
  have HQ : Hid (qlen s.data.toList = plusOne (qscan false (s.data.toList.drop 1))) := qlen_some s h0 hq
  clear hq
  go_enter Tryz.func122, Tryz.ntmps122
  go_wp2
  go_loop [3] (fun i => ∃ k : Nat, 1 ≤ k ∧ k ≤ s.size ∧ i = .int .i64 k ∧ Hid (qscan false (s.data.toList.drop 1) = (qscan false (s.data.toList.drop k)).map (· + (k - 1)))) (fun i => s.size - (intOf i).toNat)
  case atStart => exact ⟨1, Nat.le_refl _, h0, rfl, (by simp : qscan false (s.data.toList.drop 1) = (qscan false (s.data.toList.drop 1)).map (· + (1 - 1)))⟩
  case round =>
    obtain ⟨k, hk1, hk, rfl, hst⟩ := hrel
    by_cases hlt : k < s.size
    · have hby : ((s[k].toNat : Nat) : Int) = byt s k := byt_at s k hlt
      obtain ⟨b0, b1⟩ := byt_bd s k
      have HD : Hid (s.data.toList.drop k = s.data.toList.getD k 0 :: s.data.toList.drop (k + 1)) := drop_cons _ k (by rw [size_list]; exact hlt)
      by_cases h34 : byt s k = 34
      · have HE : Hid (qlen s.data.toList = k + 1) := by
          show _ = _
          rw [HQ.out, hst.out, HD.out, scan_end _ _ (list_byt s k 34 h34)]
          show 1 + (k - 1) + 1 = k + 1
          omega
        have q34 : ((s[k].toNat : Int) == 34) = true := by rw [hby, h34]; rfl
        go_wp2
        go_ret
        exact ⟨ret_int (by rw [HE.out]; omega), rfl⟩
      · have q34 : ((s[k].toNat : Int) == 34) = false := by rw [hby]; simpa using h34
        by_cases h92 : byt s k = 92
        · have q92 : ((s[k].toNat : Int) == 92) = true := by rw [hby, h92]; rfl
          have HB : Hid (qscan false (s.data.toList.drop 1) = (qscan true (s.data.toList.drop (k + 1))).map (· + (1 + (k - 1)))) := by
            show _ = _
            rw [hst.out, HD.out, scan_back _ _ (list_byt s k 92 h92), mapk]
          by_cases hl1 : k + 1 < s.size
          · have hby1 : ((s[k + 1].toNat : Nat) : Int) = byt s (k + 1) := byt_at s (k + 1) hl1
            have qn : (((k : Int) + 1) == (s.size : Int)) = false := by simp; omega
            obtain ⟨d0, d1⟩ := byt_bd s (k + 1)
            have HD1 : Hid (s.data.toList.drop (k + 1) = s.data.toList.getD (k + 1) 0 :: s.data.toList.drop (k + 2)) := drop_cons _ (k + 1) (by rw [size_list]; exact hl1)
            cases hf : fieldI (byt s (k + 1)) with
            | true =>
              have HN : Hid (qscan false (s.data.toList.drop 1) = (qscan false (s.data.toList.drop (k + 2))).map (· + (k + 2 - 1))) := by
                show _ = _
                rw [HB.out, HD1.out, scan_esc _ _ hf, mapk, show 1 + (1 + (k - 1)) = k + 2 - 1 by omega]
              go_wp2_with (go_at_call 28; refine (rInside_any _ (by omega) (by omega) _).mono ?_; rintro e w' ⟨rfl, rfl⟩)
              go_round
              case rel => exact ⟨k + 2, by omega, by omega, by go_num, HN⟩
              case measure => simp [intOf]; omega
            | false =>
              have HE : Hid (qlen s.data.toList = 0) := by
                show _ = _
                rw [HQ.out, HB.out, HD1.out, scan_field _ _ _ hf]
                rfl
              go_wp2_with (go_at_call 28; refine (rInside_any _ (by omega) (by omega) _).mono ?_; rintro e w' ⟨rfl, rfl⟩)
              go_ret
              exact ⟨ret_int (by rw [HE.out]; rfl), rfl⟩
          · have HE : Hid (qlen s.data.toList = 0) := by
              show _ = _
              rw [HQ.out, HB.out, List.drop_eq_nil_of_le (by rw [size_list]; omega)]
              rfl
            have qn : (((k : Int) + 1) == (s.size : Int)) = true := by simp; omega
            go_wp2
            go_ret
            exact ⟨ret_int (by rw [HE.out]; rfl), rfl⟩
        · have q92 : ((s[k].toNat : Int) == 92) = false := by rw [hby]; simpa using h92
          cases hf : fieldI (byt s k) with
          | true =>
            have HN : Hid (qscan false (s.data.toList.drop 1) = (qscan false (s.data.toList.drop (k + 1))).map (· + (k + 1 - 1))) := by
              show _ = _
              rw [hst.out, HD.out, scan_on _ _ hf (fun e => h92 (byt_list s k _ e)) (fun e => h34 (byt_list s k _ e)), mapk, show 1 + (k - 1) = k + 1 - 1 by omega]
            go_wp2_with (go_at_call 28; refine (rInside_any _ (by omega) (by omega) _).mono ?_; rintro e w' ⟨rfl, rfl⟩)
            go_round
            case rel => exact ⟨k + 1, by omega, by omega, by go_num, HN⟩
            case measure => simp [intOf]; omega
          | false =>
            have HE : Hid (qlen s.data.toList = 0) := by
              show _ = _
              rw [HQ.out, hst.out, HD.out, scan_field _ _ _ hf]
              rfl
            go_wp2_with (go_at_call 28; refine (rInside_any _ (by omega) (by omega) _).mono ?_; rintro e w' ⟨rfl, rfl⟩)
            go_ret
            exact ⟨ret_int (by rw [HE.out]; rfl), rfl⟩
    · have HE : Hid (qlen s.data.toList = 0) := by
        show _ = _
        rw [HQ.out, hst.out, List.drop_eq_nil_of_le (by rw [size_list]; omega)]
        rfl
      go_wp2
      go_ret
      exact ⟨ret_int (by rw [HE.out]; rfl), rfl⟩
set_option maxRecDepth 100000 in
set_option maxHeartbeats 2000000 in
theorem rElements_any (s : ByteArray) (hs : s.size ≤ 134217728) (w : World) :
    Calls Tryz.prog 103 #[.string s] w fun e w' => ∃ v, e = .returned (.tuple #[v, .bool (decide ((listR s.data.toList).2 = 0))]) ∧ OwnS w.heap.size v (listR s.data.toList).1 w' ∧ Below w.heap.size w w' := by
  go_enter Tryz.func103, Tryz.ntmps103
  go_wp2
  go_loopw [4, 5, 6] (fun lv fv av wr => ∃ (fr a : Nat) (acc : List (List UInt8)), fr ≤ a ∧ a ≤ s.size + 1 ∧ fv = .int .i64 fr ∧ av = .int .i64 a ∧ acc.length ≤ a ∧ Hid (if a ≤ s.size then lst [] s.data.toList = (lst (piece s.data.toList fr a) (s.data.toList.drop a)).map (acc ++ ·) else lst [] s.data.toList = some acc) ∧ Hid (OwnS w.heap.size lv acc wr) ∧ Hid (Below w.heap.size w wr)) (fun _ _ av _ => s.size + 1 - (intOf av).toNat)
  case atStart => exact ⟨0, 0, [], Nat.le_refl _, Nat.zero_le _, rfl, rfl, Nat.le_refl _, (by rw [if_pos (Nat.zero_le _)]; simp [piece_nil] : if 0 ≤ s.size then _ else _), ownS_nil _ _, Below.refl _ _⟩
  case round =>
    obtain ⟨fr, a, acc, hfa, has, rfl, rfl, hacc, hst0, hown, hbl⟩ := hrel
    have hsz := hbl.out.size
    by_cases hle : a ≤ s.size
    · have hst : Hid (lst [] s.data.toList = (lst (piece s.data.toList fr a) (s.data.toList.drop a)).map (acc ++ ·)) := (by have h := hst0.out; rwa [if_pos hle] at h : lst [] s.data.toList = _)
      clear hst0
      have HE : Hid ((s.extract fr a).data.toList = piece s.data.toList fr a) := piece_ext s fr a
      by_cases hcm : a = s.size ∨ (∃ h : a < s.size, byt s a = 44)
      · -- an element ends here
        have HN : Hid (if a + 1 ≤ s.size then lst [] s.data.toList = (lst (piece s.data.toList (a + 1) (a + 1)) (s.data.toList.drop (a + 1))).map ((acc ++ addEl (trim (piece s.data.toList fr a)) []) ++ ·) else lst [] s.data.toList = some (acc ++ addEl (trim (piece s.data.toList fr a)) [])) := by
          show if _ then _ else _
          rcases hcm with h | ⟨h, hb⟩
          · rw [if_neg (by omega), hst.out, show s.data.toList.drop a = [] from List.drop_of_length_le (by rw [size_list]; omega), lst_nil]
            rfl
          · rw [if_pos (by omega)]
            refine lst_step _ acc fr a [] ?_
            have e := drop_cons s.data.toList a (by rw [size_list]; exact h)
            have e2 : s.data.toList.getD a 0 = 44 := UInt8.toNat_inj.1 (by unfold byt at hb; show _ = 44; omega)
            rw [hst.out, e, e2]
        have HLn : Hid ((acc ++ addEl (trim (piece s.data.toList fr a)) []).length ≤ a + 1) := by
          show List.length _ ≤ _
          have := addEl_len (trim (piece s.data.toList fr a))
          rw [List.length_append]
          omega
        have hts : (∃ h : a < s.size, ((a : Int) == (s.size : Int)) = false ∧ ((s[a].toNat : Nat) : Int) = byt s a ∧ (byt s a == 44) = true ∧ (byt s a == 34) = false) ∨ (((a : Int) == (s.size : Int)) = true ∧ ¬ a < s.size) := by
          rcases hcm with h | ⟨h, hb⟩
          · right; exact ⟨by simp [h], by omega⟩
          · left; exact ⟨h, by simp; omega, byt_at s a h, by simp [hb], by simp [hb]⟩
        clear hcm
        have hle' : (a : Int) ≤ (s.size : Int) := by omega
        by_cases hz : trim (piece s.data.toList fr a) = []
        · have HZ : Hid (addEl (trim (piece s.data.toList fr a)) [] = []) := addEl_none hz []
          have HEm : Hid ((str (trim (piece s.data.toList fr a))).toList.isEmpty = true) := (by rw [str_empty]; simp [hz] : (str (trim (piece s.data.toList fr a))).toList.isEmpty = true)
          clear hz
          rcases hts with ⟨hlt, hts1, hts2, hts3, hts4⟩ | ⟨hts1, hts2⟩
          all_goals
            go_wp2_with fail
            refine (rTrim_any (s.extract fr a) (by unfold maxLen; simp; omega) _).mono ?_
            rintro e w2 ⟨rfl, rfl⟩
            rw [HE.out]
            have hem := HEm.out
            generalize str (trim (piece s.data.toList fr a)) = x at hem ⊢
            go_wp2
            go_roundw
            case rel => exact ⟨a + 1, a + 1, _, Nat.le_refl _, by omega, by go_num, by go_num, HLn.out, HN, (by rw [HZ.out, List.append_nil]; exact hown.out : OwnS _ _ _ _), hbl⟩
            case measure => simp [intOf]; omega
        · have HZ : Hid (addEl (trim (piece s.data.toList fr a)) [] = [trim (piece s.data.toList fr a)]) := addEl_some hz []
          have hem : (str (trim (piece s.data.toList fr a))).toList.isEmpty = false := by rw [str_empty]; simp [hz]
          clear hz
          rcases hts with ⟨hlt, hts1, hts2, hts3, hts4⟩ | ⟨hts1, hts2⟩
          all_goals
            go_wp2_with fail
            refine (rTrim_any (s.extract fr a) (by unfold maxLen; simp; omega) _).mono ?_
            rintro e w2 ⟨rfl, rfl⟩
            rw [HE.out]
            go_wp2_with (at_builtin; go_must (refine wp_appS rfl (.tmp 52) (.tmp 54) rfl w.heap.size _ acc _ (trim (piece s.data.toList fr a)) rfl hown.out rfl ?h1 ?h2 ?_))
            case h1 => omega
            case h2 => omega
            intro v' w3 hown3 hb3
            have HO3 : Hid (OwnS w.heap.size v' (acc ++ addEl (trim (piece s.data.toList fr a)) []) w3) := (by rw [HZ.out]; exact hown3 : OwnS _ _ _ _)
            have HB3 : Hid (Below w.heap.size w w3) := hbl.out.trans hb3
            clear hown3 hb3
            go_wp2
            go_roundw
            case rel => exact ⟨a + 1, a + 1, _, Nat.le_refl _, by omega, by go_num, by go_num, HLn.out, HN, HO3, HB3⟩
            case measure => simp [intOf]; omega
      · have hlt : a < s.size := by
          rcases Nat.lt_or_ge a s.size with h | h
          · exact h
          · exact absurd (.inl (by omega)) hcm
        have h44 : ¬ byt s a = 44 := fun h => hcm (.inr ⟨hlt, h⟩)
        clear hcm
        have hby : ((s[a].toNat : Nat) : Int) = byt s a := byt_at s a hlt
        have hne : ((a : Int) == (s.size : Int)) = false := by simp; omega
        have h44' : (byt s a == 44) = false := by simp [h44]
        have HC : Hid (byt s a = ((s.data.toList.getD a 0).toNat : Int)) := rfl
        have HD : Hid (s.data.toList.drop a = s.data.toList.getD a 0 :: s.data.toList.drop (a + 1)) := drop_cons _ a (by rw [size_list]; exact hlt)
        have HP : Hid (piece s.data.toList fr a ++ [s.data.toList.getD a 0] = piece s.data.toList fr (a + 1)) := piece_snoc _ fr a hfa (by rw [size_list]; exact hlt)
        generalize s.data.toList.getD a 0 = u at HC HD HP
        have HU44 : Hid (u ≠ 44) := fun e => h44 (by have := HC.out; rw [e] at this; exact this)
        clear h44
        by_cases h34 : byt s a = 34
        · have HU : Hid (u = 34) := UInt8.toNat_inj.1 (by have := HC.out; show u.toNat = 34; omega)
          have h34' : (byt s a == 34) = true := by simp [h34]
          have H34 : Hid (byt (s.extract a s.size) 0 = 34) := by
            show _ = _
            rw [← h34]
            unfold byt
            rw [Lib.extract_to_end, getD_drop, Nat.add_zero]
          clear h34
          have HX : Hid ((s.extract a s.size).data.toList = s.data.toList.drop a) := Lib.extract_to_end s a
          have hqb := qlen_bd (s.data.toList.drop a)
          rw [List.length_drop, size_list] at hqb
          obtain ⟨hq1, hq2⟩ := hqb
          by_cases hq : qlen (s.data.toList.drop a) = 0
          · have HN : Hid (listR s.data.toList = ([], 14)) := listR_none (by
              rw [hst.out]
              have h := hq
              rw [HD.out] at h ⊢
              rw [lst_bad _ _ _ HU.out h]
              rfl)
            have HQ : Hid (∀ w, Calls Tryz.prog 122 #[.string (s.extract a s.size)] w fun e w' => e = .returned (.int .i64 0) ∧ w' = w) := fun w => by
              have h := rQuoted_any (s.extract a s.size) (by simp; omega) (by simp; omega) H34.out w
              rw [HX.out, hq] at h
              exact h
            go_wp2_with fail
            refine (HQ.out _).mono ?_
            rintro e w2 ⟨rfl, rfl⟩
            go_wp2
            go_ret2
            rw [HN.out]
            exact ⟨_, rfl, ownS_nil _ _, hbl.out⟩
          · have hq3 := hq2 hq
            have HN : Hid (lst [] s.data.toList = (lst (piece s.data.toList fr (a + qlen (s.data.toList.drop a))) (s.data.toList.drop (a + qlen (s.data.toList.drop a)))).map (acc ++ ·)) := by
              show lst _ _ = _
              rw [← piece_app _ fr a _ hfa, ← List.drop_drop]
              have h := hst.out
              have hq' := hq
              rw [HD.out] at h hq'
              rw [lst_quote _ _ _ HU.out hq', ← HD.out] at h
              exact h
            have HQ : Hid (∀ w, Calls Tryz.prog 122 #[.string (s.extract a s.size)] w fun e w' => e = .returned (.int .i64 (qlen (s.data.toList.drop a) : Nat)) ∧ w' = w) := fun w => by
              have h := rQuoted_any (s.extract a s.size) (by simp; omega) (by simp; omega) H34.out w
              rw [HX.out] at h
              exact h
            clear hq2
            generalize qlen (s.data.toList.drop a) = n at *
            have hn1 : 1 ≤ n := by omega
            have hnq : ((n : Int) == 0) = false := by simp; omega
            clear hq
            go_wp2_with fail
            refine (HQ.out _).mono ?_
            rintro e w2 ⟨rfl, rfl⟩
            go_wp2
            go_roundw
            case rel => exact ⟨fr, a + n, acc, by omega, by omega, rfl, by go_num, by omega, (by show if _ then _ else _; rw [if_pos (by omega)]; exact HN.out), hown, hbl⟩
            case measure => simp [intOf]; omega
        · have h34' : (byt s a == 34) = false := by simp [h34]
          have HU34 : Hid (u ≠ 34) := fun e => h34 (by have := HC.out; rw [e] at this; exact this)
          clear h34
          have HN : Hid (lst [] s.data.toList = (lst (piece s.data.toList fr (a + 1)) (s.data.toList.drop (a + 1))).map (acc ++ ·)) := by
            show lst _ _ = _
            rw [hst.out, HD.out, lst_on _ _ _ HU44.out HU34.out, HP.out]
          go_wp2
          go_roundw
          case rel => exact ⟨fr, a + 1, acc, by omega, by omega, rfl, by go_num, by omega, (by show if _ then _ else _; rw [if_pos (by omega)]; exact HN.out), hown, hbl⟩
          case measure => simp [intOf]; omega
    · have HN : Hid (listR s.data.toList = (acc, 0)) := listR_some (by have h := hst0.out; rwa [if_neg hle] at h)
      have hle' : ¬ (a : Int) ≤ (s.size : Int) := by omega
      go_wp2
      go_ret2
      rw [HN.out]
      exact ⟨_, rfl, hown.out, hbl.out⟩
end Fd
end Go.Proofs.YtdcfhnbagldilaaGreatDoor
