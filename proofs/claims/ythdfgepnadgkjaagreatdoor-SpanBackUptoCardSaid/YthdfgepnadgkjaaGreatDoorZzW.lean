/- Several texts as one. -/
import Derived.Test.YthdfgepnadgkjaaGreatDoorZzG
import Derived.Test.YthdfgepnadgkjaaGreatDoorZzH
/-
  octet.partsSay, octet.Unquote.
-/
set_option linter.unusedVariables false
set_option linter.unusedSimpArgs false
namespace Go.Proofs.YthdfgepnadgkjaaGreatDoor
open Go.RowKit Go.Shelf
namespace Oc

theorem say_back (c : UInt8) (l : List UInt8) (h : c = 92) : psay false (c :: l) = psay true l := by rw [psay, if_pos ⟨h, rfl⟩]
theorem say_esc (c : UInt8) (l : List UInt8) : psay true (c :: l) = c :: psay false l := by rw [psay, if_neg (by simp)]
theorem say_on (e : Bool) (c : UInt8) (l : List UInt8) (h : c ≠ 92) : psay e (c :: l) = c :: psay false l := by rw [psay, if_neg (fun x => h x.1)]

end Oc
end Go.Proofs.YthdfgepnadgkjaaGreatDoor

/-
  The document's Unquote.
-/
set_option linter.unusedVariables false
set_option linter.unusedSimpArgs false
namespace Go.Proofs.YthdfgepnadgkjaaGreatDoor
open Go.RowKit Go.Shelf
namespace Oc

theorem unqR_zero (s : ByteArray) (h : ¬ (0 < s.size ∧ byt s 0 = 34)) : unqR s.data.toList = ([], 0, 13) := by
  unfold unqR
  rw [if_pos (qlen_none s h)]
theorem head_quote (s : ByteArray) (h : 0 < s.size) (h2 : byt s 0 = 34) : s.data.toList = 34 :: s.data.toList.drop 1 := by
  have e : s.data.toList.getD 0 0 = 34 := UInt8.toNat_inj.1 (by unfold byt at h2; show _ = 34; omega)
  conv => lhs; rw [cons_of (show ¬ s.size = 0 by omega), e]
theorem own_empty (w : World) : Own w.heap.size (.slice (some ⟨w.heap.size, 0, none⟩) 0 0) [] (w.alloc (.cells #[] 5)) :=
  ⟨by simp [Lib.byteCells], .inr ⟨w.heap.size, 0, #[], rfl, Nat.le_refl _, heap_alloc_new w _, by simp, by decide, by simp, by simp [Lib.byteCells]⟩⟩
theorem map_none {α β : Type} {o : Option α} {f : α → β} (h : o = none) : o.map f = none := by rw [h]; rfl
theorem ru_end (c : UInt8) (l : List UInt8) (h : c = 34) : ru false (c :: l) = some ([], 1) := by subst h; rw [ru, if_pos rfl]
theorem ru_back (c : UInt8) (l : List UInt8) (h : c = 92) : ru false (c :: l) = (ru true l).map (fun x => (x.1, x.2 + 1)) := by subst h; rw [ru, if_neg (by decide), if_pos rfl]
theorem ru_bad (c : UInt8) (l : List UInt8) (h : fieldB c = false) : ru false (c :: l) = none := by
  rw [ru, if_neg (by intro e; subst e; simp [field34] at h), if_neg (by intro e; subst e; simp [field92] at h), h]
  rfl
theorem ru_on (c : UInt8) (l : List UInt8) (h : fieldB c = true) (h1 : c ≠ 34) (h2 : c ≠ 92) : ru false (c :: l) = (ru false l).map (fun x => (c :: x.1, x.2 + 1)) := by
  rw [ru, if_neg h1, if_neg h2, if_pos h]
theorem rut_bad (c : UInt8) (l : List UInt8) (h : fieldB c = false) : ru true (c :: l) = none := by rw [ru, h]; rfl
theorem rut_on (c : UInt8) (l : List UInt8) (h : fieldB c = true) : ru true (c :: l) = (ru false l).map (fun x => (c :: x.1, x.2 + 1)) := by rw [ru, if_pos h]
theorem shift1 (o : List UInt8) (k : Nat) (u : UInt8) (r : Option (List UInt8 × Nat)) (hk : 1 ≤ k) :
    ((r.map (fun x => (u :: x.1, x.2 + 1))).map (fun x => (o ++ x.1, x.2 + (k - 1)))) = r.map (fun x => ((o ++ [u]) ++ x.1, x.2 + (k + 1 - 1))) := by
  cases r with
  | none => rfl
  | some x => simp; omega
theorem shift2 (o : List UInt8) (k : Nat) (u : UInt8) (r : Option (List UInt8 × Nat)) (hk : 1 ≤ k) :
    (((r.map (fun x => (u :: x.1, x.2 + 1))).map (fun x => (x.1, x.2 + 1))).map (fun x => (o ++ x.1, x.2 + (k - 1)))) = r.map (fun x => ((o ++ [u]) ++ x.1, x.2 + (k + 2 - 1))) := by
  cases r with
  | none => rfl
  | some x => simp; omega

set_option maxRecDepth 100000 in
set_option maxHeartbeats 2000000 in
theorem rUnquote_any (s : ByteArray) (hs : s.size ≤ 134217728) (w : World) :
    Calls Tryz.prog 42 #[.string s] w fun e w' => e = .returned (.tuple #[.string (str (unqR s.data.toList).1), .int .i64 (unqR s.data.toList).2.1, .int .i64 (unqR s.data.toList).2.2]) ∧ Below w.heap.size w w' := by
  by_cases hp : 0 < s.size ∧ byt s 0 = 34
  · obtain ⟨hp1, hp2⟩ := hp
    have he := nonempty_of (show ¬ s.size = 0 by omega)
    have hby : (((s[0]'hp1).toNat : Nat) : Int) = byt s 0 := byt_at s 0 hp1
    have HH : Hid (s.data.toList = 34 :: s.data.toList.drop 1) := head_quote s hp1 hp2
    have HE : Hid (ru false (s.data.toList.drop 1) = none → unqR s.data.toList = ([], 0, 13)) := fun h => by rw [HH.out]; exact unqR_none _ h
    have HO : Hid (∀ o k, ru false (s.data.toList.drop 1) = some (o, k) → unqR s.data.toList = (o, (k : Int) + 1, 0)) := fun o k h => by rw [HH.out]; exact unqR_some _ _ h
    have hb34 : (byt s 0 != 34) = false := by simp [hp2]
    have hp2' : Hid (byt s 0 = 34) := hp2
    clear hp2
    go_enter Tryz.func42, Tryz.ntmps42
    go_wp2
    clear hby hb34 he
    go_loopw [5, 6] (fun sv i wr => ∃ (k : Nat) (o : List UInt8), 1 ≤ k ∧ k ≤ s.size + 1 ∧ i = .int .i64 k ∧ o.length ≤ k ∧ Hid (ru false (s.data.toList.drop 1) = (ru false (s.data.toList.drop k)).map (fun x => (o ++ x.1, x.2 + (k - 1)))) ∧ Hid (Own w.heap.size sv o wr) ∧ Hid (Below w.heap.size w wr)) (fun _ i _ => s.size + 1 - (intOf i).toNat)
    case atStart => exact ⟨1, [], Nat.le_refl _, by omega, rfl, by simp, (by simp : ru false (s.data.toList.drop 1) = (ru false (s.data.toList.drop 1)).map (fun x => ([] ++ x.1, x.2 + (1 - 1)))), own_empty w, (Below.refl _ w).alloc (Nat.le_refl _) _⟩
    case round =>
      obtain ⟨k, o, hk1, hk, rfl, hol, hst, hown, hbl⟩ := hrel
      have hsz := hbl.out.size
      by_cases hlt : k < s.size
      · have hby : ((s[k].toNat : Nat) : Int) = byt s k := byt_at s k hlt
        obtain ⟨b0, b1⟩ := byt_bd s k
        have HC : Hid (byt s k = ((s.data.toList.getD k 0).toNat : Int)) := rfl
        have HD : Hid (s.data.toList.drop k = s.data.toList.getD k 0 :: s.data.toList.drop (k + 1)) := drop_cons _ k (by rw [size_list]; exact hlt)
        generalize s.data.toList.getD k 0 = u at HC HD
        by_cases h92 : byt s k = 92
        · have h34' : (byt s k == 34) = false := by simp [h92]
          have h92' : (byt s k == 92) = true := by simp [h92]
          have HU : Hid (u = 92) := UInt8.toNat_inj.1 (by have := HC.out; show u.toNat = 92; omega)
          clear h92
          have HS1 : Hid (ru false (s.data.toList.drop 1) = ((ru true (s.data.toList.drop (k + 1))).map (fun x => (x.1, x.2 + 1))).map (fun x => (o ++ x.1, x.2 + (k - 1)))) := by
            show ru _ _ = _
            rw [hst.out, HD.out, ru_back _ _ HU.out]
          by_cases hlt2 : k + 1 < s.size
          · have hby2 : ((s[k + 1].toNat : Nat) : Int) = byt s (k + 1) := byt_at s (k + 1) hlt2
            obtain ⟨d0, d1⟩ := byt_bd s (k + 1)
            have HC2 : Hid (byt s (k + 1) = ((s.data.toList.getD (k + 1) 0).toNat : Int)) := rfl
            have HD2 : Hid (s.data.toList.drop (k + 1) = s.data.toList.getD (k + 1) 0 :: s.data.toList.drop (k + 2)) := drop_cons _ (k + 1) (by rw [size_list]; exact hlt2)
            generalize s.data.toList.getD (k + 1) 0 = u2b at HC2 HD2
            have HF : Hid (fieldB u2b = fieldI (byt s (k + 1))) := (by unfold fieldB; rw [HC2.out] : fieldB u2b = fieldI (byt s (k + 1)))
            cases hf : fieldI (byt s (k + 1)) with
            | false =>
              have HN : Hid (unqR s.data.toList = ([], 0, 13)) := HE.out (by rw [HS1.out, HD2.out, rut_bad _ _ (by rw [HF.out]; exact hf)]; rfl)
              go_wp2_with (go_at_call 66; refine (IsByte_any _ (by omega) (by omega) _).mono ?_; rintro e w' ⟨rfl, rfl⟩)
              go_ret3
              rw [HN.out]
              exact ⟨rfl, hbl.out⟩
            | true =>
              have HN : Hid (ru false (s.data.toList.drop 1) = (ru false (s.data.toList.drop (k + 2))).map (fun x => ((o ++ [u2b]) ++ x.1, x.2 + (k + 2 - 1)))) := by
                show ru _ _ = _
                rw [HS1.out, HD2.out, rut_on _ _ (by rw [HF.out]; exact hf), shift2 _ _ _ _ hk1]
              go_wp2_with (first | (go_at_call 66; refine (IsByte_any _ (by omega) (by omega) _).mono ?_; rintro e w' ⟨rfl, rfl⟩) | (at_builtin; refine wp_app rfl (.tmp 44) (.tmp 48) rfl w.heap.size _ o _ _ u2b HC2.out rfl hown.out rfl ?h1 ?h2 ?_))
              case h1 => omega
              case h2 => omega
              intro v4 w4 hown4 hbl4 _
              have HO4 : Hid (Own w.heap.size v4 (o ++ [u2b]) w4) := hown4
              have HB4 : Hid (Below w.heap.size w w4) := hbl.out.trans hbl4
              clear hown4 hbl4
              go_wp2
              go_roundw
              case rel => exact ⟨k + 2, o ++ [u2b], by omega, by omega, by go_num, by simp; omega, HN, HO4, HB4⟩
              case measure => simp [intOf]; omega
          · have HN : Hid (unqR s.data.toList = ([], 0, 13)) := HE.out (by
              rw [HS1.out, show s.data.toList.drop (k + 1) = [] from List.drop_of_length_le (by rw [size_list]; omega)]
              rfl)
            have hge : ¬ ((k : Int) + 1 < (s.size : Int)) := by omega
            go_wp2
            go_ret3
            rw [HN.out]
            exact ⟨rfl, hbl.out⟩
        · have h92' : (byt s k == 92) = false := by simp [h92]
          by_cases h34 : byt s k = 34
          · have HN : Hid (unqR s.data.toList = (o, (k : Int) + 1, 0)) := by
              have h1 := HO.out o k (by
                rw [hst.out, HD.out, ru_end _ _ (UInt8.toNat_inj.1 (by have := HC.out; show u.toNat = 34; omega))]
                simp
                omega)
              exact h1
            have h34' : (byt s k == 34) = true := by simp [h34]
            have hbk := own_back hown.out
            clear h34 h92
            go_wp2
            go_ret3
            rw [HN.out]
            exact ⟨rfl, hbl.out⟩
          · have h34' : (byt s k == 34) = false := by simp [h34]
            have HU1 : Hid (u ≠ 34 ∧ u ≠ 92) := ⟨fun e => h34 (by have := HC.out; rw [e] at this; exact this), fun e => h92 (by have := HC.out; rw [e] at this; exact this)⟩
            have HF : Hid (fieldB u = fieldI (byt s k)) := (by unfold fieldB; rw [HC.out] : fieldB u = fieldI (byt s k))
            clear h34 h92
            cases hf : fieldI (byt s k) with
            | false =>
              have HN : Hid (unqR s.data.toList = ([], 0, 13)) := HE.out (by rw [hst.out, HD.out, ru_bad _ _ (by rw [HF.out]; exact hf)]; rfl)
              go_wp2_with (go_at_call 66; refine (IsByte_any _ (by omega) (by omega) _).mono ?_; rintro e w' ⟨rfl, rfl⟩)
              go_ret3
              rw [HN.out]
              exact ⟨rfl, hbl.out⟩
            | true =>
              have HN : Hid (ru false (s.data.toList.drop 1) = (ru false (s.data.toList.drop (k + 1))).map (fun x => ((o ++ [u]) ++ x.1, x.2 + (k + 1 - 1)))) := by
                show ru _ _ = _
                rw [hst.out, HD.out, ru_on _ _ (by rw [HF.out]; exact hf) HU1.out.1 HU1.out.2, shift1 _ _ _ _ hk1]
              go_wp2_with (first | (go_at_call 66; refine (IsByte_any _ (by omega) (by omega) _).mono ?_; rintro e w' ⟨rfl, rfl⟩) | (at_builtin; refine wp_app rfl (.tmp 44) (.tmp 48) rfl w.heap.size _ o _ _ u HC.out rfl hown.out rfl ?h1 ?h2 ?_))
              case h1 => omega
              case h2 => omega
              intro v4 w4 hown4 hbl4 _
              have HO4 : Hid (Own w.heap.size v4 (o ++ [u]) w4) := hown4
              have HB4 : Hid (Below w.heap.size w w4) := hbl.out.trans hbl4
              clear hown4 hbl4
              go_wp2
              go_roundw
              case rel => exact ⟨k + 1, o ++ [u], by omega, by omega, by go_num, by simp; omega, HN, HO4, HB4⟩
              case measure => simp [intOf]; omega
      · have HN : Hid (unqR s.data.toList = ([], 0, 13)) := HE.out (by
          rw [hst.out, show s.data.toList.drop k = [] from List.drop_of_length_le (by rw [size_list]; omega)]
          rfl)
        go_wp2
        go_ret3
        rw [HN.out]
        exact ⟨rfl, hbl.out⟩
  · have HU : Hid (unqR s.data.toList = ([], 0, 13)) := unqR_zero s hp
    by_cases hz : s.size = 0
    · have he := empty_of hz
      clear hz hp
      go_enter Tryz.func42, Tryz.ntmps42
      go_wp2
      go_ret3
      rw [HU.out]
      exact ⟨rfl, Below.refl _ _⟩
    · have he := nonempty_of hz
      have hp1 : 0 < s.size := by omega
      have hby : (((s[0]'hp1).toNat : Nat) : Int) = byt s 0 := byt_at s 0 hp1
      have hb34 : (byt s 0 != 34) = true := by simp; exact fun e => hp ⟨hp1, e⟩
      clear hp
      go_enter Tryz.func42, Tryz.ntmps42
      go_wp2
      go_ret3
      rw [HU.out]
      exact ⟨rfl, Below.refl _ _⟩

end Oc
end Go.Proofs.YthdfgepnadgkjaaGreatDoor

/-
  The document's List.
-/
set_option linter.unusedVariables false
set_option linter.unusedSimpArgs false
namespace Go.Proofs.YthdfgepnadgkjaaGreatDoor
open Go.RowKit Go.Shelf
namespace Oc

theorem unqR_q (l : List UInt8) (h : qlen l = 0) : unqR l = ([], 0, 13) := by unfold unqR; rw [if_pos h]
theorem unqR_p (l : List UInt8) (h : ¬ qlen l = 0) : ∃ x, unqR l = (x, (qlen l : Int), 0) := by unfold unqR; rw [if_neg h]; exact ⟨_, rfl⟩
theorem ownS_emptyB {B : Nat} (w : World) (hB : B ≤ w.heap.size) : OwnS B (.slice (some ⟨w.heap.size, 0, none⟩) 0 0) [] (w.alloc (.cells #[] 9)) := (ownS_empty w).lower hB

set_option maxRecDepth 100000 in
set_option maxHeartbeats 2000000 in
theorem rList_any (s : ByteArray) (hs : s.size ≤ 134217728) (w : World) :
    Calls Tryz.prog 17 #[.string s] w fun e w' => ∃ v, e = .returned (.tuple #[v, .int .i64 (listR s.data.toList).2]) ∧ OwnS w.heap.size v (listR s.data.toList).1 w' ∧ Below w.heap.size w w' := by
  go_enter Tryz.func17, Tryz.ntmps17
  go_wp2
  go_loopw [4, 5, 6] (fun lv fv av wr => ∃ (fr a : Nat) (acc : List (List UInt8)), fr ≤ a ∧ a ≤ s.size + 1 ∧ fv = .int .i64 fr ∧ av = .int .i64 a ∧ acc.length ≤ a ∧ Hid (if a ≤ s.size then lst [] s.data.toList = (lst (piece s.data.toList fr a) (s.data.toList.drop a)).map (acc ++ ·) else lst [] s.data.toList = some acc) ∧ Hid (OwnS w.heap.size lv acc wr) ∧ Hid (Below w.heap.size w wr)) (fun _ _ av _ => s.size + 1 - (intOf av).toNat)
  case atStart => exact ⟨0, 0, [], Nat.le_refl _, Nat.zero_le _, rfl, rfl, Nat.le_refl _, (by rw [if_pos (Nat.zero_le _)]; simp [piece_nil] : if 0 ≤ s.size then _ else _), ownS_empty w, (Below.refl _ w).alloc (Nat.le_refl _) _⟩
  case round =>
    obtain ⟨fr, a, acc, hfa, has, rfl, rfl, hacc, hst0, hown, hbl⟩ := hrel
    have hsz := hbl.out.size
    by_cases hle : a ≤ s.size
    · have hst : Hid (lst [] s.data.toList = (lst (piece s.data.toList fr a) (s.data.toList.drop a)).map (acc ++ ·)) := (by have h := hst0.out; rwa [if_pos hle] at h : lst [] s.data.toList = _)
      clear hst0
      have HE : Hid ((s.extract fr a).data.toList = piece s.data.toList fr a) := piece_ext s fr a
      by_cases hcm : a = s.size ∨ (∃ h : a < s.size, byt s a = 44)
      · -- an element ends here
        have HN : Hid (if a + 1 ≤ s.size then lst [] s.data.toList = (lst (piece s.data.toList (a + 1) (a + 1)) (s.data.toList.drop (a + 1))).map ((acc ++ addEl (trim (piece s.data.toList fr a)) []) ++ ·) else lst [] s.data.toList = some (acc ++ addEl (trim (piece s.data.toList fr a)) [])) := by
          show if _ then _ else _
          rcases hcm with h | ⟨h, hb⟩
          · rw [if_neg (by omega), hst.out, show s.data.toList.drop a = [] from List.drop_of_length_le (by rw [size_list]; omega), lst_nil]
            rfl
          · rw [if_pos (by omega)]
            refine lst_step _ acc fr a [] ?_
            have e := drop_cons s.data.toList a (by rw [size_list]; exact h)
            have e2 : s.data.toList.getD a 0 = 44 := UInt8.toNat_inj.1 (by unfold byt at hb; show _ = 44; omega)
            rw [hst.out, e, e2]
        have HLn : Hid ((acc ++ addEl (trim (piece s.data.toList fr a)) []).length ≤ a + 1) := by
          show List.length _ ≤ _
          have := addEl_len (trim (piece s.data.toList fr a))
          rw [List.length_append]
          omega
        have hts : (∃ h : a < s.size, ((a : Int) == (s.size : Int)) = false ∧ ((s[a].toNat : Nat) : Int) = byt s a ∧ (byt s a == 44) = true) ∨ ((a : Int) == (s.size : Int)) = true := by
          rcases hcm with h | ⟨h, hb⟩
          · right; simp [h]
          · left; exact ⟨h, by simp; omega, byt_at s a h, by simp [hb]⟩
        clear hcm
        have hle' : (a : Int) ≤ (s.size : Int) := by omega
        by_cases hz : trim (piece s.data.toList fr a) = []
        · have HZ : Hid (addEl (trim (piece s.data.toList fr a)) [] = []) := addEl_none hz []
          have HEm : Hid ((str (trim (piece s.data.toList fr a))).toList.isEmpty = true) := (by rw [str_empty]; simp [hz] : (str (trim (piece s.data.toList fr a))).toList.isEmpty = true)
          clear hz
          rcases hts with ⟨hlt, hts1, hts2, hts3⟩ | hts1
          all_goals
            go_wp2_with fail
            refine (rTrim_any (s.extract fr a) (by unfold maxLen; simp; omega) _).mono ?_
            rintro e w2 ⟨rfl, rfl⟩
            rw [HE.out]
            have hem := HEm.out
            generalize str (trim (piece s.data.toList fr a)) = x at hem ⊢
            go_wp2
            go_roundw
            case rel => exact ⟨a + 1, a + 1, _, Nat.le_refl _, by omega, by go_num, by go_num, HLn.out, HN, (by rw [HZ.out, List.append_nil]; exact hown.out : OwnS _ _ _ _), hbl⟩
            case measure => simp [intOf]; omega
        · have HZ : Hid (addEl (trim (piece s.data.toList fr a)) [] = [trim (piece s.data.toList fr a)]) := addEl_some hz []
          have hem : (str (trim (piece s.data.toList fr a))).toList.isEmpty = false := by rw [str_empty]; simp [hz]
          clear hz
          rcases hts with ⟨hlt, hts1, hts2, hts3⟩ | hts1
          all_goals
            go_wp2_with fail
            refine (rTrim_any (s.extract fr a) (by unfold maxLen; simp; omega) _).mono ?_
            rintro e w2 ⟨rfl, rfl⟩
            rw [HE.out]
            go_wp2_with (at_builtin; go_must (refine wp_appS rfl (.tmp 33) (.tmp 35) rfl w.heap.size _ acc _ (trim (piece s.data.toList fr a)) rfl hown.out rfl ?h1 ?h2 ?_))
            case h1 => omega
            case h2 => omega
            intro v' w3 hown3 hb3
            have HO3 : Hid (OwnS w.heap.size v' (acc ++ addEl (trim (piece s.data.toList fr a)) []) w3) := (by rw [HZ.out]; exact hown3 : OwnS _ _ _ _)
            have HB3 : Hid (Below w.heap.size w w3) := hbl.out.trans hb3
            clear hown3 hb3
            go_wp2
            go_roundw
            case rel => exact ⟨a + 1, a + 1, _, Nat.le_refl _, by omega, by go_num, by go_num, HLn.out, HN, HO3, HB3⟩
            case measure => simp [intOf]; omega
      · have hlt : a < s.size := by
          rcases Nat.lt_or_ge a s.size with h | h
          · exact h
          · exact absurd (.inl (by omega)) hcm
        have h44 : ¬ byt s a = 44 := fun h => hcm (.inr ⟨hlt, h⟩)
        clear hcm
        have hby : ((s[a].toNat : Nat) : Int) = byt s a := byt_at s a hlt
        have hne : ((a : Int) == (s.size : Int)) = false := by simp; omega
        have h44' : (byt s a == 44) = false := by simp [h44]
        have HC : Hid (byt s a = ((s.data.toList.getD a 0).toNat : Int)) := rfl
        have HD : Hid (s.data.toList.drop a = s.data.toList.getD a 0 :: s.data.toList.drop (a + 1)) := drop_cons _ a (by rw [size_list]; exact hlt)
        have HP : Hid (piece s.data.toList fr a ++ [s.data.toList.getD a 0] = piece s.data.toList fr (a + 1)) := piece_snoc _ fr a hfa (by rw [size_list]; exact hlt)
        generalize s.data.toList.getD a 0 = u at HC HD HP
        have HU44 : Hid (u ≠ 44) := fun e => h44 (by have := HC.out; rw [e] at this; exact this)
        clear h44
        by_cases h34 : byt s a = 34
        · have HU : Hid (u = 34) := UInt8.toNat_inj.1 (by have := HC.out; show u.toNat = 34; omega)
          have h34' : (byt s a == 34) = true := by simp [h34]
          clear h34
          have HX : Hid ((s.extract a s.size).data.toList = s.data.toList.drop a) := Lib.extract_to_end s a
          have hqb := qlen_bd (s.data.toList.drop a)
          rw [List.length_drop, size_list] at hqb
          obtain ⟨hq1, hq2⟩ := hqb
          by_cases hq : qlen (s.data.toList.drop a) = 0
          · have HN : Hid (listR s.data.toList = ([], 14)) := listR_none (by
              rw [hst.out]
              have h := hq
              rw [HD.out] at h ⊢
              rw [lst_bad _ _ _ HU.out h]
              rfl)
            have HQ : Hid (unqR (s.data.toList.drop a) = ([], 0, 13)) := unqR_q _ hq
            go_wp2_with fail
            refine (rUnquote_any (s.extract a s.size) (by simp; omega) _).mono ?_
            rintro e w2 ⟨rfl, hb2⟩
            rw [HX.out, HQ.out]
            have hs2 := hb2.size
            go_wp2
            go_ret2
            rw [HN.out]
            exact ⟨_, rfl, ownS_emptyB _ (by omega), (hbl.out.trans (hb2.mono hsz)).alloc (by omega) _⟩
          · have hq3 := hq2 hq
            have HN : Hid (lst [] s.data.toList = (lst (piece s.data.toList fr (a + qlen (s.data.toList.drop a))) (s.data.toList.drop (a + qlen (s.data.toList.drop a)))).map (acc ++ ·)) := by
              show lst _ _ = _
              rw [← piece_app _ fr a _ hfa, ← List.drop_drop]
              have h := hst.out
              have hq' := hq
              rw [HD.out] at h hq'
              rw [lst_quote _ _ _ HU.out hq', ← HD.out] at h
              exact h
            obtain ⟨x, hx⟩ := unqR_p _ hq
            have HQ : Hid (unqR (s.data.toList.drop a) = (x, (qlen (s.data.toList.drop a) : Int), 0)) := hx
            clear hq2 hx
            go_wp2_with fail
            refine (rUnquote_any (s.extract a s.size) (by simp; omega) _).mono ?_
            rintro e w2 ⟨rfl, hb2⟩
            rw [HX.out, HQ.out]
            have HO2 : Hid (OwnS w.heap.size _ acc w2) := hown.out.below hb2
            have HB2 : Hid (Below w.heap.size w w2) := hbl.out.trans (hb2.mono hsz)
            clear hb2
            generalize qlen (s.data.toList.drop a) = n at *
            go_wp2
            go_roundw
            case rel => exact ⟨fr, a + n, acc, by omega, by omega, rfl, by go_num, by omega, (by show if _ then _ else _; rw [if_pos (by omega)]; exact HN.out), HO2, HB2⟩
            case measure => simp [intOf]; omega
        · have h34' : (byt s a == 34) = false := by simp [h34]
          have HU34 : Hid (u ≠ 34) := fun e => h34 (by have := HC.out; rw [e] at this; exact this)
          clear h34
          have HN : Hid (lst [] s.data.toList = (lst (piece s.data.toList fr (a + 1)) (s.data.toList.drop (a + 1))).map (acc ++ ·)) := by
            show lst _ _ = _
            rw [hst.out, HD.out, lst_on _ _ _ HU44.out HU34.out, HP.out]
          go_wp2
          go_roundw
          case rel => exact ⟨fr, a + 1, acc, by omega, by omega, rfl, by go_num, by omega, (by show if _ then _ else _; rw [if_pos (by omega)]; exact HN.out), hown, hbl⟩
          case measure => simp [intOf]; omega
    · have HN : Hid (listR s.data.toList = (acc, 0)) := listR_some (by have h := hst0.out; rwa [if_neg hle] at h)
      have hle' : ¬ (a : Int) ≤ (s.size : Int) := by omega
      go_wp2
      go_ret2
      rw [HN.out]
      exact ⟨_, rfl, hown.out, hbl.out⟩

end Oc
end Go.Proofs.YthdfgepnadgkjaaGreatDoor
