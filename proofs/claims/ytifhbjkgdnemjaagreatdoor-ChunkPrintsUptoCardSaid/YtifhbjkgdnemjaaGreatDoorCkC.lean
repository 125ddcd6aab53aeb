/-
  chunk.ParseSize, isHeadsAlone, MayTrail.
-/
import Derived.Test.YtifhbjkgdnemjaaGreatDoorCkB
import Derived.Test.YtifhbjkgdnemjaaGreatDoorFLn
import Derived.Test.YtifhbjkgdnemjaaGreatDoorFW
import Derived.Test.YtifhbjkgdnemjaaGreatDoorRNum
set_option linter.unusedVariables false
set_option linter.unusedSimpArgs false
set_option maxRecDepth 100000
namespace Go.Proofs.YtifhbjkgdnemjaaGreatDoor
open Go.RowKit Go.Shelf Go.Lib
namespace Ck
open Oc Tg _root_.Go.Proofs.YtifhbjkgdnemjaaGreatDoor.Fd

theorem trimLeft_hex (l : List UInt8) : Lib.trimLeftS l hexSet = l.dropWhile hexB := rfl
theorem take_drop_hex : ∀ l : List UInt8, (l.takeWhile hexB).length + (l.dropWhile hexB).length = l.length
  | [] => rfl
  | x :: l => by
    have := take_drop_hex l
    rw [List.takeWhile_cons, List.dropWhile_cons]
    split
    · simp only [List.length_cons]; omega
    · simp
theorem take_of_hex : ∀ l : List UInt8, l.take (l.takeWhile hexB).length = l.takeWhile hexB
  | [] => rfl
  | x :: l => by
    have := take_of_hex l
    rw [List.takeWhile_cons]
    split
    · simp [this]
    · rfl
theorem prm_bd (l : List UInt8) (x : List Prm × Nat) : ∀ (n : Nat) (r : List UInt8) (x : List Prm × Nat), r.length ≤ n → prm r = some x → x.2 ≤ r.length := by
  intro n
  induction n with
  | zero =>
    intro r x hr h
    cases hp : pstep r with
    | none => rw [prm_none hp] at h; cases h
    | some y =>
      cases y with
      | none => rw [prm_end hp] at h; injection h with h; subst h; exact Nat.zero_le _
      | some y => have := pstep_le r y hp; omega
  | succ n ih =>
    intro r x hr h
    cases hp : pstep r with
    | none => rw [prm_none hp] at h; cases h
    | some y =>
      cases y with
      | none => rw [prm_end hp] at h; injection h with h; subst h; exact Nat.zero_le _
      | some y =>
        have hy := pstep_le r y hp
        rw [prm_on hp] at h
        cases hq : prm (r.drop y.1) with
        | none => rw [hq] at h; cases h
        | some z =>
          rw [hq] at h
          injection h with h
          have := ih _ _ (by simp; omega) hq
          subst h
          simp at this ⊢
          omega
theorem prm_bound {r : List UInt8} {x : List Prm × Nat} (h : prm r = some x) : x.2 ≤ r.length := prm_bd [] ([], 0) r.length r x (Nat.le_refl _) h

set_option maxHeartbeats 2000000 in
theorem ParseSize_any (s : ByteArray) (hs : s.size ≤ 4000000000) (w : World) (t : Tab w) :
    Calls Tryz.prog 71 #[.string s] w fun e w' => ∃ v, e = .returned (.tuple #[.int .i64 (sizeR s.data.toList).1, v, .int .i64 (sizeR s.data.toList).2.2]) ∧ OwnP 25 w.heap.size v (sizeR s.data.toList).2.1 w' ∧ Below w.heap.size w w' := by
  by_cases hbig : 254 < s.size
  · have e : sizeR s.data.toList = (0, [], 100) := by unfold sizeR; rw [if_pos (by rw [size_list]; exact hbig)]
    rw [e]
    go_enter Tryz.func71, Tryz.ntmps71
    go_wp2
    go_ret3
    exact ⟨.slice none 0 0, rfl, ownP_nil _ _ _, Below.refl _ _⟩
  have HZ : Hid (sizeR s.data.toList = if s.data.toList.takeWhile hexB = [] ∨ (paramsR (s.data.toList.dropWhile hexB)).2.2 ≠ 0 ∨ trim ((s.data.toList.dropWhile hexB).drop (paramsR (s.data.toList.dropWhile hexB)).2.1.toNat) ≠ [] then (0, [], 100)
    else if (numR 16 (s.data.toList.takeWhile hexB) 1099511627776).2 ≠ 0 then (0, [], 102) else ((numR 16 (s.data.toList.takeWhile hexB) 1099511627776).1, (paramsR (s.data.toList.dropWhile hexB)).1, 0)) := by
    show sizeR _ = _
    unfold sizeR
    rw [if_neg (by rw [size_list]; exact hbig)]
  have hcon := Any.strings_TrimLeft_laid Tryz.lays161 (by kernel_rfl) s ⟨#[48, 49, 50, 51, 52, 53, 54, 55, 56, 57, 65, 66, 67, 68, 69, 70, 97, 98, 99, 100, 101, 102]⟩ w (by decide) (ascii_of_all (by decide))
  change Calls Tryz.prog 86 _ _ (fun e w' => e = .returned (.string (str (s.data.toList.dropWhile hexB))) ∧ Below w.heap.size w w') at hcon
  have hsum := take_drop_hex s.data.toList
  have htk : s.extract 0 (s.data.toList.takeWhile hexB).length = str (s.data.toList.takeWhile hexB) := by rw [take_ext, take_of_hex]
  have HD : Hid (s.data.toList.dropWhile hexB = (str (s.data.toList.dropWhile hexB)).data.toList) := (str_list _).symm
  have HT : Hid (s.data.toList.takeWhile hexB = (str (s.data.toList.takeWhile hexB)).data.toList) := (str_list _).symm
  have hRs := str_size (s.data.toList.dropWhile hexB)
  have hXs := str_size (s.data.toList.takeWhile hexB)
  rw [size_list] at hsum
  generalize str (s.data.toList.dropWhile hexB) = R at *
  generalize str (s.data.toList.takeWhile hexB) = X at *
  generalize (s.data.toList.takeWhile hexB).length = K at *
  rw [← hRs] at hsum
  rw [HD.out, HT.out] at HZ
  clear hRs HD HT
  have hK : K ≤ s.size := by omega
  have hsub : ((s.size : Nat) : Int) - ((R.size : Nat) : Int) = ((K : Nat) : Int) := by omega
  have hRle : R.size ≤ 254 := by omega
  have HXK : Hid (X.size = K) := hXs
  have HC : Hid (Calls Tryz.prog 86 #[.string s, .string ⟨#[48, 49, 50, 51, 52, 53, 54, 55, 56, 57, 65, 66, 67, 68, 69, 70, 97, 98, 99, 100, 101, 102]⟩] w (fun e w' => e = .returned (.string R) ∧ Below w.heap.size w w')) := hcon
  have HP : Hid (∀ w, Tab w → Calls Tryz.prog 87 #[.string R] w fun e w' => ∃ v, e = .returned (.tuple #[v, .int .i64 (paramsR R.data.toList).2.1, .int .i64 (paramsR R.data.toList).2.2]) ∧ OwnP 25 w.heap.size v (paramsR R.data.toList).1 w' ∧ Below w.heap.size w w') := fun w t => Params_any R (by omega) w t
  have HTab : Hid (Tab w) := t
  have HX16 : Hid (∀ w, Calls Tryz.prog 89 #[.string X, .int .i64 1099511627776] w fun e w' => e = .returned (.tuple #[.int .i64 (numR 16 X.data.toList 1099511627776).1, .int .i64 (numR 16 X.data.toList 1099511627776).2]) ∧ Below w.heap.size w w') := fun w => Hex_any X (by unfold maxLen; omega) _ (by decide) (by decide) w
  have hnb := numR_bd X.data.toList
  clear hcon t hsum hXs
  by_cases h0 : K = 0
  · have hX0 : X.toList.isEmpty = true := empty_of (by have := HXK.out; omega)
    have HZ2 : Hid (sizeR s.data.toList = (0, [], 100)) := by
      show sizeR _ = _
      rw [HZ.out, if_pos (.inl (List.length_eq_zero_iff.1 (by rw [size_list, HXK.out, h0])))]
    clear HZ
    go_enter Tryz.func71, Tryz.ntmps71
    go_wp2_with fail
    refine HC.out.mono ?_
    rintro e w1 ⟨rfl, hb1⟩
    have HB1 : Hid (Below w.heap.size w w1) := hb1
    clear hb1
    go_wp2_with fail
    refine (HP.out _ (HTab.out.below HB1.out (Nat.le_refl _))).mono ?_
    rintro e w2 ⟨v, rfl, ho, hb2⟩
    have HB2 : Hid (Below w.heap.size w w2) := bel_trans HB1.out hb2
    clear hb2 ho
    go_wp2
    go_ret3
    rw [HZ2.out]
    exact ⟨.slice none 0 0, rfl, ownP_nil _ _ _, HB2.out⟩
  have hX0 : X.toList.isEmpty = false := nonempty_of (by have := HXK.out; omega)
  have hXne : X.data.toList ≠ [] := fun e => by have := size_list X; rw [e] at this; have := HXK.out; simp at *; omega
  cases hp : prm R.data.toList with
  | none =>
    have hpr := paramsR_none hp
    rw [hpr] at HP HZ
    have HZ2 : Hid (sizeR s.data.toList = (0, [], 100)) := by
      show sizeR _ = _
      rw [HZ.out, if_pos (.inr (.inl (by decide)))]
    clear HZ hpr hp hXne
    go_enter Tryz.func71, Tryz.ntmps71
    go_wp2_with fail
    refine HC.out.mono ?_
    rintro e w1 ⟨rfl, hb1⟩
    have HB1 : Hid (Below w.heap.size w w1) := hb1
    clear hb1
    go_wp2_with fail
    refine (HP.out _ (HTab.out.below HB1.out (Nat.le_refl _))).mono ?_
    rintro e w2 ⟨v, rfl, ho, hb2⟩
    have HB2 : Hid (Below w.heap.size w w2) := bel_trans HB1.out hb2
    clear hb2 ho
    go_wp2
    go_ret3
    rw [HZ2.out]
    exact ⟨.slice none 0 0, rfl, ownP_nil _ _ _, HB2.out⟩
  | some x =>
    have hpr := paramsR_some hp
    have hxle := prm_bound hp
    rw [size_list] at hxle
    rw [hpr] at HP HZ
    obtain ⟨ps, n⟩ := x
    simp only at hxle HP HZ
    have hdr : R.data.toList.drop ((n : Nat) : Int).toNat = (R.extract n R.size).data.toList := by rw [Lib.extract_to_end]; simp
    rw [hdr] at HZ
    have HTr : Hid (∀ w, Calls Tryz.prog 88 #[.string (R.extract n R.size)] w fun e w' => e = .returned (.string (str (trim (R.extract n R.size).data.toList))) ∧ Below w.heap.size w w') := fun w => Trim_any _ (by simp [maxLen]; omega) w
    clear hpr hp hdr
    generalize trim (R.extract n R.size).data.toList = Y at *
    by_cases hY : Y = []
    · have hY0 : (str Y).toList.isEmpty = true := empty_of (by rw [hY]; rfl)
      have HZ2 : Hid (sizeR s.data.toList = if (numR 16 X.data.toList 1099511627776).2 ≠ 0 then (0, [], 102) else ((numR 16 X.data.toList 1099511627776).1, ps, 0)) := by
        show sizeR _ = _
        rw [HZ.out, if_neg (by rintro (h | h | h); exact hXne h; exact h rfl; exact h hY)]
      clear HZ hXne hY
      generalize str Y = Z at *
      generalize numR 16 X.data.toList 1099511627776 = q at *
      obtain ⟨q1, q2⟩ := q
      simp only at hnb HX16 HZ2
      go_enter Tryz.func71, Tryz.ntmps71
      go_wp2_with fail
      refine HC.out.mono ?_
      rintro e w1 ⟨rfl, hb1⟩
      have HB1 : Hid (Below w.heap.size w w1) := hb1
      clear hb1
      go_wp2_with fail
      refine (HP.out _ (HTab.out.below HB1.out (Nat.le_refl _))).mono ?_
      rintro e w2 ⟨v, rfl, ho, hb2⟩
      have HB2 : Hid (Below w.heap.size w w2) := bel_trans HB1.out hb2
      have HO2 : Hid (OwnP 25 w.heap.size v ps w2) := ⟨ho.1, by
        rcases ho.2 with h | ⟨g, cap, cur, e, hb, r⟩
        · exact .inl h
        · exact .inr ⟨g, cap, cur, e, Nat.le_trans HB1.out.size hb, r⟩⟩
      clear hb2 ho
      go_wp2_with fail
      refine (HTr.out _).mono ?_
      rintro e w3 ⟨rfl, hb3⟩
      have HB3 : Hid (Below w.heap.size w w3) := bel_trans HB2.out hb3
      have HO3 : Hid (OwnP 25 w.heap.size v ps w3) := HO2.out.below hb3
      clear hb3
      go_wp2_with fail
      refine (HX16.out _).mono ?_
      rintro e w4 ⟨rfl, hb4⟩
      have HB4 : Hid (Below w.heap.size w w4) := bel_trans HB3.out hb4
      have HO4 : Hid (OwnP 25 w.heap.size v ps w4) := HO3.out.below hb4
      clear hb4
      by_cases hq : q2 = 0
      · subst hq
        go_wp2
        go_ret3
        rw [HZ2.out, if_neg (by simp)]
        exact ⟨v, rfl, HO4.out, HB4.out⟩
      · have hq' : (q2 != 0) = true := by simp [hq]
        have HQ : Hid (q2 ≠ 0) := hq
        clear hq
        go_wp2
        go_ret3
        rw [HZ2.out, if_pos HQ.out]
        exact ⟨.slice none 0 0, rfl, ownP_nil _ _ _, HB4.out⟩
    · have hY0 : (str Y).toList.isEmpty = false := nonempty_of (by rw [str_size]; exact fun h => hY (List.length_eq_zero_iff.1 h))
      have HZ2 : Hid (sizeR s.data.toList = (0, [], 100)) := by
        show sizeR _ = _
        rw [HZ.out, if_pos (.inr (.inr hY))]
      clear HZ hXne hY
      generalize str Y = Z at *
      go_enter Tryz.func71, Tryz.ntmps71
      go_wp2_with fail
      refine HC.out.mono ?_
      rintro e w1 ⟨rfl, hb1⟩
      have HB1 : Hid (Below w.heap.size w w1) := hb1
      clear hb1
      go_wp2_with fail
      refine (HP.out _ (HTab.out.below HB1.out (Nat.le_refl _))).mono ?_
      rintro e w2 ⟨v, rfl, ho, hb2⟩
      have HB2 : Hid (Below w.heap.size w w2) := bel_trans HB1.out hb2
      clear hb2 ho
      go_wp2_with fail
      refine (HTr.out _).mono ?_
      rintro e w3 ⟨rfl, hb3⟩
      have HB3 : Hid (Below w.heap.size w w3) := bel_trans HB2.out hb3
      clear hb3
      go_wp2
      go_ret3
      rw [HZ2.out]
      exact ⟨.slice none 0 0, rfl, ownP_nil _ _ _, HB3.out⟩

end Ck
end Go.Proofs.YtifhbjkgdnemjaaGreatDoor
