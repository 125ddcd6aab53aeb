/-
  TargetSteps: the walk.
-/
import Derived.Test.YtodgpcohdaejkabGreatDoorWDots
import Derived.Test.YtodgpcohdaejkabGreatDoorGPl7
import Derived.Test.YtodgpcohdaejkabGreatDoorGRe
set_option linter.unusedVariables false
set_option linter.unusedSimpArgs false
namespace Go.Proofs.YtodgpcohdaejkabGreatDoor
open Go.RowKit Go.Shelf
namespace Tg
open Oc

theorem tok_ne {l : List UInt8} (h : isTok l = true) : l ≠ [] := by
  intro e
  rw [e] at h
  exact absurd h (by decide)

set_option maxRecDepth 100000 in
set_option maxHeartbeats 8000000 in
theorem walk_TargetSteps (p : ByteArray) (hp : p.size ≤ 1048576) (m : ByteArray) (hm0 : m.size ≤ 1048576) (hs : p.size + m.size ≤ 1048576) (w : World) (hm : ML w) :
    Calls Tryz.prog 6 #[.string p, .string m] w fun e w' => e = .returned (.bool true) ∧ Below w.heap.size w w' := by
  have HA : Hid (∀ w, ML w → _) := fun w h => awake_any w h
  have HN : Hid (∀ w, _) := fun w => rNormal_any p (by omega) w
  have HT : Hid (∀ w, _) := fun w => rIsToken_any m (by unfold maxLen; omega) w
  have HE : Hid (∀ w, _) := fun w => rEncode_any m (by omega) w
  have HM : Hid (ML w) := hm
  have hA : (m.toList == [46]) = decide (m.data.toList = [46]) := by rw [ByteArray.toList_eq, Bool.eq_iff_iff]; simp
  have hA2 : (m.toList == [46, 46]) = decide (m.data.toList = [46, 46]) := by rw [ByteArray.toList_eq, Bool.eq_iff_iff]; simp
  have hA3 : ((str (enc m.data.toList)).toList == m.toList) = decide (enc m.data.toList = m.data.toList) := by
    rw [eq_toList, decide_eq_decide]
    exact ⟨fun e => (str_list _).symm.trans (congrArg (fun x => x.data.toList) e), fun e => by rw [e, str_self]⟩
  clear hm
  cases hpp : isPath p.data.toList with
  | false =>
    have hR : normR p.data.toList = ([], 53) := by unfold normR; rw [hpp]; rfl
    rw [hR] at HN
    clear hR hpp
    go_enter Tryz.func6, Tryz.ntmps6
    go_wp2_with fail
    refine (HN.out _).mono ?_
    rintro e w1 ⟨rfl, h1⟩
    have H1 : Hid (Below w.heap.size w w1) := h1
    clear h1
    go_wp2_with fail
    refine (HA.out _ (HM.out.below H1.out)).mono ?_
    rintro e w3 ⟨rfl, h3⟩
    have H3 : Hid (Below w.heap.size w w3) := H1.out.trans (h3.mono H1.out.size)
    clear h3
    go_wp2
    go_ret
    exact ⟨rfl, H3.out⟩
  | true =>
    have hR := normR_path hpp
    have hk := nf_of hpp
    have hle := norm_le hpp
    rw [size_list] at hle
    rw [hR] at HN
    dsimp only at HN
    generalize dots ((segs p.data.toList).map ntr) = k at *
    clear hR hpp
    by_cases hgood : isTok m.data.toList = true ∧ m.data.toList ≠ [46] ∧ m.data.toList ≠ [46, 46] ∧ enc m.data.toList = m.data.toList
    · obtain ⟨g1, g2, g3, g4⟩ := hgood
      obtain ⟨d, r1, r2, r3⟩ := steps_facts hk m.data.toList (enc_self _ g4) (tok_ne g1) g2 g3
      have hns : (str (joinS k)).size ≤ p.size := by rw [str_size]; exact hle
      have hms : (m ++ (⟨#[47, 46, 46]⟩ : ByteArray)).size = m.size + 3 := by rw [← size_list, cat_list, List.length_append, size_list]; rfl
      have hm3 : (⟨#[47, 46, 46]⟩ : ByteArray).size = 3 := rfl
      have HR1 : Hid (∀ w, ML w → Calls Tryz.prog 14 #[.string (str (joinS k)), .string ⟨#[46]⟩] w fun e w' => e = .returned (.tuple #[.string (str d), .int .i64 0]) ∧ Below w.heap.size w w') := fun w h => by
        have := Resolve_any (str (joinS k)) ⟨#[46]⟩ (by have : (⟨#[46]⟩ : ByteArray).size = 1 := rfl; omega) w h
        rw [str_list, show (⟨#[46]⟩ : ByteArray).data.toList = [46] from rfl, r1] at this
        exact this
      have HR2 : Hid (∀ w, ML w → Calls Tryz.prog 14 #[.string (str (joinS k)), .string (m ++ ⟨#[47, 46, 46]⟩)] w fun e w' => e = .returned (.tuple #[.string (str d), .int .i64 0]) ∧ Below w.heap.size w w') := fun w h => by
        have := Resolve_any (str (joinS k)) (m ++ ⟨#[47, 46, 46]⟩) (by omega) w h
        rw [str_list, cat_list, show (⟨#[47, 46, 46]⟩ : ByteArray).data.toList = [47, 46, 46] from rfl, r2] at this
        exact this
      have HR3 : Hid (∀ w, ML w → Calls Tryz.prog 14 #[.string (str (joinS k)), .string m] w fun e w' => e = .returned (.tuple #[.string (str d ++ m), .int .i64 0]) ∧ Below w.heap.size w w') := fun w h => by
        have := Resolve_any (str (joinS k)) m (by omega) w h
        rw [str_list, r3] at this
        have e : str (d ++ m.data.toList) = str d ++ m := eq_list (by rw [str_list, cat_list, str_list])
        rw [← e]
        exact this
      have hds : (str d).size ≤ 2000000 := by
        rw [str_size]
        have h1 := congrArg Prod.fst r1
        dsimp only at h1
        rw [← h1]
        obtain ⟨a, z, rfl, hd, hpth⟩ := hk.last
        unfold resR
        rw [if_pos hpth, if_neg (by simp), if_neg (by decide), hd]
        unfold normR
        split
        · dsimp only
          unfold undot
          refine Nat.le_trans (dots_le _) ?_
          unfold segs
          rw [join_splitB, List.length_cons, List.length_drop]
          have h5 := ntr_le (joinS a ++ [47] ++ [46])
          have h6 : (joinS a).length ≤ (joinS (a ++ [z])).length := by rw [join_app, List.length_append]; omega
          have h7 : (joinS a ++ [47] ++ [46]).length = (joinS a).length + 2 := by simp
          rw [h7] at h5
          omega
        · simp
      rw [decide_eq_false g2] at hA
      rw [decide_eq_false g3] at hA2
      rw [decide_eq_true g4] at hA3
      rw [g1] at HT
      clear g1 g2 g3 g4 r1 r2 r3 hk hle
      generalize str (enc m.data.toList) = E at *
      generalize str (joinS k) = n at *
      generalize str d = dd at *
      go_enter Tryz.func6, Tryz.ntmps6
      go_wp2_with fail
      refine (HN.out _).mono ?_
      rintro e w1 ⟨rfl, h1⟩
      have H1 : Hid (Below w.heap.size w w1) := h1
      clear h1
      go_wp2_with fail
      refine (HT.out _).mono ?_
      rintro e w2 ⟨rfl, rfl⟩
      go_wp2_with fail
      refine (HE.out _).mono ?_
      rintro e w3 ⟨rfl, h3⟩
      have H3 : Hid (Below w.heap.size w w3) := H1.out.trans (h3.mono H1.out.size)
      clear h3
      go_wp2_with fail
      refine (HR1.out _ (HM.out.below H3.out)).mono ?_
      rintro e w4 ⟨rfl, h4⟩
      have H4 : Hid (Below w.heap.size w w4) := H3.out.trans (h4.mono H3.out.size)
      clear h4
      go_wp2_with fail
      refine (HR2.out _ (HM.out.below H4.out)).mono ?_
      rintro e w5 ⟨rfl, h5⟩
      have H5 : Hid (Below w.heap.size w w5) := H4.out.trans (h5.mono H4.out.size)
      clear h5
      go_wp2_with fail
      refine (HR3.out _ (HM.out.below H5.out)).mono ?_
      rintro e w6 ⟨rfl, h6⟩
      have H6 : Hid (Below w.heap.size w w6) := H5.out.trans (h6.mono H5.out.size)
      clear h6
      go_wp2_with fail
      refine (HA.out _ (HM.out.below H6.out)).mono ?_
      rintro e w7 ⟨rfl, h7⟩
      have H7 : Hid (Below w.heap.size w w7) := H6.out.trans (h7.mono H6.out.size)
      clear h7
      go_wp2
      go_ret
      exact ⟨rfl, H7.out⟩
    · by_cases g1 : isTok m.data.toList = true
      · rw [g1] at HT
        by_cases g2 : m.data.toList = [46]
        · rw [decide_eq_true g2] at hA
          clear hgood hk hle
          generalize str (joinS k) = n at *
          go_enter Tryz.func6, Tryz.ntmps6
          go_wp2_with fail
          refine (HN.out _).mono ?_
          rintro e w1 ⟨rfl, h1⟩
          have H1 : Hid (Below w.heap.size w w1) := h1
          clear h1
          go_wp2_with fail
          refine (HT.out _).mono ?_
          rintro e w2 ⟨rfl, rfl⟩
          go_wp2_with fail
          refine (HA.out _ (HM.out.below H1.out)).mono ?_
          rintro e w3 ⟨rfl, h3⟩
          have H3 : Hid (Below w.heap.size w w3) := H1.out.trans (h3.mono H1.out.size)
          clear h3
          go_wp2
          go_ret
          exact ⟨rfl, H3.out⟩
        · rw [decide_eq_false g2] at hA
          by_cases g3 : m.data.toList = [46, 46]
          · rw [decide_eq_true g3] at hA2
            clear hgood hk hle g3
            generalize str (joinS k) = n at *
            go_enter Tryz.func6, Tryz.ntmps6
            go_wp2_with fail
            refine (HN.out _).mono ?_
            rintro e w1 ⟨rfl, h1⟩
            have H1 : Hid (Below w.heap.size w w1) := h1
            clear h1
            go_wp2_with fail
            refine (HT.out _).mono ?_
            rintro e w2 ⟨rfl, rfl⟩
            go_wp2_with fail
            refine (HA.out _ (HM.out.below H1.out)).mono ?_
            rintro e w3 ⟨rfl, h3⟩
            have H3 : Hid (Below w.heap.size w w3) := H1.out.trans (h3.mono H1.out.size)
            clear h3
            go_wp2
            go_ret
            exact ⟨rfl, H3.out⟩
          · rw [decide_eq_false g3] at hA2
            have g4 : ¬ enc m.data.toList = m.data.toList := fun g4 => hgood ⟨g1, g2, g3, g4⟩
            rw [decide_eq_false g4] at hA3
            clear hgood hk hle g2 g3 g4
            generalize str (joinS k) = n at *
            generalize str (enc m.data.toList) = E at *
            go_enter Tryz.func6, Tryz.ntmps6
            go_wp2_with fail
            refine (HN.out _).mono ?_
            rintro e w1 ⟨rfl, h1⟩
            have H1 : Hid (Below w.heap.size w w1) := h1
            clear h1
            go_wp2_with fail
            refine (HT.out _).mono ?_
            rintro e w2 ⟨rfl, rfl⟩
            go_wp2_with fail
            refine (HE.out _).mono ?_
            rintro e w4 ⟨rfl, h4⟩
            have H4 : Hid (Below w.heap.size w w4) := H1.out.trans (h4.mono H1.out.size)
            clear h4
            go_wp2_with fail
            refine (HA.out _ (HM.out.below H4.out)).mono ?_
            rintro e w3 ⟨rfl, h3⟩
            have H3 : Hid (Below w.heap.size w w3) := H4.out.trans (h3.mono H4.out.size)
            clear h3
            go_wp2
            go_ret
            exact ⟨rfl, H3.out⟩
      · have g1' : isTok m.data.toList = false := by simpa using g1
        rw [g1'] at HT
        clear hgood hk hle g1 g1'
        generalize str (joinS k) = n at *
        go_enter Tryz.func6, Tryz.ntmps6
        go_wp2_with fail
        refine (HN.out _).mono ?_
        rintro e w1 ⟨rfl, h1⟩
        have H1 : Hid (Below w.heap.size w w1) := h1
        clear h1
        go_wp2_with fail
        refine (HT.out _).mono ?_
        rintro e w2 ⟨rfl, rfl⟩
        go_wp2_with fail
        refine (HA.out _ (HM.out.below H1.out)).mono ?_
        rintro e w3 ⟨rfl, h3⟩
        have H3 : Hid (Below w.heap.size w w3) := H1.out.trans (h3.mono H1.out.size)
        clear h3
        go_wp2
        go_ret
        exact ⟨rfl, H3.out⟩

end Tg
end Go.Proofs.YtodgpcohdaejkabGreatDoor
