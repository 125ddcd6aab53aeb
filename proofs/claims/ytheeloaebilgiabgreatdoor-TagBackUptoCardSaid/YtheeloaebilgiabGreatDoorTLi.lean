/-
  tag: List; the document's.
-/
import Derived.Test.YtheeloaebilgiabGreatDoorTLs
set_option linter.unusedVariables false
set_option linter.unusedSimpArgs false
namespace Go.Proofs.YtheeloaebilgiabGreatDoor
open Go.RowKit Go.Shelf
namespace Tt
open Oc Tg

theorem tagsR_le (L : List UInt8) : ∀ (f k : Nat) (fl : Bool) (acc : List Tg1), k ≤ L.length → (tagsR L f k fl acc).2.1 ≤ L.length
  | 0, k, fl, acc, h => h
  | f + 1, k, fl, acc, h => by
    have hl := frontR_le (L.drop k)
    rw [List.length_drop] at hl
    unfold tagsR
    split
    · split
      · exact tagsR_le L f _ _ _ (by omega)
      · split
        · exact tagsR_le L f _ _ _ (by omega)
        · split
          · exact h
          · split
            · exact tagsR_le L f _ _ _ (by omega)
            · simp; omega
    · exact h
theorem tagsL_le (L : List UInt8) : (tagsL L).2.1 ≤ L.length := tagsR_le L _ _ _ _ (by omega)
theorem trim_len (L : List UInt8) : (trim L).length ≤ L.length := by
  obtain ⟨b, hb, _⟩ := Fd.trim_split L
  have := congrArg List.length hb
  simp at this
  omega

set_option maxRecDepth 100000 in
set_option maxHeartbeats 2000000 in
theorem List_any (s : ByteArray) (hs : s.size ≤ 2000000000) (w : World) (hw : Fd.ML w) :
    Calls Tryz.prog 10 #[.string s] w fun e w' => ∃ v, e = .returned (.tuple #[v, .bool (listT s.data.toList).2.1, .int .i64 ((listT s.data.toList).2.2.1 : Nat), .int .i64 (listT s.data.toList).2.2.2]) ∧ OwnT 27 w.heap.size v (listT s.data.toList).1 w' ∧ Below w.heap.size w w' := by
  have hlen : s.data.toList.length = s.size := size_list s
  have htl := trim_len s.data.toList
  have htg := tagsL_le (trim s.data.toList)
  have hld := Fd.lead_le s.data.toList
  have HT : Hid (Calls Tryz.prog 16 #[.string s] w fun e w' => e = .returned (.string (str (trim s.data.toList))) ∧ Below w.heap.size w w') := Trim_any s (by unfold maxLen; omega) w
  have HG : Hid (∀ w, Calls Tryz.prog 17 #[.string (str (trim s.data.toList))] w fun e w' => ∃ v, e = .returned (.tuple #[v, .int .i64 ((tagsL (trim s.data.toList)).2.1 : Nat), .bool (tagsL (trim s.data.toList)).2.2]) ∧ OwnT 27 w.heap.size v (tagsL (trim s.data.toList)).1 w' ∧ Below w.heap.size w w') := fun w => by
    have h := tags_any (str (trim s.data.toList)) (by rw [str_size]; omega) w
    rw [str_list] at h
    exact h
  have HI : Hid (trim s.data.toList ≠ [] → ∀ w, Fd.ML w → Calls Tryz.prog 18 #[.string s, .string (str (trim s.data.toList))] w fun e w' => e = .returned (.int .i64 (Fd.lead s.data.toList : Nat)) ∧ Below w.heap.size w w') := fun hne w h => by
    have h := Fd.Index_any s (str (trim s.data.toList)) (by omega) w h
    rw [str_list, Fd.index_trim _ hne] at h
    exact h
  have HW : Hid (Fd.ML w) := hw
  have HSZ : Hid ((str (trim s.data.toList)).size = (trim s.data.toList).length) := str_size _
  have HNE : Hid (trim s.data.toList = [] → (tagsL (trim s.data.toList)).2.2 = false ∧ (tagsL (trim s.data.toList)).2.1 = (trim s.data.toList).length) := fun h => by rw [h]; exact ⟨rfl, rfl⟩
  clear hw
  unfold listT
  rw [hlen] at hld htl ⊢
  generalize Fd.lead s.data.toList = ld at *
  generalize trim s.data.toList = T at *
  by_cases h42 : T = [42]
  · rw [if_pos h42]
    subst h42
    clear HG HI HSZ HNE htg htl hld
    go_enter Tryz.func10, Tryz.ntmps10
    go_wp2_with fail
    refine HT.out.mono ?_
    rintro e w2 ⟨rfl, hb2⟩
    have q : ((str [42]).toList == [42]) = true := by rw [Lib.toList_data, str_list]; rfl
    go_wp2
    refine bodyPost_ret (v := .tuple #[.slice none 0 0, .bool true, .int .i64 0, .int .i64 0]) (by simp [results, Tryz.results10, go_sem]) rfl ?_
    exact ⟨_, rfl, ownT_nil _ _ _, hb2⟩
  · rw [if_neg h42]
    have q : ((str T).toList == [42]) = false := by rw [Lib.toList_data, str_list]; simp [h42]
    clear h42
    generalize hU : str T = U at *
    clear hU
    generalize tagsL T = R at *
    obtain ⟨Rt, Rn, Ro⟩ := R
    dsimp only at *
    cases Ro with
    | true =>
      rw [if_pos rfl]
      clear HI HNE
      go_enter Tryz.func10, Tryz.ntmps10
      go_wp2_with fail
      refine HT.out.mono ?_
      rintro e w2 ⟨rfl, hb2⟩
      have HB2 : Hid (Below w.heap.size w w2) := hb2
      clear hb2
      go_wp2_with fail
      refine (HG.out _).mono ?_
      rintro e w3 ⟨v, rfl, ho, hb3⟩
      have HB3 : Hid (Below w.heap.size w w3) := bel_trans HB2.out hb3
      have HO : Hid (OwnT 27 w.heap.size v Rt w3) := ho.lower HB2.out.size
      obtain ⟨va, vc, rfl⟩ := ho.form
      clear hb3 ho
      go_wp2
      refine bodyPost_ret (v := .tuple #[.slice va Rt.length vc, .bool false, .int .i64 0, .int .i64 0]) (by simp [results, Tryz.results10, go_sem]) rfl ?_
      exact ⟨_, rfl, HO.out, HB3.out⟩
    | false =>
      rw [if_neg (by simp)]
      by_cases hn : Rn = T.length
      · rw [if_pos hn]
        have hn2 : Rn = U.size := hn.trans HSZ.out.symm
        clear HI HNE hn
        subst hn2
        go_enter Tryz.func10, Tryz.ntmps10
        go_wp2_with fail
        refine HT.out.mono ?_
        rintro e w2 ⟨rfl, hb2⟩
        have HB2 : Hid (Below w.heap.size w w2) := hb2
        clear hb2
        go_wp2_with fail
        refine (HG.out _).mono ?_
        rintro e w3 ⟨v, rfl, ho, hb3⟩
        have HB3 : Hid (Below w.heap.size w w3) := bel_trans HB2.out hb3
        obtain ⟨va, vc, rfl⟩ := ho.form
        clear hb3 ho
        go_wp2
        refine bodyPost_ret (v := .tuple #[.slice none 0 0, .bool false, .int .i64 s.size, .int .i64 81]) (by simp [results, Tryz.results10, go_sem]) rfl ?_
        exact ⟨_, rfl, ownT_nil _ _ _, HB3.out⟩
      · rw [if_neg hn]
        have HI2 : Hid (∀ w, Fd.ML w → Calls _ _ _ w _) := HI.out (fun h => hn (HNE.out h).2)
        have hn3 := HSZ.out
        have hn2 : ¬ Rn = U.size := by rw [hn3]; exact hn
        have q2 : ((Rn : Int) == (U.size : Int)) = false := by rw [beq_eq_false_iff_ne]; omega
        clear HI HNE hn
        go_enter Tryz.func10, Tryz.ntmps10
        go_wp2_with fail
        refine HT.out.mono ?_
        rintro e w2 ⟨rfl, hb2⟩
        have HB2 : Hid (Below w.heap.size w w2) := hb2
        clear hb2
        go_wp2_with fail
        refine (HG.out _).mono ?_
        rintro e w3 ⟨v, rfl, ho, hb3⟩
        have HB3 : Hid (Below w.heap.size w w3) := bel_trans HB2.out hb3
        obtain ⟨va, vc, rfl⟩ := ho.form
        clear hb3 ho
        go_wp2_with fail
        refine (HI2.out _ (HW.out.below HB3.out)).mono ?_
        rintro e w4 ⟨rfl, hb4⟩
        have HB4 : Hid (Below w.heap.size w w4) := bel_trans HB3.out hb4
        clear hb4
        go_wp2
        refine bodyPost_ret (v := .tuple #[.slice none 0 0, .bool false, .int .i64 (ld + Rn : Nat), .int .i64 81]) (by simp [results, Tryz.results10, go_sem]) rfl ?_
        exact ⟨_, rfl, ownT_nil _ _ _, HB4.out⟩

theorem lead_at {L : List UInt8} {k : Nat} (hk : k < L.length) (h : ∀ j, j < k → blankB (L.getD j 0) = true) (hf : blankB (L.getD k 0) = false) : Fd.lead L = k := tw_stop blankB 0 L k hk h hf
theorem lead_all {L : List UInt8} (h : ∀ j, j < L.length → blankB (L.getD j 0) = true) : Fd.lead L = L.length := tw_all blankB 0 L h

end Tt
end Go.Proofs.YtheeloaebilgiabGreatDoor
