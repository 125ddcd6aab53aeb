/-
  accept.cutParams.
-/
import Derived.Test.YthfckgdaencagaaGreatDoorAPm
import Derived.Test.YthfckgdaencagaaGreatDoorAIx
set_option linter.unusedVariables false
set_option linter.unusedSimpArgs false
namespace Go.Proofs.YthfckgdaencagaaGreatDoor
open Go.RowKit Go.Shelf
namespace Ac
open Oc Tg

def cpH (l : List UInt8) : List UInt8 := match cutP l with | some x => x.1 | none => []
def cpP (l : List UInt8) : List Prm := match cutP l with | some x => x.2 | none => []
theorem hdLen_le (l : List UInt8) : hdLen l ≤ l.length := (List.takeWhile_sublist _).length_le
theorem cutP_all (l : List UInt8) (h : hdLen l = l.length) : cutP l = some (l, []) := by
  unfold cutP
  rw [h, List.drop_length, List.take_length, if_pos (by decide)]
  rfl
theorem cutP_some (l : List UInt8) (h : full (l.drop (hdLen l))) : cutP l = some (l.take (hdLen l), psOf (l.drop (hdLen l))) := by unfold cutP; rw [if_pos h]
theorem cutP_none (l : List UInt8) (h : ¬ full (l.drop (hdLen l))) : cutP l = none := by unfold cutP; rw [if_neg h]

set_option maxRecDepth 100000 in
set_option maxHeartbeats 2000000 in
theorem cutParams_any (s : ByteArray) (hs : s.size ≤ 134217728) (w : World) (hw : Tab w) :
    Calls Tryz.prog 37 #[.string s] w fun e w' => ∃ v, e = .returned (.tuple #[.string (str (cpH s.data.toList)), v, .bool (cutP s.data.toList).isSome]) ∧ OwnP 95 w.heap.size v (cpP s.data.toList) w' ∧ Below w.heap.size w w' := by
  have HI := IndexAny_any s (by omega) w
  have hle := hdLen_le s.data.toList
  by_cases hall : hdLen s.data.toList = s.data.toList.length
  · have hc := cutP_all _ hall
    unfold cpH cpP
    rw [hc, str_self]
    rw [idxE_all _ hall] at HI
    clear hc hall hle hw
    go_enter Tryz.func37, Tryz.ntmps37
    go_wp2_with fail
    refine HI.mono ?_
    rintro e w2 ⟨rfl, hb2⟩
    go_wp2
    go_ret3
    exact ⟨_, rfl, ownP_nil _ _ _, hb2⟩
  · rw [idxE_at _ hall] at HI
    rw [size_list] at hle hall
    have HT : Hid (Tab w) := hw
    clear hw
    have hat : hdLen s.data.toList < s.size := by omega
    have HE : Hid ((s.extract (hdLen s.data.toList) s.size).data.toList = s.data.toList.drop (hdLen s.data.toList)) := Lib.extract_to_end s _
    have HF : Hid (full (s.data.toList.drop (hdLen s.data.toList)) ↔ (paramsR (s.data.toList.drop (hdLen s.data.toList))).2.2 = 0 ∧ (hdLen s.data.toList : Int) + (paramsR (s.data.toList.drop (hdLen s.data.toList))).2.1 = s.size) := by
      show _ ↔ _
      unfold full
      rw [List.length_drop, size_list]
      constructor
      · rintro ⟨a, b⟩; exact ⟨a, by omega⟩
      · rintro ⟨a, b⟩; exact ⟨a, by omega⟩
    have HY : Hid (full (s.data.toList.drop (hdLen s.data.toList)) → cpH s.data.toList = s.data.toList.take (hdLen s.data.toList) ∧ cpP s.data.toList = (paramsR (s.data.toList.drop (hdLen s.data.toList))).1.map lowP ∧ (cutP s.data.toList).isSome = true) := (fun h => by unfold cpH cpP; rw [cutP_some s.data.toList h]; exact ⟨rfl, rfl, rfl⟩ : _ → _)
    have HN : Hid (¬ full (s.data.toList.drop (hdLen s.data.toList)) → cpH s.data.toList = [] ∧ cpP s.data.toList = [] ∧ (cutP s.data.toList).isSome = false) := (fun h => by unfold cpH cpP; rw [cutP_none s.data.toList h]; exact ⟨rfl, rfl, rfl⟩ : _ → _)
    have HTk : Hid (s.extract 0 (hdLen s.data.toList) = str (s.data.toList.take (hdLen s.data.toList))) := by
      show _ = _
      apply eq_list
      rw [str_list]
      simp
    have HP : Hid (∀ w, Tab w → Calls Tryz.prog 61 #[.string (s.extract (hdLen s.data.toList) s.size)] w fun e w' => ∃ v, e = .returned (.tuple #[v, .int .i64 (paramsR (s.data.toList.drop (hdLen s.data.toList))).2.1, .int .i64 (paramsR (s.data.toList.drop (hdLen s.data.toList))).2.2]) ∧ OwnP 95 w.heap.size v (paramsR (s.data.toList.drop (hdLen s.data.toList))).1 w' ∧ Below w.heap.size w w') := fun w t => by
      have := Params_any (s.extract (hdLen s.data.toList) s.size) (by simp; omega) w t
      rw [HE.out] at this
      exact this
    obtain ⟨b0, b1, b2, b3⟩ := params_bd (s.data.toList.drop (hdLen s.data.toList))
    rw [List.length_drop, size_list] at b1 b2 b3
    have HEach : Hid (EachP (s.size - hdLen s.data.toList) (paramsR (s.data.toList.drop (hdLen s.data.toList))).1) := b2
    clear b2
    generalize full (s.data.toList.drop (hdLen s.data.toList)) = FU at *
    generalize (paramsR (s.data.toList.drop (hdLen s.data.toList))).1 = ps at *
    generalize (paramsR (s.data.toList.drop (hdLen s.data.toList))).2.1 = n at *
    generalize (paramsR (s.data.toList.drop (hdLen s.data.toList))).2.2 = er at *
    generalize hdLen s.data.toList = at0 at *
    clear HE hall hle
    generalize cpH s.data.toList = CH at *
    generalize cpP s.data.toList = CP at *
    generalize (cutP s.data.toList).isSome = CB at *
    go_enter Tryz.func37, Tryz.ntmps37
    go_wp2_with fail
    refine HI.mono ?_
    rintro e w2 ⟨rfl, hb2⟩
    have HB2 : Hid (Below w.heap.size w w2) := hb2
    have HT2 : Hid (Tab w2) := HT.out.below hb2 (Nat.le_refl _)
    clear hb2 HI HT
    have dl : decide (((at0 : Nat) : Int) < 0) = false := decide_eq_false (by omega)
    go_wp2_with fail
    refine (HP.out _ HT2.out).mono ?_
    rintro e w3 ⟨v, rfl, hown, hb3⟩
    have HB3 : Hid (Below w.heap.size w w3) := bel_trans HB2.out hb3
    have HO3 : Hid (OwnP 95 w.heap.size v ps w3) := OwnP.mono hown HB2.out.size
    clear hb3 hown HP HT2 HB2
    by_cases her : er = 0
    · subst her
      by_cases hsz : (at0 : Int) + n = s.size
      · have HC := HY.out (HF.out.2 ⟨rfl, hsz⟩)
        have HC' : Hid (CH = s.data.toList.take at0 ∧ CP = ps.map lowP ∧ CB = true) := HC
        have dz : (((at0 : Nat) : Int) + n != (s.size : Int)) = false := by simp; omega
        have HRD : Hid (RdP v ps w3) := OwnP.rd HO3.out
        obtain ⟨va, vc, rfl, _⟩ := OwnP.rd HO3.out
        clear HC HF HY HN
        go_wp2
        go_loopw [35] (fun iv wr => ∃ k : Nat, k ≤ ps.length ∧ iv = .int .i64 k ∧ Hid (OwnP 95 w.heap.size (.slice va ps.length vc) (lowK k ps) wr) ∧ Hid (Below w.heap.size w wr)) (fun iv _ => ps.length - (intOf iv).toNat)
        case atStart => exact ⟨0, Nat.zero_le _, rfl, (by show OwnP _ _ _ _ _; rw [lowK_zero]; exact HO3.out), HB3⟩
        case round =>
          obtain ⟨k, hk, rfl, hown, hbl⟩ := hrel
          by_cases hlt : k < ps.length
          · obtain ⟨a', c', e', hcs⟩ := OwnP.rd hown.out
            rw [lowK_len] at e'
            injection e' with e1 _ e2
            subst e1 e2
            rcases hcs with h | ⟨g, o, hva, hlc, hcell⟩
            · have := lowK_len k ps; rw [h] at this; simp at this; omega
            have ho : o = 0 := by
              rcases hown.out.2 with ⟨h', _⟩ | ⟨g', cap', cur, h', _⟩
              · rw [hva] at h'; simp at h'
              · rw [hva] at h'; simp at h'; exact h'.1.2
            subst ho hva
            have hge := (World.ownsRow.lt hown.out g rfl).1
            rw [lowK_len] at hlc
            obtain ⟨p0, _, _⟩ := hcell k (by rw [lowK_len]; exact hlt)
            rw [lowK_at k ps hlt] at p0
            clear hcell
            have hf0 : wr.frozen? ⟨g, k * 3, none⟩ = false := World.ownsRow.frozenAt (by have h := hown.out; unfold OwnP at h; rw [lowK_len] at h; exact h : wr.ownsRow _ _ _ _ ps.length _) (k * 3)
            have HL : Hid (∀ w, Calls Tryz.prog 39 #[.string (str (nth ps k).1)] w fun e w' => e = .returned (.string (str (lower (nth ps k).1))) ∧ Below w.heap.size w w') := fun w => by
              have hh := (HEach.out.at k hlt).1
              have := Lower_any (str (nth ps k).1) (by rw [str_size]; unfold maxLen; omega) w
              unfold lowS at this
              rw [str_list] at this
              exact this
            have HS : Hid (∀ w2, OwnP 95 w.heap.size (.slice (some ⟨g, 0, none⟩) ps.length vc) (lowK k ps) w2 → OwnP 95 w.heap.size (.slice (some ⟨g, 0, none⟩) ps.length vc) (lowK (k + 1) ps) (w2.setCell ⟨g, k * 3, none⟩ (.string (str (lower (nth ps k).1))))) := fun w2 h => by
              have := OwnP.setName h k (by rw [lowK_len]; exact hlt) (lower (nth ps k).1)
              rw [lowK_at k ps hlt, lowK_set k ps hlt] at this
              exact this
            generalize str (lower (nth ps k).1) = Y at *
            generalize str (nth ps k).1 = X at *
            simp only [Nat.zero_add] at p0
            go_wp2_with fail
            refine (HL.out _).mono ?_
            rintro e w4 ⟨rfl, hb4⟩
            have p4 : w4.cell? ⟨g, k * 3, none⟩ = some (.string X) := by rw [hb4.cell (World.block_lt_of_cell? wr _ p0)]; exact p0
            have f4 : w4.frozen? ⟨g, k * 3, none⟩ = false := World.ownsRow.frozenAt (by have h := OwnP.below hown.out hb4; unfold OwnP at h; rw [lowK_len] at h; exact h : w4.ownsRow _ _ _ _ ps.length _) (k * 3)
            have HO4 := HS.out w4 (OwnP.below hown.out hb4)
            have HO4' : Hid (_) := HO4
            have HB4 : Hid (Below w.heap.size w w4) := bel_trans hbl.out hb4
            clear hb4 HO4 p0 hf0
            go_wp2
            go_roundw
            case rel => exact ⟨k + 1, by omega, by go_num, HO4', HB4.out.setCell (by simpa using hge) _⟩
            case measure => simp [intOf]; omega
          · obtain rfl : k = ps.length := by omega
            have HO5 := hown.out
            rw [lowK_all] at HO5
            have HO6 : Hid (OwnP _ _ _ _ _) := HO5
            clear HO5
            go_wp2
            go_ret3
            obtain ⟨rfl, rfl, rfl⟩ := HC'.out
            rw [← HTk.out]
            exact ⟨_, rfl, HO6.out, hbl.out⟩
      · have HC := HN.out (fun h => hsz (HF.out.1 h).2)
        have HC' : Hid (CH = [] ∧ CP = [] ∧ CB = false) := HC
        have dz : (((at0 : Nat) : Int) + n != (s.size : Int)) = true := by simp; omega
        clear HC HF HY HN HTk
        go_wp2
        go_ret3
        obtain ⟨rfl, rfl, rfl⟩ := HC'.out
        exact ⟨_, rfl, ownP_nil _ _ _, HB3.out⟩
    · have HC := HN.out (fun h => her (HF.out.1 h).1)
      have HC' : Hid (CH = [] ∧ CP = [] ∧ CB = false) := HC
      have dz : (er != 0) = true := by simp [her]
      clear HC HF HY HN HTk
      go_wp2
      go_ret3
      obtain ⟨rfl, rfl, rfl⟩ := HC'.out
      exact ⟨_, rfl, ownP_nil _ _ _, HB3.out⟩

end Ac
end Go.Proofs.YthfckgdaencagaaGreatDoor
