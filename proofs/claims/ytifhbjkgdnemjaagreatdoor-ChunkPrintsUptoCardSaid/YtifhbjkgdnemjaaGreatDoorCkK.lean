/-
  chunk: Feed.
-/
import Derived.Test.YtifhbjkgdnemjaaGreatDoorCkJ
set_option linter.unusedVariables false
set_option linter.unusedSimpArgs false
set_option maxRecDepth 100000
namespace Go.Proofs.YtifhbjkgdnemjaaGreatDoor
open Go.RowKit Go.Shelf
namespace Ck
open Oc Tg _root_.Go.Proofs.YtifhbjkgdnemjaaGreatDoor.Fd

theorem drop_ext (t : ByteArray) (j : Nat) : (t.extract j t.size).data.toList = t.data.toList.drop j := Lib.extract_to_end t j
theorem size_ext (t : ByteArray) (j : Nat) (h : j ≤ t.size) : (t.extract j t.size).size = t.size - j := by
  rw [← size_list, drop_ext, List.length_drop, size_list]

set_option maxHeartbeats 8000000 in
theorem Feed_any {w0 w : World} {D k : Nat} {s : DS} {bs : List Nat} (HB : Base w0 w bs) (H : Dec w D s bs) (hk : Ok s k) (t : ByteArray) (hb : k + t.size ≤ 2147483647) :
    Calls Tryz.prog 23 #[.pointer (some ⟨D, 0, none⟩), .string t] w fun ex w' => ex = .returned (.tuple #[.int .i64 (feedN s t.data.toList), .int .i64 (feedE s t.data.toList)]) ∧ ∃ bs', Dec w' D (feedS s t.data.toList) bs' ∧ Goes bs w bs' w' := by
  have HHB : Hid (Base w0 w bs) := HB
  have HDD : Hid (Dec w D s bs) := H
  have HOK : Hid (Ok s k) := hk
  obtain ⟨vl, vb, vt, c0, c1, c2, c3, c4, c5, c6, c7, c8, c9, c10, cf⟩ := H.cells
  have ef := eql_fn
  have en := eql_nil
  clear c1 c2 c3 c4 c5 c6 c7 c8 c9 c10 cf
  by_cases hm : s.mode = 5
  · rw [hm] at c0
    change w.cell? ⟨D, 0, none⟩ = some .nilFunc at c0
    have HM : Hid (s.mode = 5) := hm
    clear hk H HB hm
    go_enter Tryz.func23, Tryz.ntmps23
    go_wp2
    go_ret2
    unfold feedN feedE feedS
    rw [if_pos HM.out, if_pos HM.out, if_pos HM.out]
    exact ⟨rfl, bs, HDD.out, Goes.refl _ _⟩
  have HM : Hid (s.mode ≠ 5) := hm
  have hf : ∃ f, fnV s.mode = .func (.func f) #[] #[] := by
    rcases mode_cases hk hm with e | e | e | e | e <;> rw [e] <;> exact ⟨_, rfl⟩
  obtain ⟨f, hf⟩ := hf
  rw [hf] at c0
  clear hk H HB hm hf
  go_enter Tryz.func23, Tryz.ntmps23
  go_wp2
  clear c0 ef en
  have nf := neq_fn
  have nn := neq_nil
  go_loopw [6] (fun nv wr => ∃ (j : Nat) (st : DS) (bs1 : List Nat), nv = .int .i64 j ∧ j ≤ t.size ∧ Hid (eat s t.data.toList = (j + (eat st (t.data.toList.drop j)).1, (eat st (t.data.toList.drop j)).2)) ∧ Hid (Ok st (k + j)) ∧ Hid (Dec wr D st bs1) ∧ Hid (Goes bs w bs1 wr)) (fun nv _ => t.size - (intOf nv).toNat)
  case atStart => exact ⟨0, s, bs, rfl, Nat.zero_le _, (by simp : eat s t.data.toList = (0 + (eat s (t.data.toList.drop 0)).1, (eat s (t.data.toList.drop 0)).2)), HOK.out, HDD.out, Goes.refl _ _⟩
  case round =>
    obtain ⟨j, st, bs1, rfl, hj, he, ho, hd, hg⟩ := hrel
    obtain ⟨vl1, vb1, vt1, d0, _, d2, _, _, _, _, d7, _, _, _, df⟩ := hd.out.cells
    have HHg : Hid (Base w0 wr bs1) := HHB.out.goes hg.out
    by_cases hlt : j < t.size
    · by_cases hm : st.mode = 5
      · rw [hm] at d0
        change wr.cell? ⟨D, 0, none⟩ = some .nilFunc at d0
        have HM5 : Hid (st.mode = 5) := hm
        clear hm
        have HEnd : Hid (eat s t.data.toList = (j, st)) := by
          show eat _ _ = _
          rw [he.out, eat_over HM5.out]
          simp
        have HF : Hid (∃ bs', Dec (wr.setCell ⟨D, 7, none⟩ (.int .i64 (st.total + j))) D (feedS s t.data.toList) bs' ∧ Goes bs w bs' (wr.setCell ⟨D, 7, none⟩ (.int .i64 (st.total + j)))) := by
          obtain ⟨xl, xb, xt, HI, hbs⟩ := hd.out
          have hA := HI.at.set 7 (.int .i64 (st.total + j))
          refine ⟨_, ⟨xl, xb, xt, IsD.build HI.str hA ?_ ?_ ?_ ?_ HI.sep, rfl⟩, ?_⟩
          · unfold feedS
            rw [if_neg HM.out, HEnd.out]
            rfl
          · unfold feedS
            rw [if_neg HM.out, HEnd.out]
            exact HI.line
          · unfold feedS
            rw [if_neg HM.out, HEnd.out]
            exact HI.body
          · unfold feedS
            rw [if_neg HM.out, HEnd.out]
            exact HI.tr
          · have hg1 := hg.out
            rw [hbs] at hg1
            exact hg1.trans (goes_ft (hA.ftd _ _ _) (fun g h => .inl h) (fun g h => .inl h) (fun g h => .inl h))
        have ht0 := ho.out.total.1
        have ht1 := ho.out.total.2
        have d2' : (wr.setCell ⟨D, 7, none⟩ (.int .i64 (st.total + j))).cell? ⟨D, 2, none⟩ = some (.int .i64 st.err) := by
          rw [World.cell?_setCell_other (h := fun e => by injection e with _ e _; cases e)]
          exact d2
        go_wp2_with fail
        obtain ⟨w9, hw9⟩ : ∃ w9, w9 = wr.setCell ⟨D, 7, none⟩ (.int .i64 (st.total + j)) := ⟨_, rfl⟩
        rw [← hw9] at HF d2' ⊢
        clear hw9 d0 d2 d7 df
        go_quiet (fail)
        all_goals
          go_wp2
          go_ret2
          have hN : feedN s t.data.toList = j := by unfold feedN; rw [if_neg HM.out, HEnd.out]
          have hE : feedE s t.data.toList = st.err := by unfold feedE; rw [if_neg HM.out, HEnd.out]
          rw [hN, hE]
          obtain ⟨bs9, h9, g9⟩ := HF.out
          have hb9 := bel_drewN (Below.refl w9.heap.size w9) nq
          exact ⟨rfl, bs9, h9.below hb9, g9.trans (Goes.below hb9)⟩
      · have HBD : Hid (Base w0 wr.drew bs1) := HHg.out.below (Below.refl _ _).drew
        have HDd : Hid (Dec wr.drew D st bs1) := hd.out.below (Below.refl _ _).drew
        have hpos : 0 < (t.extract j t.size).size := by rw [size_ext t j hj]; omega
        have hbnd : k + j + (t.extract j t.size).size ≤ 2147483647 := by rw [size_ext t j hj]; omega
        clear d2 d7 df
        rcases mode_cases ho.out hm with hm | hm | hm | hm | hm
        · rw [hm] at d0
          change wr.cell? ⟨D, 0, none⟩ = some (.func (.func 39) #[] #[]) at d0
          go_wp2_with fail
          go_region_with (go_at_call 39; refine (next0 HBD.out HDd.out ho.out hm (t.extract j t.size) hpos hbnd).mono ?_; rintro e w2 ⟨n, s2, bs2, rfl, hn0, hn1, he2, ho2, hd2, hg2⟩; rw [size_ext t j hj] at hn1; rw [drop_ext] at he2; have hwr : IntKind.i64.wrap ((j : Int) + (n : Int)) = (j : Int) + (n : Int) := (by rw [IntKind.wrap_i64]; omega); have HE2 : Hid (eat st (t.data.toList.drop j) = _) := he2; have HO2 : Hid (Ok s2 (k + j + n)) := ho2; have HD2 : Hid (Dec w2 D s2 bs2) := hd2; have HG2 : Hid (Goes bs1 wr.drew bs2 w2) := hg2; clear he2 ho2 hd2 hg2)
          all_goals
            go_simp
            go_roundw
            case rel =>
              refine ⟨_, _, _, _, _, _, _, _, _, _, _, _, _, _, _, _, _, _, _, _, _, _, _, ⟨j + n, s2, bs2, ?_, by omega, ?_, ?_, HD2.out, ?_⟩, rfl⟩
              · go_num
              · show eat _ _ = _
                rw [he.out, HE2.out, List.drop_drop]
                simp; omega
              · show Ok _ _
                rw [show k + (j + n) = k + j + n by omega]
                exact HO2.out
              · exact (hg.out.trans (Goes.below (Below.refl _ _).drew)).trans HG2.out
            case measure => simp [intOf]; omega
        · rw [hm] at d0
          change wr.cell? ⟨D, 0, none⟩ = some (.func (.func 73) #[] #[]) at d0
          go_wp2_with fail
          go_region_with (go_at_call 73; refine (next1 HBD.out HDd.out ho.out hm (t.extract j t.size) hpos hbnd).mono ?_; rintro e w2 ⟨n, s2, bs2, rfl, hn0, hn1, he2, ho2, hd2, hg2⟩; rw [size_ext t j hj] at hn1; rw [drop_ext] at he2; have hwr : IntKind.i64.wrap ((j : Int) + (n : Int)) = (j : Int) + (n : Int) := (by rw [IntKind.wrap_i64]; omega); have HE2 : Hid (eat st (t.data.toList.drop j) = _) := he2; have HO2 : Hid (Ok s2 (k + j + n)) := ho2; have HD2 : Hid (Dec w2 D s2 bs2) := hd2; have HG2 : Hid (Goes bs1 wr.drew bs2 w2) := hg2; clear he2 ho2 hd2 hg2)
          all_goals
            go_simp
            go_roundw
            case rel =>
              refine ⟨_, _, _, _, _, _, _, _, _, _, _, _, _, _, _, _, _, _, _, _, _, _, _, ⟨j + n, s2, bs2, ?_, by omega, ?_, ?_, HD2.out, ?_⟩, rfl⟩
              · go_num
              · show eat _ _ = _
                rw [he.out, HE2.out, List.drop_drop]
                simp; omega
              · show Ok _ _
                rw [show k + (j + n) = k + j + n by omega]
                exact HO2.out
              · exact (hg.out.trans (Goes.below (Below.refl _ _).drew)).trans HG2.out
            case measure => simp [intOf]; omega
        · rw [hm] at d0
          change wr.cell? ⟨D, 0, none⟩ = some (.func (.func 92) #[] #[]) at d0
          go_wp2_with fail
          go_region_with (go_at_call 92; refine (next2 HBD.out HDd.out ho.out hm (t.extract j t.size) hpos hbnd).mono ?_; rintro e w2 ⟨n, s2, bs2, rfl, hn0, hn1, he2, ho2, hd2, hg2⟩; rw [size_ext t j hj] at hn1; rw [drop_ext] at he2; have hwr : IntKind.i64.wrap ((j : Int) + (n : Int)) = (j : Int) + (n : Int) := (by rw [IntKind.wrap_i64]; omega); have HE2 : Hid (eat st (t.data.toList.drop j) = _) := he2; have HO2 : Hid (Ok s2 (k + j + n)) := ho2; have HD2 : Hid (Dec w2 D s2 bs2) := hd2; have HG2 : Hid (Goes bs1 wr.drew bs2 w2) := hg2; clear he2 ho2 hd2 hg2)
          all_goals
            go_simp
            go_roundw
            case rel =>
              refine ⟨_, _, _, _, _, _, _, _, _, _, _, _, _, _, _, _, _, _, _, _, _, _, _, ⟨j + n, s2, bs2, ?_, by omega, ?_, ?_, HD2.out, ?_⟩, rfl⟩
              · go_num
              · show eat _ _ = _
                rw [he.out, HE2.out, List.drop_drop]
                simp; omega
              · show Ok _ _
                rw [show k + (j + n) = k + j + n by omega]
                exact HO2.out
              · exact (hg.out.trans (Goes.below (Below.refl _ _).drew)).trans HG2.out
            case measure => simp [intOf]; omega
        · rw [hm] at d0
          change wr.cell? ⟨D, 0, none⟩ = some (.func (.func 107) #[] #[]) at d0
          go_wp2_with fail
          go_region_with (go_at_call 107; refine (next3 HBD.out HDd.out ho.out hm (t.extract j t.size) hpos hbnd).mono ?_; rintro e w2 ⟨n, s2, bs2, rfl, hn0, hn1, he2, ho2, hd2, hg2⟩; rw [size_ext t j hj] at hn1; rw [drop_ext] at he2; have hwr : IntKind.i64.wrap ((j : Int) + (n : Int)) = (j : Int) + (n : Int) := (by rw [IntKind.wrap_i64]; omega); have HE2 : Hid (eat st (t.data.toList.drop j) = _) := he2; have HO2 : Hid (Ok s2 (k + j + n)) := ho2; have HD2 : Hid (Dec w2 D s2 bs2) := hd2; have HG2 : Hid (Goes bs1 wr.drew bs2 w2) := hg2; clear he2 ho2 hd2 hg2)
          all_goals
            go_simp
            go_roundw
            case rel =>
              refine ⟨_, _, _, _, _, _, _, _, _, _, _, _, _, _, _, _, _, _, _, _, _, _, _, ⟨j + n, s2, bs2, ?_, by omega, ?_, ?_, HD2.out, ?_⟩, rfl⟩
              · go_num
              · show eat _ _ = _
                rw [he.out, HE2.out, List.drop_drop]
                simp; omega
              · show Ok _ _
                rw [show k + (j + n) = k + j + n by omega]
                exact HO2.out
              · exact (hg.out.trans (Goes.below (Below.refl _ _).drew)).trans HG2.out
            case measure => simp [intOf]; omega
        · rw [hm] at d0
          change wr.cell? ⟨D, 0, none⟩ = some (.func (.func 72) #[] #[]) at d0
          go_wp2_with fail
          go_region_with (go_at_call 72; refine (next4 HBD.out HDd.out ho.out hm (t.extract j t.size) hpos hbnd).mono ?_; rintro e w2 ⟨n, s2, bs2, rfl, hn0, hn1, he2, ho2, hd2, hg2⟩; rw [size_ext t j hj] at hn1; rw [drop_ext] at he2; have hwr : IntKind.i64.wrap ((j : Int) + (n : Int)) = (j : Int) + (n : Int) := (by rw [IntKind.wrap_i64]; omega); have HE2 : Hid (eat st (t.data.toList.drop j) = _) := he2; have HO2 : Hid (Ok s2 (k + j + n)) := ho2; have HD2 : Hid (Dec w2 D s2 bs2) := hd2; have HG2 : Hid (Goes bs1 wr.drew bs2 w2) := hg2; clear he2 ho2 hd2 hg2)
          all_goals
            go_simp
            go_roundw
            case rel =>
              refine ⟨_, _, _, _, _, _, _, _, _, _, _, _, _, _, _, _, _, _, _, _, _, _, _, ⟨j + n, s2, bs2, ?_, by omega, ?_, ?_, HD2.out, ?_⟩, rfl⟩
              · go_num
              · show eat _ _ = _
                rw [he.out, HE2.out, List.drop_drop]
                simp; omega
              · show Ok _ _
                rw [show k + (j + n) = k + j + n by omega]
                exact HO2.out
              · exact (hg.out.trans (Goes.below (Below.refl _ _).drew)).trans HG2.out
            case measure => simp [intOf]; omega
    · have HZ : Hid (t.data.toList.drop j = []) := List.drop_eq_nil_of_le (by rw [size_list]; omega)
      have HEnd : Hid (eat s t.data.toList = (j, st)) := by
        show eat _ _ = _
        rw [he.out, HZ.out, eat_nil]
        simp
      have HF : Hid (∃ bs', Dec (wr.setCell ⟨D, 7, none⟩ (.int .i64 (st.total + j))) D (feedS s t.data.toList) bs' ∧ Goes bs w bs' (wr.setCell ⟨D, 7, none⟩ (.int .i64 (st.total + j)))) := by
        obtain ⟨xl, xb, xt, HI, hbs⟩ := hd.out
        have hA := HI.at.set 7 (.int .i64 (st.total + j))
        refine ⟨_, ⟨xl, xb, xt, IsD.build HI.str hA ?_ ?_ ?_ ?_ HI.sep, rfl⟩, ?_⟩
        · unfold feedS
          rw [if_neg HM.out, HEnd.out]
          rfl
        · unfold feedS
          rw [if_neg HM.out, HEnd.out]
          exact HI.line
        · unfold feedS
          rw [if_neg HM.out, HEnd.out]
          exact HI.body
        · unfold feedS
          rw [if_neg HM.out, HEnd.out]
          exact HI.tr
        · have hg1 := hg.out
          rw [hbs] at hg1
          exact hg1.trans (goes_ft (hA.ftd _ _ _) (fun g h => .inl h) (fun g h => .inl h) (fun g h => .inl h))
      have ht0 := ho.out.total.1
      have ht1 := ho.out.total.2
      have d2' : (wr.setCell ⟨D, 7, none⟩ (.int .i64 (st.total + j))).cell? ⟨D, 2, none⟩ = some (.int .i64 st.err) := by
        rw [World.cell?_setCell_other (h := fun e => by injection e with _ e _; cases e)]
        exact d2
      go_wp2_with fail
      obtain ⟨w9, hw9⟩ : ∃ w9, w9 = wr.setCell ⟨D, 7, none⟩ (.int .i64 (st.total + j)) := ⟨_, rfl⟩
      rw [← hw9] at HF d2' ⊢
      clear hw9 d0 d2 d7 df
      go_quiet (fail)
      all_goals
        go_wp2
        go_ret2
        have hN : feedN s t.data.toList = j := by unfold feedN; rw [if_neg HM.out, HEnd.out]
        have hE : feedE s t.data.toList = st.err := by unfold feedE; rw [if_neg HM.out, HEnd.out]
        rw [hN, hE]
        obtain ⟨bs9, h9, g9⟩ := HF.out
        have hb9 := bel_drewN (Below.refl w9.heap.size w9) nq
        exact ⟨rfl, bs9, h9.below hb9, g9.trans (Goes.below hb9)⟩

end Ck
end Go.Proofs.YtifhbjkgdnemjaaGreatDoor
