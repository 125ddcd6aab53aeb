import Derived.Test.YtdcfhnbagldilaaGreatDoorMgQ
import Derived.Test.YtdcfhnbagldilaaGreatDoorMgH
import Derived.Deep.RegionWith
import Derived.Laws.MakeOwn
import Derived.Laws.CopyRow
import Derived.Lib.SliceRun
set_option linter.unusedVariables false
set_option linter.unusedSimpArgs false
set_option maxRecDepth 100000
namespace Go.Proofs.YtdcfhnbagldilaaGreatDoor
open Go.RowKit Go.Shelf Go.Lib
namespace Ck
open Oc Tg _root_.Go.Proofs.YtdcfhnbagldilaaGreatDoor.Fd
def Took (s : DS) (k : Nat) (t : ByteArray) (w0 : World) (D : Nat) (bs : List Nat) (w : World) (ex : Ending) (w' : World) : Prop :=
  ∃ (n : Nat) (s' : DS) (bs' : List Nat), ex = .returned (.int .i64 n) ∧ 0 < n ∧ n ≤ t.size ∧ eat s t.data.toList = (n + (eat s' (t.data.toList.drop n)).1, (eat s' (t.data.toList.drop n)).2) ∧ Ok s' (k + n) ∧ Dec w' D s' bs' ∧ Goes bs w bs' w'
theorem list_first (t : ByteArray) (ht : 0 < t.size) : t.data.toList = t.data.toList.getD 0 0 :: t.data.toList.drop 1 := by
  cases h : t.data.toList with
  | nil => have := size_list t; rw [h] at this; simp at this; omega
  | cons c l => rfl
theorem took_one {s s' : DS} {k : Nat} {t : ByteArray} {w0 w w' : World} {D : Nat} {bs bs' : List Nat} (h : Ok s k) (hm : s.mode ≠ 5) (ht : 0 < t.size) (he : bstep s (t.data.toList.getD 0 0) = s') (hd : Dec w' D s' bs') (hg : Goes bs w bs' w') : Took s k t w0 D bs w (.returned (.int .i64 1)) w' := by
  refine ⟨1, s', bs', rfl, by decide, ht, ?_, ?_, hd, hg⟩
  · conv => lhs; rw [list_first t ht]
    rw [eat_cons hm, he, Nat.add_comm]
  · rw [← he]; exact bstep_ok h hm _
theorem byt_first (t : ByteArray) : byt t 0 = ((t.data.toList.getD 0 0).toNat : Int) := rfl
section
variable {w0 w : World} {D k : Nat} {s : DS} {bs : List Nat}
theorem next0 (HB : Base w0 w bs) (H : Dec w D s bs) (hk : Ok s k) (hm : s.mode = 0) (t : ByteArray) (ht : 0 < t.size) (hb : k + t.size ≤ 2147483647) :
    Calls Tryz.prog 104 #[.pointer (some ⟨D, 0, none⟩), .string t] w (Took s k t w0 D bs w) := by
  have hl := hk.len
  refine (inSize_any HB H (by omega) hk.most.1 hk.most.2 t ht _ (byt_first t)).mono ?_
  rintro e w' ⟨rfl, bs', hd, hg⟩
  exact took_one hk (by omega) ht (by unfold bstep; rw [hm]; rfl) hd hg
theorem next1 (HB : Base w0 w bs) (H : Dec w D s bs) (hk : Ok s k) (hm : s.mode = 1) (t : ByteArray) (ht : 0 < t.size) (hb : k + t.size ≤ 2147483647) :
    Calls Tryz.prog 146 #[.pointer (some ⟨D, 0, none⟩), .string t] w (Took s k t w0 D bs w) := by
  have hl := hk.len
  have hp := hk.pos hm
  have hle := hk.left
  obtain ⟨n, hn⟩ : ∃ n : Nat, min (t.size : Int) s.left = (n : Int) := ⟨(min (t.size : Int) s.left).toNat, by omega⟩
  have hxl : (t.data.toList.take n).length = n := by rw [List.length_take, size_list]; omega
  refine (inChunk_any H t n (by omega) (by omega) hn (by omega) (by omega) hle.2 (by omega) hm).mono ?_
  rintro e w' ⟨rfl, bs', hd, hg⟩
  refine ⟨n, _, bs', rfl, by omega, by omega, ?_, ?_, hd, hg⟩
  · conv => lhs; rw [← List.take_append_drop n t.data.toList]
    rw [eat_chunk _ _ s k hk hm (fun e => by rw [e] at hxl; simp at hxl; omega) (by rw [hxl]; omega), hxl]
  · have := inChunk_ok hk hm (t.data.toList.take n) (by rw [hxl]; omega)
    rw [hxl] at this
    exact this
theorem next2 (HB : Base w0 w bs) (H : Dec w D s bs) (hk : Ok s k) (hm : s.mode = 2) (t : ByteArray) (ht : 0 < t.size) (hb : k + t.size ≤ 2147483647) :
    Calls Tryz.prog 167 #[.pointer (some ⟨D, 0, none⟩), .string t] w (Took s k t w0 D bs w) := by
  refine (behindChunk_any H t ht _ (byt_first t)).mono ?_
  rintro e w' ⟨rfl, bs', hd, hg⟩
  exact took_one hk (by omega) ht (by unfold bstep; rw [hm]; rfl) hd hg
theorem next3 (HB : Base w0 w bs) (H : Dec w D s bs) (hk : Ok s k) (hm : s.mode = 3) (t : ByteArray) (ht : 0 < t.size) (hb : k + t.size ≤ 2147483647) :
    Calls Tryz.prog 190 #[.pointer (some ⟨D, 0, none⟩), .string t] w (Took s k t w0 D bs w) := by
  refine (behindReturn_any H t ht _ (byt_first t)).mono ?_
  rintro e w' ⟨rfl, bs', hd, hg⟩
  exact took_one hk (by omega) ht (by unfold bstep; rw [hm]; rfl) hd hg
theorem next4 (HB : Base w0 w bs) (H : Dec w D s bs) (hk : Ok s k) (hm : s.mode = 4) (t : ByteArray) (ht : 0 < t.size) (hb : k + t.size ≤ 2147483647) :
    Calls Tryz.prog 145 #[.pointer (some ⟨D, 0, none⟩), .string t] w (Took s k t w0 D bs w) := by
  have hl := hk.len
  refine (inTrailers_any HB H (by omega) hk.room.1 hk.room.2 hk.fields.1 hk.fields.2 (by omega) t ht _ (byt_first t)).mono ?_
  rintro e w' ⟨rfl, bs', hd, hg⟩
  exact took_one hk (by omega) ht (by unfold bstep; rw [hm]; rfl) hd hg
end
def feedS (s : DS) (l : List UInt8) : DS := if s.mode = 5 then s else { (eat s l).2 with total := (eat s l).2.total + (eat s l).1 }
def feedN (s : DS) (l : List UInt8) : Int := if s.mode = 5 then 0 else (eat s l).1
def feedE (s : DS) (l : List UInt8) : Int := if s.mode = 5 then 103 else (eat s l).2.err
theorem neq_fn (k : Nat) (W : World) : (binOp .neq 144 (.func (.func k) #[] #[]) .nilFunc).run Tryz.prog W = .ok (.bool true) W := by kernel_rfl
theorem neq_nil (W : World) : (binOp .neq 144 .nilFunc .nilFunc).run Tryz.prog W = .ok (.bool false) W := by kernel_rfl
theorem eql_fn (k : Nat) (W : World) : (binOp .eql 144 (.func (.func k) #[] #[]) .nilFunc).run Tryz.prog W = .ok (.bool false) W := by kernel_rfl
theorem eql_nil (W : World) : (binOp .eql 144 .nilFunc .nilFunc).run Tryz.prog W = .ok (.bool true) W := by kernel_rfl
end Ck
end Go.Proofs.YtdcfhnbagldilaaGreatDoor
set_option linter.unusedVariables false
set_option linter.unusedSimpArgs false
set_option maxRecDepth 100000
namespace Go.Proofs.YtdcfhnbagldilaaGreatDoor
open Go.RowKit Go.Shelf
namespace Ck
open Oc Tg _root_.Go.Proofs.YtdcfhnbagldilaaGreatDoor.Fd
theorem drop_ext (t : ByteArray) (j : Nat) : (t.extract j t.size).data.toList = t.data.toList.drop j := Lib.extract_to_end t j
theorem size_ext (t : ByteArray) (j : Nat) (h : j ≤ t.size) : (t.extract j t.size).size = t.size - j := by
  rw [← size_list, drop_ext, List.length_drop, size_list]
set_option maxHeartbeats 8000000 in
theorem Feed_any {w0 w : World} {D k : Nat} {s : DS} {bs : List Nat} (HB : Base w0 w bs) (H : Dec w D s bs) (hk : Ok s k) (t : ByteArray) (hb : k + t.size ≤ 2147483647) :
    Calls Tryz.prog 73 #[.pointer (some ⟨D, 0, none⟩), .string t] w fun ex w' => ex = .returned (.tuple #[.int .i64 (feedN s t.data.toList), .int .i64 (feedE s t.data.toList)]) ∧ ∃ bs', Dec w' D (feedS s t.data.toList) bs' ∧ Goes bs w bs' w' := by
  have HHB : Hid (Base w0 w bs) := HB
  have HDD : Hid (Dec w D s bs) := H
  have HOK : Hid (Ok s k) := hk
  obtain ⟨vl, vb, vt, c0, c1, c2, c3, c4, c5, c6, c7, c8, c9, c10, cf⟩ := H.cells
  have ef := eql_fn
  have en := eql_nil
  clear c1 c2 c3 c4 c5 c6 c7 c8 c9 c10 cf
  by_cases hm : s.mode = 5
  · rw [hm] at c0
    change w.cell? ⟨D, 0, none⟩ = some .nilFunc at c0
    have HM : Hid (s.mode = 5) := hm
    clear hk H HB hm
    go_enter Tryz.func73, Tryz.ntmps73
    go_wp2
    go_ret2
    unfold feedN feedE feedS
    rw [if_pos HM.out, if_pos HM.out, if_pos HM.out]
    exact ⟨rfl, bs, HDD.out, Goes.refl _ _⟩
  have HM : Hid (s.mode ≠ 5) := hm
  have hf : ∃ f, fnV s.mode = .func (.func f) #[] #[] := by
    rcases mode_cases hk hm with e | e | e | e | e <;> rw [e] <;> exact ⟨_, rfl⟩
  obtain ⟨f, hf⟩ := hf
  rw [hf] at c0
  clear hk H HB hm hf
  go_enter Tryz.func73, Tryz.ntmps73
  go_wp2
  clear c0 ef en
  have nf := neq_fn
  have nn := neq_nil
  go_loopw [6] (fun nv wr => ∃ (j : Nat) (st : DS) (bs1 : List Nat), nv = .int .i64 j ∧ j ≤ t.size ∧ Hid (eat s t.data.toList = (j + (eat st (t.data.toList.drop j)).1, (eat st (t.data.toList.drop j)).2)) ∧ Hid (Ok st (k + j)) ∧ Hid (Dec wr D st bs1) ∧ Hid (Goes bs w bs1 wr)) (fun nv _ => t.size - (intOf nv).toNat)
  case atStart => exact ⟨0, s, bs, rfl, Nat.zero_le _, (by simp : eat s t.data.toList = (0 + (eat s (t.data.toList.drop 0)).1, (eat s (t.data.toList.drop 0)).2)), HOK.out, HDD.out, Goes.refl _ _⟩
  case round =>
    obtain ⟨j, st, bs1, rfl, hj, he, ho, hd, hg⟩ := hrel
    obtain ⟨vl1, vb1, vt1, d0, _, d2, _, _, _, _, d7, _, _, _, df⟩ := hd.out.cells
    have HHg : Hid (Base w0 wr bs1) := HHB.out.goes hg.out
    by_cases hlt : j < t.size
    · by_cases hm : st.mode = 5
      · rw [hm] at d0
        change wr.cell? ⟨D, 0, none⟩ = some .nilFunc at d0
        have HM5 : Hid (st.mode = 5) := hm
        clear hm
        have HEnd : Hid (eat s t.data.toList = (j, st)) := by
          show eat _ _ = _
          rw [he.out, eat_over HM5.out]
          simp
        have HF : Hid (∃ bs', Dec (wr.setCell ⟨D, 7, none⟩ (.int .i64 (st.total + j))) D (feedS s t.data.toList) bs' ∧ Goes bs w bs' (wr.setCell ⟨D, 7, none⟩ (.int .i64 (st.total + j)))) := by
          obtain ⟨xl, xb, xt, HI, hbs⟩ := hd.out
          have hA := HI.at.set 7 (.int .i64 (st.total + j))
          refine ⟨_, ⟨xl, xb, xt, IsD.build HI.str hA ?_ ?_ ?_ ?_ HI.sep, rfl⟩, ?_⟩
          · unfold feedS
            rw [if_neg HM.out, HEnd.out]
            rfl
          · unfold feedS
            rw [if_neg HM.out, HEnd.out]
            exact HI.line
          · unfold feedS
            rw [if_neg HM.out, HEnd.out]
            exact HI.body
          · unfold feedS
            rw [if_neg HM.out, HEnd.out]
            exact HI.tr
          · have hg1 := hg.out
            rw [hbs] at hg1
            exact hg1.trans (goes_ft (hA.ftd _ _ _) (fun g h => .inl h) (fun g h => .inl h) (fun g h => .inl h))
        have ht0 := ho.out.total.1
        have ht1 := ho.out.total.2
        have d2' : (wr.setCell ⟨D, 7, none⟩ (.int .i64 (st.total + j))).cell? ⟨D, 2, none⟩ = some (.int .i64 st.err) := by
          rw [World.cell?_setCell_other (h := fun e => by injection e with _ e _; cases e)]
          exact d2
        go_wp2_with fail
        obtain ⟨w9, hw9⟩ : ∃ w9, w9 = wr.setCell ⟨D, 7, none⟩ (.int .i64 (st.total + j)) := ⟨_, rfl⟩
        rw [← hw9] at HF d2' ⊢
        clear hw9 d0 d2 d7 df
        go_quiet (fail)
        all_goals
          go_wp2
          go_ret2
          have hN : feedN s t.data.toList = j := by unfold feedN; rw [if_neg HM.out, HEnd.out]
          have hE : feedE s t.data.toList = st.err := by unfold feedE; rw [if_neg HM.out, HEnd.out]
          rw [hN, hE]
          obtain ⟨bs9, h9, g9⟩ := HF.out
          have hb9 := bel_drewN (Below.refl w9.heap.size w9) nq
          exact ⟨rfl, bs9, h9.below hb9, g9.trans (Goes.below hb9)⟩
      · have HBD : Hid (Base w0 wr.drew bs1) := HHg.out.below (Below.refl _ _).drew
        have HDd : Hid (Dec wr.drew D st bs1) := hd.out.below (Below.refl _ _).drew
        have hpos : 0 < (t.extract j t.size).size := by rw [size_ext t j hj]; omega
        have hbnd : k + j + (t.extract j t.size).size ≤ 2147483647 := by rw [size_ext t j hj]; omega
        clear d2 d7 df
        rcases mode_cases ho.out hm with hm | hm | hm | hm | hm
        · rw [hm] at d0
          change wr.cell? ⟨D, 0, none⟩ = some (.func (.func 104) #[] #[]) at d0
          go_wp2_with fail
          go_region_with (go_at_call 104; refine (next0 HBD.out HDd.out ho.out hm (t.extract j t.size) hpos hbnd).mono ?_; rintro e w2 ⟨n, s2, bs2, rfl, hn0, hn1, he2, ho2, hd2, hg2⟩; rw [size_ext t j hj] at hn1; rw [drop_ext] at he2; have hwr : IntKind.i64.wrap ((j : Int) + (n : Int)) = (j : Int) + (n : Int) := (by rw [IntKind.wrap_i64]; omega); have HE2 : Hid (eat st (t.data.toList.drop j) = _) := he2; have HO2 : Hid (Ok s2 (k + j + n)) := ho2; have HD2 : Hid (Dec w2 D s2 bs2) := hd2; have HG2 : Hid (Goes bs1 wr.drew bs2 w2) := hg2; clear he2 ho2 hd2 hg2)
          all_goals
            go_simp
            go_roundw
            case rel =>
              refine ⟨_, _, _, _, _, _, _, _, _, _, _, _, _, _, _, _, _, _, _, _, _, _, _, ⟨j + n, s2, bs2, ?_, by omega, ?_, ?_, HD2.out, ?_⟩, rfl⟩
              · go_num
              · show eat _ _ = _
                rw [he.out, HE2.out, List.drop_drop]
                simp; omega
              · show Ok _ _
                rw [show k + (j + n) = k + j + n by omega]
                exact HO2.out
              · exact (hg.out.trans (Goes.below (Below.refl _ _).drew)).trans HG2.out
            case measure => simp [intOf]; omega
        · rw [hm] at d0
          change wr.cell? ⟨D, 0, none⟩ = some (.func (.func 146) #[] #[]) at d0
          go_wp2_with fail
          go_region_with (go_at_call 146; refine (next1 HBD.out HDd.out ho.out hm (t.extract j t.size) hpos hbnd).mono ?_; rintro e w2 ⟨n, s2, bs2, rfl, hn0, hn1, he2, ho2, hd2, hg2⟩; rw [size_ext t j hj] at hn1; rw [drop_ext] at he2; have hwr : IntKind.i64.wrap ((j : Int) + (n : Int)) = (j : Int) + (n : Int) := (by rw [IntKind.wrap_i64]; omega); have HE2 : Hid (eat st (t.data.toList.drop j) = _) := he2; have HO2 : Hid (Ok s2 (k + j + n)) := ho2; have HD2 : Hid (Dec w2 D s2 bs2) := hd2; have HG2 : Hid (Goes bs1 wr.drew bs2 w2) := hg2; clear he2 ho2 hd2 hg2)
          all_goals
            go_simp
            go_roundw
            case rel =>
              refine ⟨_, _, _, _, _, _, _, _, _, _, _, _, _, _, _, _, _, _, _, _, _, _, _, ⟨j + n, s2, bs2, ?_, by omega, ?_, ?_, HD2.out, ?_⟩, rfl⟩
              · go_num
              · show eat _ _ = _
                rw [he.out, HE2.out, List.drop_drop]
                simp; omega
              · show Ok _ _
                rw [show k + (j + n) = k + j + n by omega]
                exact HO2.out
              · exact (hg.out.trans (Goes.below (Below.refl _ _).drew)).trans HG2.out
            case measure => simp [intOf]; omega
        · rw [hm] at d0
          change wr.cell? ⟨D, 0, none⟩ = some (.func (.func 167) #[] #[]) at d0
          go_wp2_with fail
          go_region_with (go_at_call 167; refine (next2 HBD.out HDd.out ho.out hm (t.extract j t.size) hpos hbnd).mono ?_; rintro e w2 ⟨n, s2, bs2, rfl, hn0, hn1, he2, ho2, hd2, hg2⟩; rw [size_ext t j hj] at hn1; rw [drop_ext] at he2; have hwr : IntKind.i64.wrap ((j : Int) + (n : Int)) = (j : Int) + (n : Int) := (by rw [IntKind.wrap_i64]; omega); have HE2 : Hid (eat st (t.data.toList.drop j) = _) := he2; have HO2 : Hid (Ok s2 (k + j + n)) := ho2; have HD2 : Hid (Dec w2 D s2 bs2) := hd2; have HG2 : Hid (Goes bs1 wr.drew bs2 w2) := hg2; clear he2 ho2 hd2 hg2)
          all_goals
            go_simp
            go_roundw
            case rel =>
              refine ⟨_, _, _, _, _, _, _, _, _, _, _, _, _, _, _, _, _, _, _, _, _, _, _, ⟨j + n, s2, bs2, ?_, by omega, ?_, ?_, HD2.out, ?_⟩, rfl⟩
              · go_num
              · show eat _ _ = _
                rw [he.out, HE2.out, List.drop_drop]
                simp; omega
              · show Ok _ _
                rw [show k + (j + n) = k + j + n by omega]
                exact HO2.out
              · exact (hg.out.trans (Goes.below (Below.refl _ _).drew)).trans HG2.out
            case measure => simp [intOf]; omega
        · rw [hm] at d0
          change wr.cell? ⟨D, 0, none⟩ = some (.func (.func 190) #[] #[]) at d0
          go_wp2_with fail
          go_region_with (go_at_call 190; refine (next3 HBD.out HDd.out ho.out hm (t.extract j t.size) hpos hbnd).mono ?_; rintro e w2 ⟨n, s2, bs2, rfl, hn0, hn1, he2, ho2, hd2, hg2⟩; rw [size_ext t j hj] at hn1; rw [drop_ext] at he2; have hwr : IntKind.i64.wrap ((j : Int) + (n : Int)) = (j : Int) + (n : Int) := (by rw [IntKind.wrap_i64]; omega); have HE2 : Hid (eat st (t.data.toList.drop j) = _) := he2; have HO2 : Hid (Ok s2 (k + j + n)) := ho2; have HD2 : Hid (Dec w2 D s2 bs2) := hd2; have HG2 : Hid (Goes bs1 wr.drew bs2 w2) := hg2; clear he2 ho2 hd2 hg2)
          all_goals
            go_simp
            go_roundw
            case rel =>
              refine ⟨_, _, _, _, _, _, _, _, _, _, _, _, _, _, _, _, _, _, _, _, _, _, _, ⟨j + n, s2, bs2, ?_, by omega, ?_, ?_, HD2.out, ?_⟩, rfl⟩
              · go_num
              · show eat _ _ = _
                rw [he.out, HE2.out, List.drop_drop]
                simp; omega
              · show Ok _ _
                rw [show k + (j + n) = k + j + n by omega]
                exact HO2.out
              · exact (hg.out.trans (Goes.below (Below.refl _ _).drew)).trans HG2.out
            case measure => simp [intOf]; omega
        · rw [hm] at d0
          change wr.cell? ⟨D, 0, none⟩ = some (.func (.func 145) #[] #[]) at d0
          go_wp2_with fail
          go_region_with (go_at_call 145; refine (next4 HBD.out HDd.out ho.out hm (t.extract j t.size) hpos hbnd).mono ?_; rintro e w2 ⟨n, s2, bs2, rfl, hn0, hn1, he2, ho2, hd2, hg2⟩; rw [size_ext t j hj] at hn1; rw [drop_ext] at he2; have hwr : IntKind.i64.wrap ((j : Int) + (n : Int)) = (j : Int) + (n : Int) := (by rw [IntKind.wrap_i64]; omega); have HE2 : Hid (eat st (t.data.toList.drop j) = _) := he2; have HO2 : Hid (Ok s2 (k + j + n)) := ho2; have HD2 : Hid (Dec w2 D s2 bs2) := hd2; have HG2 : Hid (Goes bs1 wr.drew bs2 w2) := hg2; clear he2 ho2 hd2 hg2)
          all_goals
            go_simp
            go_roundw
            case rel =>
              refine ⟨_, _, _, _, _, _, _, _, _, _, _, _, _, _, _, _, _, _, _, _, _, _, _, ⟨j + n, s2, bs2, ?_, by omega, ?_, ?_, HD2.out, ?_⟩, rfl⟩
              · go_num
              · show eat _ _ = _
                rw [he.out, HE2.out, List.drop_drop]
                simp; omega
              · show Ok _ _
                rw [show k + (j + n) = k + j + n by omega]
                exact HO2.out
              · exact (hg.out.trans (Goes.below (Below.refl _ _).drew)).trans HG2.out
            case measure => simp [intOf]; omega
    · have HZ : Hid (t.data.toList.drop j = []) := List.drop_eq_nil_of_le (by rw [size_list]; omega)
      have HEnd : Hid (eat s t.data.toList = (j, st)) := by
        show eat _ _ = _
        rw [he.out, HZ.out, eat_nil]
        simp
      have HF : Hid (∃ bs', Dec (wr.setCell ⟨D, 7, none⟩ (.int .i64 (st.total + j))) D (feedS s t.data.toList) bs' ∧ Goes bs w bs' (wr.setCell ⟨D, 7, none⟩ (.int .i64 (st.total + j)))) := by
        obtain ⟨xl, xb, xt, HI, hbs⟩ := hd.out
        have hA := HI.at.set 7 (.int .i64 (st.total + j))
        refine ⟨_, ⟨xl, xb, xt, IsD.build HI.str hA ?_ ?_ ?_ ?_ HI.sep, rfl⟩, ?_⟩
        · unfold feedS
          rw [if_neg HM.out, HEnd.out]
          rfl
        · unfold feedS
          rw [if_neg HM.out, HEnd.out]
          exact HI.line
        · unfold feedS
          rw [if_neg HM.out, HEnd.out]
          exact HI.body
        · unfold feedS
          rw [if_neg HM.out, HEnd.out]
          exact HI.tr
        · have hg1 := hg.out
          rw [hbs] at hg1
          exact hg1.trans (goes_ft (hA.ftd _ _ _) (fun g h => .inl h) (fun g h => .inl h) (fun g h => .inl h))
      have ht0 := ho.out.total.1
      have ht1 := ho.out.total.2
      have d2' : (wr.setCell ⟨D, 7, none⟩ (.int .i64 (st.total + j))).cell? ⟨D, 2, none⟩ = some (.int .i64 st.err) := by
        rw [World.cell?_setCell_other (h := fun e => by injection e with _ e _; cases e)]
        exact d2
      go_wp2_with fail
      obtain ⟨w9, hw9⟩ : ∃ w9, w9 = wr.setCell ⟨D, 7, none⟩ (.int .i64 (st.total + j)) := ⟨_, rfl⟩
      rw [← hw9] at HF d2' ⊢
      clear hw9 d0 d2 d7 df
      go_quiet (fail)
      all_goals
        go_wp2
        go_ret2
        have hN : feedN s t.data.toList = j := by unfold feedN; rw [if_neg HM.out, HEnd.out]
        have hE : feedE s t.data.toList = st.err := by unfold feedE; rw [if_neg HM.out, HEnd.out]
        rw [hN, hE]
        obtain ⟨bs9, h9, g9⟩ := HF.out
        have hb9 := bel_drewN (Below.refl w9.heap.size w9) nq
        exact ⟨rfl, bs9, h9.below hb9, g9.trans (Goes.below hb9)⟩
end Ck
end Go.Proofs.YtdcfhnbagldilaaGreatDoor
set_option linter.unusedVariables false
set_option linter.unusedSimpArgs false
set_option maxRecDepth 100000
namespace Go.Proofs.YtdcfhnbagldilaaGreatDoor
open Go.RowKit Go.Shelf
namespace Ck
open Oc Tg _root_.Go.Proofs.YtdcfhnbagldilaaGreatDoor.Fd
theorem new_dec (w : World) (most room fields : Int) : Dec (w.alloc (.cells (cellsD (new most room fields) (.slice none 0 0) (.slice none 0 0) (.slice none 0 0)) 146)) w.heap.size (new most room fields) [w.heap.size] :=
  ⟨_, _, _, ⟨heap_alloc_new _ _, World.ownsRow_nil _ _ _ _, World.ownsRow_nil _ _ _ _, World.ownsRow_nil _ _ _ _, Sep.nil _⟩, rfl⟩
set_option maxHeartbeats 1000000 in
theorem New_ok (most room fields : Int) (h1 : 0 ≤ most) (h2 : 0 ≤ room) (h3 : 0 ≤ fields) (w : World) :
    Calls Tryz.prog 72 #[.int .i64 most, .int .i64 room, .int .i64 fields] w fun e w' => e = .returned (.tuple #[.pointer (some ⟨w.heap.size, 0, none⟩), .int .i64 0]) ∧ Dec w' w.heap.size (new most room fields) [w.heap.size] ∧ Below w.heap.size w w' := by
  have HN : Hid (Dec (w.alloc (.cells (cellsD (new most room fields) (.slice none 0 0) (.slice none 0 0) (.slice none 0 0)) 146)) w.heap.size (new most room fields) [w.heap.size]) := new_dec w most room fields
  have g1 : ¬ most < 0 := by omega
  have g2 : ¬ room < 0 := by omega
  have g3 : ¬ fields < 0 := by omega
  go_enter Tryz.func72, Tryz.ntmps72
  go_wp2
  go_ret2
  exact ⟨rfl, HN.out, (Below.refl _ w).alloc (Nat.le_refl _) _⟩
set_option maxHeartbeats 1000000 in
theorem Done_any {w : World} {D : Nat} {s : DS} {bs : List Nat} (H : Dec w D s bs) : Calls Tryz.prog 75 #[.pointer (some ⟨D, 0, none⟩)] w fun e w' => e = .returned (.bool s.done) ∧ w' = w := by
  obtain ⟨vl, vb, vt, c0, c1, c2, c3, c4, c5, c6, c7, c8, c9, c10, cf⟩ := H.cells
  clear c0 c2 c3 c4 c5 c6 c7 c8 c9 c10 H
  go_enter Tryz.func75, Tryz.ntmps75
  go_wp2
  go_ret
  exact ⟨rfl, rfl⟩
set_option maxHeartbeats 1000000 in
theorem Body_any {w : World} {D : Nat} {s : DS} {bs : List Nat} (H : Dec w D s bs) : Calls Tryz.prog 76 #[.pointer (some ⟨D, 0, none⟩)] w fun e w' => e = .returned (.string (str s.body)) ∧ w' = w := by
  obtain ⟨vl, vb, vt, H, _⟩ := H
  obtain ⟨c0, c1, c2, c3, c4, c5, c6, c7, c8, c9, c10, cf⟩ := row11 H.str
  have hcv := own_back H.body
  obtain ⟨a, c, rfl, _⟩ := own_form H.body
  generalize str s.body = L at *
  generalize s.body.length = n at *
  clear c0 c1 c2 c3 c4 c5 c6 c7 c8 c10 H
  go_enter Tryz.func76, Tryz.ntmps76
  go_wp2
  go_ret
  exact ⟨rfl, rfl⟩
theorem run_mkF (W : World) (n : Nat) (hn : n ≤ 2147483648) : ∃ cur : Array Value, cur.size = n * 2 ∧ (Instr.makeSlice 25 (.int .i64 (n : Int)) (.int .i64 (n : Int))).run Tryz.prog W = .ok (.slice (some ⟨W.heap.size, 0, none⟩) n n) (W.alloc (.cells cur 47 (0, 0))) := by
  obtain ⟨i0, hi, hz0, hz1, hz2⟩ := info_parts infoF
  have hr := run_make (P := Tryz.prog) W 25 47 i0 (.agg #[.string ⟨#[]⟩, .string ⟨#[]⟩]) Tryz.underlying25 hi hz0 .i64 .i64 (n : Int) (n : Int) (by omega) (Int.le_refl _) (by rw [hz2]; omega) (by omega)
  simp only [Int.toNat_natCast, hz1] at hr
  exact ⟨_, by rw [size_madeCells], hr⟩
theorem encF_ones (t : List Fl) : ∀ v ∈ encF t, v.oneCell' = true := fun v hv => by
  unfold encF encF1 at hv
  simp at hv
  obtain ⟨x, y, _, h⟩ := hv
  rcases h with rfl | rfl <;> rfl
theorem run_copyF (w : World) (ty : TypeId) (g : Nat) (n c1 c2 : Nat) (a : Addr) (cur : Array Value) (t : List Fl) (hg : w.heap[g]? = some (.cells cur 47 (0, 0))) (hd : cur.size = n * 2) (ht : t.length = n)
    (hsrc : ∀ j v, (encF t)[j]? = some v → w.cell? (a.add j) = some v) :
    (Builtin.copy_ #[25, 25] ty #[.slice (some ⟨g, 0, none⟩) n c1, .slice (some a) n c2]).run Tryz.prog w = .ok (goInt n) (w.setRow g (encF t).toArray) := by
  obtain ⟨i0, hi, hz0, hz1, hz2⟩ := info_parts infoF
  have hl := run_loadCells_list (P := Tryz.prog) w a (encF t) hsrc
  have h1 := encF_ones t
  have hlen : (encF t).length = n * 2 := by rw [encF_len, ht]
  have hst := run_storeCells_at Tryz.prog g 0 47 (encF t) 0 cur w hg (by simp [hlen, hd]) h1
  rw [hlen] at hl
  simp [Builtin.copy_, run_underlying Tryz.underlying25, Builtin.lenOf, Builtin.firstCells, sizeOf, typeInfo, hi, hz1, hl, hst, hlen]
  rw [List.drop_of_length_le (by simp [hd]), List.append_nil]
theorem run_copyF0 (w : World) (ty : TypeId) (a : Addr) (c : Nat) : (Builtin.copy_ #[25, 25] ty #[.slice (some a) 0 c, .slice none 0 0]).run Tryz.prog w = .ok (goInt 0) w := by
  obtain ⟨i0, hi, hz0, hz1, hz2⟩ := info_parts infoF
  exact run_copy_nil Tryz.prog w _ _ ty 47 a 0 c Tryz.underlying25 (by rw [hi]; rfl)
set_option maxHeartbeats 2000000 in
theorem Trailers_any {w : World} {D : Nat} {s : DS} {bs : List Nat} (H : Dec w D s bs) (hl : s.tr.length ≤ 2147483648) : Calls Tryz.prog 77 #[.pointer (some ⟨D, 0, none⟩)] w fun e w' => ∃ v, e = .returned v ∧ OwnF 47 w.heap.size v s.tr w' ∧ Below w.heap.size w w' := by
  obtain ⟨vl, vb, vt, H, _⟩ := H
  obtain ⟨c0, c1, c2, c3, c4, c5, c6, c7, c8, c9, c10, cf⟩ := row11 H.str
  obtain ⟨cur, hcs, hmk⟩ := run_mkF w s.tr.length hl
  have hDlt : D < w.heap.size := (Array.getElem?_eq_some_iff.1 H.str).1
  have hg : (w.alloc (.cells cur 47 (0, 0))).heap[w.heap.size]? = some (.cells cur 47 (0, 0)) := heap_alloc_new _ _
  have c10' : (w.alloc (.cells cur 47 (0, 0))).cell? ⟨D, 10, none⟩ = some vt := ((But.refl [] w).alloc _).cell c10 (fun e => by cases e)
  rcases H.tr.2 with ⟨rfl, h0⟩ | ⟨g, cap, cur2, rfl, _, hg2, hn2, hm2, hs2, ht2⟩
  · have hcp := fun ty => run_copyF0 (w.alloc (.cells cur 47 (0, 0))) ty ⟨w.heap.size, 0, none⟩ 0
    have HT : Hid (s.tr = []) := List.length_eq_zero_iff.1 h0
    rw [h0] at hmk hcs
    have hmk' : (Instr.makeSlice 25 (.int .i64 0) (.int .i64 0)).run Tryz.prog w = .ok (.slice (some ⟨w.heap.size, 0, none⟩) 0 0) (w.alloc (.cells cur 47 (0, 0))) := hmk
    clear hmk
    have HO : Hid (OwnF 47 w.heap.size (.slice (some ⟨w.heap.size, 0, none⟩) 0 0) [] (w.alloc (.cells cur 47 (0, 0)))) := ⟨rfl, .inr ⟨_, 0, cur, rfl, Nat.le_refl _, hg, Nat.le_refl _, by decide, by omega, by simp [encF]⟩⟩
    clear c0 c1 c2 c3 c4 c5 c6 c7 c8 c9 H hg h0 hcs hl
    go_enter Tryz.func77, Tryz.ntmps77
    go_wp2
    go_ret
    rw [HT.out]
    exact ⟨_, rfl, HO.out, (Below.refl _ w).alloc (Nat.le_refl _) _⟩
  · have hcp := fun ty => run_copyF (w.alloc (.cells cur 47 (0, 0))) ty w.heap.size s.tr.length s.tr.length cap ⟨g, 0, none⟩ cur s.tr hg hcs rfl (fun j v hj => by
      have := World.ownsRow.cells (World.ownsRow.alloc H.tr (.cells cur 47 (0, 0))) (g := g) rfl j v hj
      exact this)
    have HO : Hid (OwnF 47 w.heap.size (.slice (some ⟨w.heap.size, 0, none⟩) s.tr.length s.tr.length) s.tr ((w.alloc (.cells cur 47 (0, 0))).setRow w.heap.size (encF s.tr).toArray)) := ⟨encF_len _, .inr ⟨_, s.tr.length, (encF s.tr).toArray, rfl, Nat.le_refl _, setRow_heap _ _ cur _ _ _ hg, Nat.le_refl _, by unfold maxLen; omega, by simp [encF_len], List.take_of_length_le (by simp [encF_len])⟩⟩
    have HBl : Hid (Below w.heap.size w ((w.alloc (.cells cur 47 (0, 0))).setRow w.heap.size (encF s.tr).toArray)) := ((But.refl [w.heap.size] w).alloc _ |>.setRow (by simp) _).below (Nat.le_refl _) (fun x hx => by simp at hx; omega)
    generalize (w.alloc (.cells cur 47 (0, 0))).setRow w.heap.size (encF s.tr).toArray = w9 at *
    generalize s.tr.length = n at *
    clear c0 c1 c2 c3 c4 c5 c6 c7 c8 c9 H hg hcs
    go_enter Tryz.func77, Tryz.ntmps77
    go_wp2
    go_ret
    exact ⟨_, rfl, HO.out, HBl.out⟩
end Ck
end Go.Proofs.YtdcfhnbagldilaaGreatDoor
set_option linter.unusedVariables false
set_option linter.unusedSimpArgs false
set_option maxRecDepth 100000
namespace Go.Proofs.YtdcfhnbagldilaaGreatDoor
open Go.RowKit Go.Shelf
namespace Ck
open Oc Tg _root_.Go.Proofs.YtdcfhnbagldilaaGreatDoor.Fd
def tot (s : DS) (x : Int) : DS := { s with total := x }
theorem tot_self (s : DS) : tot s s.total = s := rfl
theorem tot_tot (s : DS) (x y : Int) : tot (tot s x) y = tot s y := rfl
theorem tot_ite (c : Prop) [Decidable c] (a b : DS) (x : Int) : tot (if c then a else b) x = if c then tot a x else tot b x := by split <;> rfl
theorem endSize_tot (s : DS) (x : Int) : endSize (tot s x) = tot (endSize s) x := by
  unfold endSize
  rw [tot_ite, tot_ite, tot_ite, tot_ite]
  rfl
theorem inSize_tot (s : DS) (x : Int) (c : UInt8) : inSize (tot s x) c = tot (inSize s c) x := by
  unfold inSize
  rw [tot_ite, tot_ite, ← endSize_tot]
  rfl
theorem behindChunk_tot (s : DS) (x : Int) (c : UInt8) : behindChunk (tot s x) c = tot (behindChunk s c) x := by
  unfold behindChunk
  rw [tot_ite]
  rfl
theorem behindReturn_tot (s : DS) (x : Int) (c : UInt8) : behindReturn (tot s x) c = tot (behindReturn s c) x := by
  unfold behindReturn
  rw [tot_ite]
  rfl
theorem keep_tot (s : DS) (x : Int) (l : List UInt8) : keep (tot s x) l = tot (keep s l) x := by
  unfold keep
  rw [tot_ite]
  rfl
theorem endTrailer_tot (s : DS) (x : Int) : endTrailer (tot s x) = tot (endTrailer s) x := by
  unfold endTrailer
  rw [tot_ite, tot_ite, tot_ite, ← keep_tot]
  rfl
theorem inTrailers_tot (s : DS) (x : Int) (c : UInt8) : inTrailers (tot s x) c = tot (inTrailers s c) x := by
  unfold inTrailers
  rw [tot_ite, tot_ite, ← endTrailer_tot]
  rfl
theorem bstep_tot (s : DS) (x : Int) (c : UInt8) : bstep (tot s x) c = tot (bstep s c) x := by
  unfold bstep
  have hm : (tot s x).mode = s.mode := rfl
  rw [hm]
  generalize s.mode = m
  match m with
  | 0 => exact inSize_tot s x c
  | 1 => rfl
  | 2 => exact behindChunk_tot s x c
  | 3 => exact behindReturn_tot s x c
  | 4 => exact inTrailers_tot s x c
  | _ + 5 => rfl
theorem eat_tot : ∀ (l : List UInt8) (s : DS) (x : Int), eat (tot s x) l = ((eat s l).1, tot (eat s l).2 x)
  | [], s, x => by rw [eat_nil, eat_nil]
  | c :: l, s, x => by
    by_cases h : s.mode = 5
    · rw [eat_over h, eat_over (s := tot s x) h]
    · rw [eat_cons h, eat_cons (s := tot s x) h, bstep_tot, eat_tot l]
structure Part (s0 : DS) (L : List UInt8) (p : Nat) (s : DS) : Prop where
  le : p ≤ L.length
  ok : Ok s p
  total : s.total = p
  eq : eat s0 L = (p + (eat s (L.drop p)).1, tot (eat s (L.drop p)).2 s0.total)
theorem Part.start {s0 : DS} (h : Ok s0 0) (L : List UInt8) (ht : s0.total = 0) : Part s0 L 0 s0 := by
  refine ⟨Nat.zero_le _, h, ht, ?_⟩
  have e := eat_tot (L.drop 0) s0 s0.total
  rw [tot_self] at e
  have e2 := congrArg Prod.snd e
  simp only at e2
  rw [← e2, List.drop_zero, Nat.zero_add]
theorem Part.over {s0 s : DS} {L : List UInt8} {p : Nat} (h : Part s0 L p s) (h0 : s0.mode ≠ 5) (ht : s0.total = 0) (he : eat s (L.drop p) = (0, s)) : feedS s0 L = s ∧ feedN s0 L = p ∧ feedE s0 L = s.err := by
  have e := h.eq
  rw [he] at e
  simp only [Nat.add_zero] at e
  unfold feedS feedN feedE
  rw [if_neg h0, if_neg h0, if_neg h0, e]
  refine ⟨?_, rfl, rfl⟩
  show tot (tot s s0.total) (s0.total + (p : Int)) = s
  rw [ht, tot_tot, Int.zero_add, ← h.total, tot_self]
def RdI (w : World) (v : Value) (l : List Int) : Prop :=
  ∃ a cap, v = .slice a l.length cap ∧ l.length ≤ cap ∧ (∀ x ∈ l, -9223372036854775808 ≤ x ∧ x ≤ 9223372036854775807) ∧ (l = [] ∨ ∃ g o, a = some ⟨g, o, none⟩ ∧ ∀ j x, l[j]? = some x → w.cell? ⟨g, o + j, none⟩ = some (.int .i64 x))
theorem RdI.below {w w' : World} {v : Value} {l : List Int} (h : RdI w v l) (b : Below w.heap.size w w') : RdI w' v l := by
  obtain ⟨a, c, e, h1, h2, h3⟩ := h
  refine ⟨a, c, e, h1, h2, ?_⟩
  rcases h3 with h | ⟨g, o, e, h⟩
  · exact .inl h
  · exact .inr ⟨g, o, e, fun j x hj => (But.of_below b).cell (h j x hj) (fun e => by cases e)⟩
end Ck
end Go.Proofs.YtdcfhnbagldilaaGreatDoor
