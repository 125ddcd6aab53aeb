/-
  ChunkMemory.
-/
import Derived.Test.YtifhbjkgdnemjaaGreatDoorCHp
set_option linter.unusedVariables false
set_option linter.unusedSimpArgs false
set_option maxRecDepth 100000
namespace Go.Proofs.YtifhbjkgdnemjaaGreatDoor
open Go.RowKit Go.Shelf
namespace Ck
open Oc Tg _root_.Go.Proofs.YtifhbjkgdnemjaaGreatDoor.Fd

theorem own_notin {T B n : Nat} {v : Value} {L : List Fl} {w : World} (h : OwnF T B v L w) (hn : n ≤ B) : ∀ x, x ∈ v.ownBlock.toList → n ≤ x := fun x hx => by
  have : v.ownBlock = some x := by simpa using hx
  have := (World.ownsRow.lt h x this).1
  omega
theorem own_lt {T B : Nat} {v : Value} {L : List Fl} {w : World} (h : OwnF T B v L w) : ∀ x, x ∈ v.ownBlock.toList → x < w.heap.size := fun x hx => by
  have : v.ownBlock = some x := by simpa using hx
  exact (World.ownsRow.lt h x this).2
theorem rd_but {bs : List Nat} {v : Value} {L : List Fl} {w w' : World} {B : Nat} (h : RdF v L w) (hb : But bs w w') (h0 : Below B w w') (hB : w.heap.size ≤ B) : RdF v L w' := h.below (h0.mono hB)

set_option maxHeartbeats 8000000 in
theorem walk_ChunkMemory (v : Value) (t : List Fl) (ht : bulkfields t ≤ 1048576) (w : World) (hI : InF v t w) (he : Env w) (td : Deb w) :
    Calls Tryz.prog 8 #[v] w fun e w' => e = .returned (.bool true) ∧ Below w.heap.size w w' := by
  unfold bulkfields at ht
  have hlen := len_sumF t
  have HA : Hid (Calls Tryz.prog 9 #[] w fun e w' => e = .returned (.bool true) ∧ Below w.heap.size w w') := awake_any w he
  have HEn : Hid (Env w) := he
  have HD : Hid (Deb w) := td
  have HI : Hid (InF v t w) := hI
  obtain ⟨⟨a0, c0, rfl, _⟩, _⟩ := hI
  have HTs : Hid (sumF t ≤ 1048576) := ht
  have HTl : Hid (t.length ≤ 16777216) := (by omega : _ ≤ _)
  clear he td
  go_enter Tryz.func8, Tryz.ntmps8
  go_wp2_with fail
  refine HA.out.mono ?_
  rintro e w1 ⟨rfl, hb1⟩
  have HB1 : Hid (SB w w1) := hb1
  have HRt : Hid (Calls Tryz.prog 18 #[.slice a0 t.length c0] w1 fun e w' => e = .returned (.bool (t.all okT)) ∧ Below w1.heap.size w1 w') := right_any _ t ht w1 (HI.out.1.below hb1)
  clear hb1
  cases hall : t.all okT with
  | false =>
    rw [hall] at HRt
    go_wp2_with fail
    refine HRt.out.mono ?_
    rintro e w2 ⟨rfl, hb2⟩
    have HB2 : Hid (SB w w2) := HB1.out.on hb2
    clear hb2
    go_wp2
    go_ret
    exact ⟨rfl, HB2.out⟩
  | true =>
    rw [hall] at HRt
    have HAll : Hid (t.all okT = true) := hall
    clear hall
    go_wp2_with fail
    refine HRt.out.mono ?_
    rintro e w2 ⟨rfl, hb2⟩
    have HB2 : Hid (SB w w2) := HB1.out.on hb2
    have hs2 : w.heap.size ≤ w2.heap.size := HB2.out.size
    have HO1 : Hid (OwnF 39 w.heap.size (.slice (some ⟨w2.heap.size, 0, none⟩) 0 0) [] (w2.alloc (.cells #[] 39))) := ownF_empty 39 w2 hs2
    have HI1 : Hid (InF (.slice a0 t.length c0) t (w2.alloc (.cells #[] 39))) := HI.out.below (SB.alloc HB2.out _)
    have HS1 : Hid (w.heap.size ≤ (w2.alloc (.cells #[] 39)).heap.size) := (SB.alloc HB2.out _).size
    have HL1 : Hid (([] : List Fl).length + t.length ≤ 2147483648) := (by simp; omega : _ ≤ _)
    clear hb2
    go_wp2_with (at_builtin; go_must (refine wp_appFs 39 37 infoF Tryz.underlying37 rfl (.tmp 23) (.tmp 24) rfl w.heap.size _ _ [] t rfl HO1.out rfl HI1.out HL1.out HS1.out ?_); intro v3 w3 o3 b3; have HB3 : Hid (SB w w3) := Below.trans (SB.alloc HB2.out _) b3; have HO3 : Hid (OwnF 39 w.heap.size v3 t w3) := o3; clear o3 b3)
    have hab : (⟨#[97, 98]⟩ : ByteArray).size ≤ 1048576 := by decide
    refine (Encode_right ⟨#[97, 98]⟩ hab (.slice none 0 0) [] (by simp) (fun x hx => by cases hx) v3 t HTs.out HAll.out w3 (ownI_nil 0 w3) HO3.out (HEn.out.below HB3.out).1 (HD.out.below HB3.out)).mono ?_
    rintro e w4 ⟨X, rfl, hX, hX1, hX2, hX3, hb4⟩
    have HB4 : Hid (SB w w4) := HB3.out.on hb4
    have hse := eat_enc (most := 2) (room := (X.size : Int)) (fields := (t.length : Int)) [97, 98] [] t [] (by decide) (by decide) HAll.out (by omega) (Int.le_refl _)
    have hXl : X.data.toList = encL [97, 98] [] t := hX
    rw [List.append_nil, ← hXl, size_list] at hse
    obtain ⟨hse1, hse2, hse3, hse4, hse5⟩ := hse
    have hde := dec_enc (most := 2) (room := (X.size : Int)) (fields := (t.length : Int)) [97, 98] [] t [] (by decide) (by decide) HAll.out (by omega) (Int.le_refl _)
    rw [List.append_nil, ← hXl, size_list] at hde
    have HFn : Hid (feedN (new 2 (X.size : Int) (t.length : Int)) X.data.toList = (X.size : Int)) := (by unfold feedN; rw [if_neg (by simp [new]), hse1] : _ = _)
    have HFe : Hid (feedE (new 2 (X.size : Int) (t.length : Int)) X.data.toList = 0) := (by unfold feedE; rw [if_neg (by simp [new]), hse2] : _ = _)
    have HFs : Hid ((feedS (new 2 (X.size : Int) (t.length : Int)) X.data.toList).tr = t) := (by unfold feedS; rw [if_neg (by simp [new])]; exact hse5 : _ = _)
    have HDec : Hid (∀ W, Env W → Calls Tryz.prog 20 #[.string X, .int .i64 2, .int .i64 (X.size : Int), .int .i64 (t.length : Int)] W fun e w' => ∃ v, e = .returned (.tuple #[.string (str [97, 98]), v, .int .i64 (X.size : Int), .int .i64 0]) ∧ OwnF 39 W.heap.size v t w' ∧ Below W.heap.size W w') := fun W hW => by
      have h := Decode_any X 2 (X.size : Int) (t.length : Int) (by omega) (by omega) (by omega) (by omega) W hW
      rw [hde] at h
      exact h
    have HOk : Hid (Ok (new 2 (X.size : Int) (t.length : Int)) 0) := Ok.new _ _ _ ⟨by omega, by omega⟩ ⟨by omega, by omega⟩ ⟨by omega, by omega⟩
    have HXb : Hid (0 + X.size ≤ 2147483647) := (by omega : _ ≤ _)
    clear hse1 hse2 hse3 hse4 hse5 hXl hX hde hb4 HO1 HI1 HS1 HO3
    have hge0 : (0 : Int) ≤ (X.size : Int) := by omega
    have hge1 : (0 : Int) ≤ (t.length : Int) := by omega
    go_wp2_with fail
    refine (New_ok 2 (X.size : Int) (t.length : Int) (by omega) (by omega) (by omega) w4).mono ?_
    rintro e w5 ⟨rfl, hd5, hb5⟩
    have HB5 : Hid (SB w w5) := HB4.out.on hb5
    have HDd5 : Hid (Dec w5 w4.heap.size (new 2 (X.size : Int) (t.length : Int)) [w4.heap.size]) := hd5
    have HBs5 : Hid (Base w w5 [w4.heap.size]) := ⟨HEn.out, HB5.out, fun x hx => by simp at hx; subst hx; exact HB4.out.size⟩
    clear hd5 hb5
    go_wp2_with fail
    refine (Feed_any HBs5.out HDd5.out HOk.out X HXb.out).mono ?_
    rintro e w6 ⟨rfl, bs6, hd6, hg6⟩
    rw [HFn.out, HFe.out]
    have HDd6 : Hid (Dec w6 w4.heap.size (feedS (new 2 (X.size : Int) (t.length : Int)) X.data.toList) bs6) := hd6
    have HBs6 : Hid (Base w w6 bs6) := HBs5.out.goes hg6
    have HB6 : Hid (SB w w6) := HBs6.out.bel
    clear hd6 hg6
    generalize feedS (new 2 (X.size : Int) (t.length : Int)) X.data.toList = st at *
    have HTr : Hid (st.tr.length ≤ 2147483648) := (by rw [HFs.out]; omega : _ ≤ _)
    go_wp2_with fail
    refine (Trailers_any HDd6.out HTr.out).mono ?_
    rintro e w7 ⟨va, rfl, oa, hb7⟩
    rw [HFs.out] at oa
    have HOa7 : Hid (OwnF 39 w6.heap.size va t w7) := oa
    have HB7 : Hid (SB w6 w7) := hb7
    have HDd7 : Hid (Dec w7 w4.heap.size st bs6) := HDd6.out.below hb7
    obtain ⟨aa, ca, rfl⟩ := oa.form
    clear oa hb7
    go_wp2_with fail
    refine (Trailers_any HDd7.out HTr.out).mono ?_
    rintro e w8 ⟨vb, rfl, ob, hb8⟩
    rw [HFs.out] at ob
    have HOb8 : Hid (OwnF 39 w7.heap.size vb t w8) := ob
    have HB8 : Hid (SB w7 w8) := hb8
    have HB8w : Hid (SB w w8) := bel_trans HB6.out (bel_trans HB7.out hb8)
    obtain ⟨ab, cb, rfl⟩ := ob.form
    clear ob hb8
    go_wp2_with fail
    refine (HDec.out _ (HEn.out.below HB8w.out)).mono ?_
    rintro e w9 ⟨vc, rfl, oc, hb9⟩
    have HOc9 : Hid (OwnF 39 w8.heap.size vc t w9) := oc
    have HB9 : Hid (SB w8 w9) := hb9
    have HB9w : Hid (SB w w9) := HB8w.out.on hb9
    obtain ⟨ac, cc, rfl⟩ := oc.form
    clear oc hb9
    have HRa9 : Hid (OwnF 39 w6.heap.size (.slice aa t.length ca) t w9) := HOa7.out.below (bel_trans HB8.out HB9.out)
    have HRb9 : Hid (OwnF 39 w7.heap.size (.slice ab t.length cb) t w9) := HOb8.out.below HB9.out
    have HIw : Hid (∀ W, SB w W → RdF (.slice a0 t.length c0) t W) := fun W hW => HI.out.1.below hW
    go_wp2_with fail
    refine (plain_any _ t w9 (HIw.out _ HB9w.out) HTl.out).mono ?_
    rintro e w10 ⟨x10, rfl, o10, hb10⟩
    have HB10 : Hid (SB w9 w10) := hb10
    have HX10 : Hid (RdF x10 t w10) := o10.rd
    obtain ⟨y10, z10, rfl⟩ := o10.form
    clear o10 hb10
    go_wp2_with fail
    refine (same_any _ _ t w10 (HRa9.out.below HB10.out).rd HX10.out (by have := HTl.out; omega)).mono ?_
    rintro e w11 ⟨rfl, hb11⟩
    have HB11 : Hid (SB w9 w11) := HB10.out.on hb11
    clear hb11
    go_wp2_with fail
    refine (plain_any _ t w11 (HIw.out _ (bel_trans HB9w.out HB11.out)) HTl.out).mono ?_
    rintro e w12 ⟨x12, rfl, o12, hb12⟩
    have HB12 : Hid (SB w9 w12) := HB11.out.on hb12
    have HX12 : Hid (RdF x12 t w12) := o12.rd
    obtain ⟨y12, z12, rfl⟩ := o12.form
    clear o12 hb12
    go_wp2_with fail
    refine (same_any _ _ t w12 (HRb9.out.below HB12.out).rd HX12.out (by have := HTl.out; omega)).mono ?_
    rintro e w13 ⟨rfl, hb13⟩
    have HB13 : Hid (SB w9 w13) := HB12.out.on hb13
    clear hb13
    go_wp2_with fail
    refine (plain_any _ t w13 (HIw.out _ (bel_trans HB9w.out HB13.out)) HTl.out).mono ?_
    rintro e w14 ⟨x14, rfl, o14, hb14⟩
    have HB14 : Hid (SB w9 w14) := HB13.out.on hb14
    have HX14 : Hid (RdF x14 t w14) := o14.rd
    obtain ⟨y14, z14, rfl⟩ := o14.form
    clear o14 hb14
    go_wp2_with fail
    refine (same_any _ _ t w14 (HOc9.out.below HB14.out).rd HX14.out (by have := HTl.out; omega)).mono ?_
    rintro e w15 ⟨rfl, hb15⟩
    have HB15 : Hid (SB w9 w15) := HB14.out.on hb15
    clear hb15 HX10 HX12 HX14 HB10 HB11 HB12 HB13 HB14
    have HB15w : Hid (SB w w15) := bel_trans HB9w.out HB15.out
    have HA15 : Hid (OwnF 39 w6.heap.size (.slice aa t.length ca) t w15) := HRa9.out.below HB15.out
    have HBo15 : Hid (OwnF 39 w7.heap.size (.slice ab t.length cb) t w15) := HRb9.out.below HB15.out
    have HC15 : Hid (OwnF 39 w8.heap.size (.slice ac t.length cc) t w15) := HOc9.out.below HB15.out
    have HD15 : Hid (Dec w15 w4.heap.size st bs6) := HDd7.out.below (bel_trans HB8.out (bel_trans HB9.out HB15.out))
    have HNa : Hid (∀ x, x ∈ (Value.slice aa t.length ca).ownBlock.toList → w6.heap.size ≤ x) := own_notin HA15.out (Nat.le_refl _)
    have HNc : Hid (∀ x, x ∈ (Value.slice ac t.length cc).ownBlock.toList → w8.heap.size ≤ x) := own_notin HC15.out (Nat.le_refl _)
    have HLa : Hid (∀ x, x ∈ (Value.slice aa t.length ca).ownBlock.toList → x < w7.heap.size) := own_lt HOa7.out
    have HLb : Hid (∀ x, x ∈ (Value.slice ab t.length cb).ownBlock.toList → x < w8.heap.size) := own_lt HOb8.out
    have HNb : Hid (∀ x, x ∈ (Value.slice ab t.length cb).ownBlock.toList → w7.heap.size ≤ x) := own_notin HBo15.out (Nat.le_refl _)
    have HLd : Hid (∀ x, x ∈ bs6 → x < w6.heap.size) := HDd6.out.lt
    have HS6 : Hid (w6.heap.size ≤ w7.heap.size ∧ w7.heap.size ≤ w8.heap.size ∧ w8.heap.size ≤ w9.heap.size ∧ w9.heap.size ≤ w15.heap.size ∧ w.heap.size ≤ w6.heap.size) := ⟨HB7.out.size, HB8.out.size, HB9.out.size, HB15.out.size, HB6.out.size⟩
    go_wp2
    go_loopw [97] (fun i wr => ∃ (k : Nat) (L : List Fl), k ≤ t.length ∧ i = .int .i64 k ∧ Hid (L.length = t.length) ∧ Hid (OwnF 39 w6.heap.size (.slice aa t.length ca) L wr) ∧ Hid (But (Value.slice aa t.length ca).ownBlock.toList w15 wr)) (fun i _ => t.length - (intOf i).toNat)
    case atStart => exact ⟨0, t, Nat.zero_le _, rfl, (rfl : _ = _), HA15, But.refl _ _⟩
    case round =>
      obtain ⟨k, L, hk, rfl, hLl, hOw, hBt⟩ := hrel
      by_cases hlt : k < t.length
      · have hkL : k < L.length := by rw [hLl.out]; exact hlt
        obtain ⟨g, rfl⟩ : ∃ g, aa = some ⟨g, 0, none⟩ := by
          rcases hOw.out.2 with ⟨hv, h0⟩ | ⟨g, cap, cur, hv, _⟩
          · rw [h0] at hkL; omega
          · injection hv with e1 _ _
            exact ⟨g, e1⟩
        obtain ⟨p0, p1, pf, pc⟩ := own_cell2 hOw.out hkL
        have f0 := pf (k * 2)
        have f1 := pf (k * 2 + 1)
        have HO2 : Hid (OwnF 39 w6.heap.size (.slice (some ⟨g, 0, none⟩) t.length ca) (L.set k ([102, 105, 114, 115, 116], [])) ((wr.setCell ⟨g, k * 2, none⟩ (.string ⟨#[102, 105, 114, 115, 116]⟩)).setCell ⟨g, k * 2 + 1, none⟩ (.string ⟨#[]⟩))) := own_store hOw.out hkL ([102, 105, 114, 115, 116], [])
        have HBt2 : Hid (But (Value.slice (some ⟨g, 0, none⟩) t.length ca).ownBlock.toList w15 ((wr.setCell ⟨g, k * 2, none⟩ (.string ⟨#[102, 105, 114, 115, 116]⟩)).setCell ⟨g, k * 2 + 1, none⟩ (.string ⟨#[]⟩))) := but_store hBt.out (by simp [Value.ownBlock]) _ _ _ _
        have HLl2 : Hid ((L.set k ([102, 105, 114, 115, 116], [])).length = t.length) := (by rw [List.length_set]; exact hLl.out : _ = _)
        clear pf
        generalize str (Fd.nth L k).1 = N at p0
        generalize str (Fd.nth L k).2 = V at p1
        go_wp2
        go_roundw
        case rel => exact ⟨k + 1, L.set k ([102, 105, 114, 115, 116], []), by omega, by go_num, HLl2, HO2, HBt2⟩
        case measure => simp [intOf]; omega
      · obtain ⟨w16, hw16⟩ : ∃ w16, w16 = wr := ⟨_, rfl⟩
        rw [← hw16] at hOw hBt ⊢
        have HC16 : Hid (OwnF 39 w8.heap.size (.slice ac t.length cc) t w16) := hBt.out.owns HC15.out (fun g hg e => by
          have h1 := HNc.out g (by simpa using hg)
          have h2 := HLa.out g e
          have := HS6.out
          omega)
        have hkt : ¬ ((k : Int) < (t.length : Int)) := by omega
        clear hw16 hk
        go_wp2
        go_loopw [107] (fun i wr => ∃ (k : Nat) (M : List Fl), k ≤ t.length ∧ i = .int .i64 k ∧ Hid (M.length = t.length) ∧ Hid (OwnF 39 w8.heap.size (.slice ac t.length cc) M wr) ∧ Hid (But (Value.slice ac t.length cc).ownBlock.toList w16 wr)) (fun i _ => t.length - (intOf i).toNat)
        case atStart => exact ⟨0, t, Nat.zero_le _, rfl, (rfl : _ = _), HC16, But.refl _ _⟩
        case round =>
          obtain ⟨k2, M, hk2, rfl, hMl, hOm, hBm⟩ := hrel
          by_cases hlt2 : k2 < t.length
          · have hkM : k2 < M.length := by rw [hMl.out]; exact hlt2
            obtain ⟨g, rfl⟩ : ∃ g, ac = some ⟨g, 0, none⟩ := by
              rcases hOm.out.2 with ⟨hv, h0⟩ | ⟨g, cap, cur, hv, _⟩
              · rw [h0] at hkM; omega
              · injection hv with e1 _ _
                exact ⟨g, e1⟩
            obtain ⟨p0, p1, pf, pc⟩ := own_cell2 hOm.out hkM
            have f0 := pf (k2 * 2)
            have f1 := pf (k2 * 2 + 1)
            have HO2 : Hid (OwnF 39 w8.heap.size (.slice (some ⟨g, 0, none⟩) t.length cc) (M.set k2 ([116, 104, 105, 114, 100], [])) ((wr.setCell ⟨g, k2 * 2, none⟩ (.string ⟨#[116, 104, 105, 114, 100]⟩)).setCell ⟨g, k2 * 2 + 1, none⟩ (.string ⟨#[]⟩))) := own_store hOm.out hkM ([116, 104, 105, 114, 100], [])
            have HBt2 : Hid (But (Value.slice (some ⟨g, 0, none⟩) t.length cc).ownBlock.toList w16 ((wr.setCell ⟨g, k2 * 2, none⟩ (.string ⟨#[116, 104, 105, 114, 100]⟩)).setCell ⟨g, k2 * 2 + 1, none⟩ (.string ⟨#[]⟩))) := but_store hBm.out (by simp [Value.ownBlock]) _ _ _ _
            have HLl2 : Hid ((M.set k2 ([116, 104, 105, 114, 100], [])).length = t.length) := (by rw [List.length_set]; exact hMl.out : _ = _)
            clear pf
            generalize str (Fd.nth M k2).1 = N at p0
            generalize str (Fd.nth M k2).2 = V at p1
            go_wp2
            go_roundw
            case rel => exact ⟨k2 + 1, M.set k2 ([116, 104, 105, 114, 100], []), by omega, by go_num, HLl2, HO2, HBt2⟩
            case measure => simp [intOf]; omega
          · obtain ⟨w17, hw17⟩ : ∃ w17, w17 = wr := ⟨_, rfl⟩
            rw [← hw17] at hOm hBm ⊢
            have HA17 : Hid (OwnF 39 w6.heap.size (.slice aa t.length ca) L w17) := hBm.out.owns hOw.out (fun g hg e => by
              have h1 := HNc.out g e
              have h2 := HLa.out g (by simpa using hg)
              have := HS6.out
              omega)
            have HB17 : Hid (OwnF 39 w7.heap.size (.slice ab t.length cb) t w17) := hBm.out.owns (hBt.out.owns HBo15.out (fun g hg e => by
              have h1 := HNb.out g (by simpa using hg)
              have h2 := HLa.out g e
              omega)) (fun g hg e => by
              have h1 := HLb.out g (by simpa using hg)
              have h2 := HNc.out g e
              omega)
            have HD17 : Hid (Dec w17 w4.heap.size st bs6) := (HD15.out.but hBt.out (fun x hx e => by
              have h1 := HLd.out x hx
              have h2 := HNa.out x e
              omega)).but hBm.out (fun x hx e => by
              have h1 := HLd.out x hx
              have h2 := HNc.out x e
              have := HS6.out
              omega)
            have HW17 : Hid (SB w w17) := Below.trans (Below.trans HB15w.out (hBt.out.below (by have := HS6.out; omega) (fun x hx => by have := HNa.out x hx; have := HS6.out; omega))) (hBm.out.below (by have := hBt.out.size; have := HS6.out; omega) (fun x hx => by have := HNc.out x hx; have := HS6.out; omega))
            have hkt2 : ¬ ((k2 : Int) < (t.length : Int)) := by omega
            have HLL : Hid (L.length = t.length) := hLl
            clear hw17 hk2
            go_wp2
            go_loopw [9, 115] (fun av i wr => ∃ (k : Nat) (G : List Fl), k ≤ 9 ∧ i = .int .i64 k ∧ Hid (G.length = t.length + k) ∧ Hid (OwnF 39 w6.heap.size av G wr) ∧ Hid (Goes (Value.slice aa t.length ca).ownBlock.toList w17 av.ownBlock.toList wr)) (fun _ i _ => 9 - (intOf i).toNat)
            case atStart => exact ⟨0, L, by omega, rfl, HLL, HA17, Goes.refl _ _⟩
            case round =>
              obtain ⟨k3, G, hk3, rfl, hGl, hOg, hGo⟩ := hrel
              by_cases hlt3 : k3 < 9
              · have hlg : G.length + 1 ≤ 2147483648 := by rw [hGl.out]; have := HTl.out; omega
                have hsg : w6.heap.size ≤ wr.heap.size := by
                  have h1 := hGo.out.but.size
                  have h2 := hBm.out.size
                  have h3 := hBt.out.size
                  have := HS6.out
                  omega
                go_wp2_with (at_builtin; go_must (refine wp_appF3 rfl (.tmp 117) (.tmp 119) rfl w6.heap.size _ G wr ([103, 114, 111, 119, 110], []) _ _ rfl rfl rfl hOg.out _ rfl rfl hlg hsg ?_); intro v6 w18 o6 g6)
                have HO6 : Hid (OwnF 39 w6.heap.size v6 (G ++ [([103, 114, 111, 119, 110], [])]) w18) := o6
                have HG6 : Hid (Goes (Value.slice aa t.length ca).ownBlock.toList w17 v6.ownBlock.toList w18) := hGo.out.trans g6
                have HL6 : Hid ((G ++ [([103, 114, 111, 119, 110], [])]).length = t.length + (k3 + 1)) := (by rw [List.length_append, hGl.out]; rfl : _ = _)
                clear o6 g6
                go_roundw
                case rel => exact ⟨k3 + 1, G ++ [([103, 114, 111, 119, 110], [])], by omega, by go_num, HL6, HO6, HG6⟩
                case measure => simp [intOf]; omega
              · have hk9 : k3 = 9 := by omega
                subst hk9
                obtain ⟨w18, hw18⟩ : ∃ w18, w18 = wr := ⟨_, rfl⟩
                rw [← hw18] at hOg hGo ⊢
                obtain ⟨ag, cg, eg⟩ := hOg.out.form
                rw [hGl.out] at eg
                have HB18 : Hid (OwnF 39 w7.heap.size (.slice ab t.length cb) t w18) := hGo.out.but.owns HB17.out (fun g hg e => by
                  have h1 := HNb.out g (by simpa using hg)
                  have h2 := HLa.out g e
                  omega)
                have HD18 : Hid (Dec w18 w4.heap.size st bs6) := HD17.out.but hGo.out.but (fun x hx e => by
                  have h1 := HLd.out x hx
                  have h2 := HNa.out x e
                  omega)
                have HW18 : Hid (SB w w18) := Below.trans HW17.out (hGo.out.but.below (HW17.out.size) (fun x hx => by have := HNa.out x hx; have := HS6.out; omega))
                have hw9 : IntKind.i64.wrap ((t.length : Int) + 9) = (t.length : Int) + 9 := by rw [IntKind.wrap_i64]; omega
                clear hw18 hOg hGo hGl
                subst eg
                go_wp2_with fail
                refine (plain_any _ t w18 (HIw.out _ HW18.out) HTl.out).mono ?_
                rintro e w19 ⟨x19, rfl, o19, hb19⟩
                have HW19 : Hid (SB w w19) := HW18.out.on hb19
                have HX19 : Hid (RdF x19 t w19) := o19.rd
                have HD19 : Hid (Dec w19 w4.heap.size st bs6) := HD18.out.below hb19
                have HB19 : Hid (RdF (.slice ab t.length cb) t w19) := (HB18.out.below hb19).rd
                obtain ⟨y19, z19, rfl⟩ := o19.form
                clear o19 hb19
                go_wp2_with fail
                refine (same_any _ _ t w19 HB19.out HX19.out (by have := HTl.out; omega)).mono ?_
                rintro e w20 ⟨rfl, hb20⟩
                have HW20 : Hid (SB w w20) := HW19.out.on hb20
                have HD20 : Hid (Dec w20 w4.heap.size st bs6) := HD19.out.below hb20
                clear hb20
                go_wp2_with fail
                refine (Trailers_any HD20.out HTr.out).mono ?_
                rintro e w21 ⟨x21, rfl, o21, hb21⟩
                rw [HFs.out] at o21
                have HW21 : Hid (SB w w21) := HW20.out.on hb21
                have HX21 : Hid (OwnF 39 w20.heap.size x21 t w21) := o21
                obtain ⟨y21, z21, rfl⟩ := o21.form
                clear o21 hb21
                go_wp2_with fail
                refine (plain_any _ t w21 (HIw.out _ HW21.out) HTl.out).mono ?_
                rintro e w22 ⟨x22, rfl, o22, hb22⟩
                have HW22 : Hid (SB w w22) := HW21.out.on hb22
                have HX22 : Hid (RdF x22 t w22) := o22.rd
                have HY22 : Hid (RdF (.slice y21 t.length z21) t w22) := (HX21.out.below hb22).rd
                obtain ⟨y22, z22, rfl⟩ := o22.form
                clear o22 hb22
                go_wp2_with fail
                refine (same_any _ _ t w22 HY22.out HX22.out (by have := HTl.out; omega)).mono ?_
                rintro e w23 ⟨rfl, hb23⟩
                have HW23 : Hid (SB w w23) := HW22.out.on hb23
                clear hb23
                go_wp2
                go_ret
                exact ⟨rfl, HW23.out⟩

end Ck
end Go.Proofs.YtifhbjkgdnemjaaGreatDoor
