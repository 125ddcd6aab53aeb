/-
  sheet: head's take: one line of fields, or the empty one.
-/
import Derived.Test.YtlnlhhobmgiceaaGreatDoorSrD
import Derived.Test.YtlnlhhobmgiceaaGreatDoorFLn
set_option linter.unusedVariables false
set_option linter.unusedSimpArgs false
namespace Go.Proofs.YtlnlhhobmgiceaaGreatDoor
open Go.RowKit Go.Shelf
namespace Sr
open Oc Tg Mf

def cdS : ByteArray := ⟨#[67, 111, 110, 116, 101, 110, 116, 45, 68, 105, 115, 112, 111, 115, 105, 116, 105, 111, 110]⟩
def ctS : ByteArray := ⟨#[67, 111, 110, 116, 101, 110, 116, 45, 84, 121, 112, 101]⟩
/-- What take does: the error, the head. -/
def takP (l : List UInt8) (x : Pt.P5) (d t : Bool) : Int × Pt.P5 × Bool × Bool :=
  if l = [] then (if d = true then 0 else 152, x, d, t)
  else if (Fd.parseL l).2.2 ≠ 0 then ((Fd.parseL l).2.2, x, d, t)
  else if lowS (str (Fd.parseL l).1.1) = lowS cdS then ((dspP (Fd.parseL l).1.2 x d).1, (dspP (Fd.parseL l).1.2 x d).2.1, (dspP (Fd.parseL l).1.2 x d).2.2, t)
  else if lowS (str (Fd.parseL l).1.1) = lowS ctS then ((medP (Fd.parseL l).1.2 x t).1, (medP (Fd.parseL l).1.2 x t).2.1, d, (medP (Fd.parseL l).1.2 x t).2.2)
  else (0, x, d, t)
theorem parseL_len (l : List UInt8) : (Fd.parseL l).1.2.length ≤ 8192 := by
  unfold Fd.parseL
  repeat' split
  all_goals simp
  all_goals assumption

theorem parseL_nam (l : List UInt8) : (Fd.parseL l).1.1.length ≤ l.length := by
  have h := cutA_len 58 l
  unfold Fd.parseL
  repeat' split
  all_goals simp
  all_goals omega

set_option maxRecDepth 100000 in
set_option maxHeartbeats 4000000 in
theorem take_any (b : Nat) (x : Pt.P5) (d t : Bool) (l : List UInt8) (hl : l.length ≤ 4000000000) (w : World) (hH : Hd w b x d t) (ht : Tab w) (hm : ML w) (he : Fd.Env w) :
    Calls Tryz.prog 119 #[.pointer (some ⟨b, 0, none⟩), .string (str l)] w fun e w' => e = .returned (.int .i64 (takP l x d t).1) ∧ Hd w' b (takP l x d t).2.1 (takP l x d t).2.2.1 (takP l x d t).2.2.2 ∧ Chg b w w' := by
  have hbl : b < w.heap.size := (Array.getElem?_eq_some_iff.1 hH).1
  have HH : Hid (Hd w b x d t) := hH
  have HTb : Hid (Tab w ∧ ML w) := ⟨ht, hm⟩
  have HPl := Fd.ParseLine_any (str l) (by rw [str_size]; exact hl) w he
  rw [str_list] at HPl
  unfold Fd.lineV at HPl
  have HRd : Hid (takP l x d t = _) := (by unfold takP; exact rfl)
  have hvl := parseL_len l
  have hnl := parseL_nam l
  have HEn : Hid (Calls _ _ _ w _) := end_any b x d t w hH
  have hlt : (str l).toList = l := by rw [ByteArray.toList_eq, str_list]
  generalize takP l x d t = R at *
  generalize Fd.parseL l = P at *
  obtain ⟨⟨pn, pv⟩, pk, pe⟩ := P
  dsimp only at HPl HRd hvl hnl
  have HP' : Hid (Calls _ _ _ w _) := HPl
  clear HPl hH ht hm he
  by_cases h0 : l = []
  · have HQ : Hid (R = (if d = true then 0 else 152, x, d, t)) := (by rw [HRd.out, if_pos h0] : R = _)
    have k1 : (str l).toList.isEmpty = true := by rw [hlt, h0]; rfl
    have k2 : (str l).toList = [] := by rw [hlt, h0]
    have k3 : ((str l).toList == []) = true := by rw [k2]; rfl
    clear hlt h0 HRd
    generalize str l = SL at *
    go_enter Tryz.func119, Tryz.ntmps119
    go_wp2_with fail
    refine HEn.out.mono ?_
    rintro e w1 ⟨rfl, hw1⟩
    rw [hw1]
    clear hw1
    generalize (if d = true then (0 : Int) else 152) = EE at *
    go_wp2
    go_ret
    rw [HQ.out]
    exact ⟨rfl, HH.out, Chg.refl _ _⟩
  · have HRe : Hid (R = _) := HRd.out.trans (by rw [if_neg h0])
    have k2 : ¬ (str l).toList = [] := by rw [hlt]; exact h0
    have k1 : (str l).toList.isEmpty = false := by simpa using k2
    have k3 : ((str l).toList == []) = false := by simpa using k2
    clear hlt h0 HRd HEn
    generalize str l = SL at *
    go_enter Tryz.func119, Tryz.ntmps119
    go_wp2_with fail
    refine HP'.out.mono ?_
    rintro e w1 ⟨rfl, hb1⟩
    have HB1 : Hid (Below w.heap.size w w1) := hb1
    clear hb1 HP' k1 k2 k3
    obtain ⟨w2, hw2⟩ : ∃ w2, w2 = w1.alloc (.cells #[.string (str pn), .string (str pv)] 190) := ⟨_, rfl⟩
    have HX2 : Hid (w2.heap[w1.heap.size]? = some (.cells #[.string (str pn), .string (str pv)] 190 (0, 0))) := (by rw [hw2]; exact heap_alloc_new _ _ : _ = _)
    have HB2 : Hid (Below w.heap.size w w2) := (by rw [hw2]; exact HB1.out.alloc HB1.out.size _ : Below _ _ _)
    have hz1 : w.heap.size ≤ w1.heap.size := HB1.out.size
    by_cases hpe : pe = 0
    · subst hpe
      have HRf : Hid (R = _) := HRe.out.trans (by rw [if_neg (by simp)])
      clear HRe
      have HS1 : Hid (∀ W, Calls Tryz.prog 135 #[.string (str pn), .string cdS] W fun e w' => e = .returned (.bool (decide (lowS (str pn) = lowS cdS))) ∧ Below (World.heap W).size W w') := fun W => Same_any _ _ (by rw [str_size]; unfold maxLen; omega) (by unfold maxLen; decide) W
      have HS2 : Hid (∀ W, Calls Tryz.prog 135 #[.string (str pn), .string ctS] W fun e w' => e = .returned (.bool (decide (lowS (str pn) = lowS ctS))) ∧ Below (World.heap W).size W w') := fun W => Same_any _ _ (by rw [str_size]; unfold maxLen; omega) (by unfold maxLen; decide) W
      have HDi : Hid (∀ W, Hd W b x d t → Tab W → ML W → Calls _ _ _ W _) := fun W h1 h2 h3 => dispose_any b x d t pv (by omega) W h1 h2 h3
      have HMe : Hid (∀ W, Hd W b x d t → Calls _ _ _ W _) := fun W h1 => media_any b x d t pv W h1
      generalize dspP pv x d = DD at *
      generalize medP pv x t = MM at *
      generalize str pv = SP at *
      go_wp2_with fail
      rw [← hw2]
      clear hw2
      refine (HS1.out _).mono ?_
      rintro e w3 ⟨rfl, hb3⟩
      have HB3 : Hid (Below w.heap.size w w3) := bel_trans HB2.out hb3
      have HX3 : Hid (w3.heap[w1.heap.size]? = some (.cells #[.string (str pn), .string SP] 190 (0, 0))) := ((hb3.block _ (Array.getElem?_eq_some_iff.1 HX2.out).1).trans HX2.out : _ = _)
      clear hb3 HX2 HB2
      have HH3 : Hid (Hd w3 b x d t) := HH.out.below HB3.out
      have r3 : w3.cell? ⟨w1.heap.size, 0, none⟩ = some (.string (str pn)) ∧ w3.cell? ⟨w1.heap.size, 1, none⟩ = some (.string SP) := ⟨by simp [World.cell?, HX3.out], by simp [World.cell?, HX3.out]⟩
      obtain ⟨r30, r31⟩ := r3
      by_cases hcd : lowS (str pn) = lowS cdS
      · have HQ : Hid (R = (DD.1, DD.2.1, DD.2.2, t)) := (by rw [HRf.out, if_pos hcd] : R = _)
        have hd : decide (lowS (str pn) = lowS cdS) = true := decide_eq_true hcd
        rw [hd]
        clear HRf hcd hd HS1 HS2
        go_wp2_with fail
        refine (HDi.out _ HH3.out (HTb.out.1.below HB3.out (Nat.le_refl _)) (HTb.out.2.below HB3.out)).mono ?_
        rintro e w4 ⟨rfl, h4, c4⟩
        have HH4 : Hid (Hd w4 b DD.2.1 DD.2.2 t) := h4
        have HC4 : Hid (Chg b w w4) := (Chg.of b HB3.out).trans c4
        clear h4 c4
        go_wp2
        go_ret
        rw [HQ.out]
        exact ⟨rfl, HH4.out, HC4.out⟩
      · have HRg : Hid (R = _) := HRf.out.trans (by rw [if_neg hcd])
        have hd : decide (lowS (str pn) = lowS cdS) = false := decide_eq_false hcd
        rw [hd]
        clear HRf hcd hd HS1
        go_wp2_with fail
        refine (HS2.out _).mono ?_
        rintro e w4 ⟨rfl, hb4⟩
        have HB4 : Hid (Below w.heap.size w w4) := bel_trans HB3.out hb4
        have HX4 : Hid (w4.heap[w1.heap.size]? = some (.cells #[.string (str pn), .string SP] 190 (0, 0))) := ((hb4.block _ (Array.getElem?_eq_some_iff.1 HX3.out).1).trans HX3.out : _ = _)
        clear hb4 HX3 HB3 r30 r31
        have HH4 : Hid (Hd w4 b x d t) := HH.out.below HB4.out
        have r4 : w4.cell? ⟨w1.heap.size, 0, none⟩ = some (.string (str pn)) ∧ w4.cell? ⟨w1.heap.size, 1, none⟩ = some (.string SP) := ⟨by simp [World.cell?, HX4.out], by simp [World.cell?, HX4.out]⟩
        obtain ⟨r40, r41⟩ := r4
        by_cases hct : lowS (str pn) = lowS ctS
        · have HQ : Hid (R = (MM.1, MM.2.1, d, MM.2.2)) := (by rw [HRg.out, if_pos hct] : R = _)
          have hd : decide (lowS (str pn) = lowS ctS) = true := decide_eq_true hct
          rw [hd]
          clear HRg hct hd HS2
          go_wp2_with fail
          refine (HMe.out _ HH4.out).mono ?_
          rintro e w5 ⟨rfl, h5, c5⟩
          have HH5 : Hid (Hd w5 b MM.2.1 d MM.2.2) := h5
          have HC5 : Hid (Chg b w w5) := (Chg.of b HB4.out).trans c5
          clear h5 c5
          go_wp2
          go_ret
          rw [HQ.out]
          exact ⟨rfl, HH5.out, HC5.out⟩
        · have HQ : Hid (R = (0, x, d, t)) := (by rw [HRg.out, if_neg hct] : R = _)
          have hd : decide (lowS (str pn) = lowS ctS) = false := decide_eq_false hct
          have HC4 : Hid (Chg b w w4) := Chg.of b HB4.out
          rw [hd]
          clear HRg hct hd HS2
          go_wp2
          go_ret
          rw [HQ.out]
          exact ⟨rfl, HH4.out, HC4.out⟩
    · have HQ : Hid (R = (pe, x, d, t)) := (by rw [HRe.out, if_pos hpe] : R = _)
      have hp1 : (pe != 0) = true := by simpa using hpe
      have HH2 : Hid (Hd w2 b x d t) := HH.out.below HB2.out
      have HC2 : Hid (Chg b w w2) := Chg.of b HB2.out
      clear HRe
      subst hw2
      go_wp2
      go_ret
      rw [HQ.out]
      exact ⟨rfl, HH2.out, HC2.out⟩

end Sr
end Go.Proofs.YtlnlhhobmgiceaaGreatDoor
