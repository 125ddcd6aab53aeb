/-
  handle: the document's Refer.
-/
import Derived.Test.YtmlpohbghobelaaGreatDoorMgN
import Derived.Test.YtmlpohbghobelaaGreatDoorMgO
import Derived.Test.YtmlpohbghobelaaGreatDoorMgC
set_option linter.unusedVariables false
set_option linter.unusedSimpArgs false
set_option maxRecDepth 100000
namespace Go.Proofs.YtmlpohbghobelaaGreatDoor
open Go.RowKit Go.Shelf
namespace Hn
open Oc

/-- How the document stands, plainly, outside of a name. -/
structure DlR (ps : List PrA) (l : List UInt8) (R : Option (List UInt8)) (i : Nat) (out : List UInt8) : Prop where
  eq : R = (refG ps none (l.drop i)).map (out ++ ·)
  len : out.length ≤ i * 1048577
  le : i ≤ l.length
/-- In one. -/
structure DnR (ps : List PrA) (l : List UInt8) (R : Option (List UInt8)) (i j : Nat) (out : List UInt8) : Prop where
  eq : R = (refG ps (some (sub l (i + 1) j)) (l.drop j)).map (out ++ ·)
  ij : i + 1 ≤ j
  le : j ≤ l.length
theorem DlR.one {ps : List PrA} {l : List UInt8} {R : Option (List UInt8)} {i : Nat} {out : List UInt8} (h : DlR ps l R i out) (hi : i < l.length) (h1 : l.getD i 0 ≠ 125) (h2 : l.getD i 0 ≠ 123) : DlR ps l R (i + 1) (out ++ sub l i (i + 1)) := by
  refine ⟨?_, ?_, hi⟩
  · rw [h.eq, drop_one l i hi, refG_one _ _ _ _ h1 h2, sub_one l i i (Nat.le_refl _) hi, sub_self]
    rfl
  · have := h.len
    rw [List.length_append, sub_len _ _ _ hi]
    omega
theorem DlR.bad {ps : List PrA} {l : List UInt8} {R : Option (List UInt8)} {i : Nat} {out : List UInt8} (h : DlR ps l R i out) (hi : i < l.length) (h1 : l.getD i 0 = 125) : R = none := by
  rw [h.eq, drop_one l i hi, h1]
  rfl
theorem DlR.open {ps : List PrA} {l : List UInt8} {R : Option (List UInt8)} {i : Nat} {out : List UInt8} (h : DlR ps l R i out) (hi : i < l.length) (h1 : l.getD i 0 = 123) : DnR ps l R i (i + 1) out := by
  refine ⟨?_, Nat.le_refl _, hi⟩
  rw [h.eq, drop_one l i hi, h1, sub_self]
  rfl
theorem DnR.on {ps : List PrA} {l : List UInt8} {R : Option (List UInt8)} {i j : Nat} {out : List UInt8} (h : DnR ps l R i j out) (hj : j < l.length) (h1 : l.getD j 0 ≠ 125) : DnR ps l R i (j + 1) out := by
  refine ⟨?_, by have := h.ij; omega, hj⟩
  rw [h.eq, drop_one l j hj, refG_in _ _ _ _ h1, sub_one l (i + 1) j h.ij hj]
theorem DnR.fin {ps : List PrA} {l : List UInt8} {R : Option (List UInt8)} {i : Nat} {out : List UInt8} (h : DnR ps l R i l.length out) : R = none := by
  rw [h.eq, List.drop_length]
  rfl
theorem DnR.bad {ps : List PrA} {l : List UInt8} {R : Option (List UInt8)} {i j : Nat} {out : List UInt8} (h : DnR ps l R i j out) (hj : j < l.length) (h1 : l.getD j 0 = 125) (hn : isNm (sub l (i + 1) j) = false) : R = none := by
  rw [h.eq, drop_one l j hj, h1, refG_no _ _ _ hn]
  rfl
theorem DnR.shut {ps : List PrA} {l : List UInt8} {R : Option (List UInt8)} {i j : Nat} {out : List UInt8} (h : DnR ps l R i j out) (hj : j < l.length) (h1 : l.getD j 0 = 125) (hn : isNm (sub l (i + 1) j) = true) (ho : out.length ≤ i * 1048577) (hv : (valA ps (sub l (i + 1) j)).length ≤ 1048576) : DlR ps l R (j + 1) (out ++ valA ps (sub l (i + 1) j)) := by
  refine ⟨?_, ?_, hj⟩
  · rw [h.eq, drop_one l j hj, h1, refG_out _ _ _ hn, Option.map_map]
    congr 1
    funext x
    simp
  · have := h.ij
    rw [List.length_append]
    omega

set_option maxHeartbeats 4000000 in
theorem rRefer_any (s : ByteArray) (hs : s.size ≤ 1048576) (v : Value) (ps : List PrA) (hM : ∀ p ∈ ps, p.2.1.length ≤ 1048576) (hl : ps.length ≤ 4294967296) (w : World) (hrd : RdA v ps w) :
    Calls Tryz.prog 16 #[.string s, v] w fun e w' => e = .returned (.tuple #[.string (str (refR ps s.data.toList).1), .int .i64 (refR ps s.data.toList).2]) ∧ Below w.heap.size w w' := by
  have hsz : s.data.toList.length = s.size := size_list s
  have HIf : Hid (∀ W, Calls _ _ _ W _) := fun W => rIsField_any s (by unfold maxLen; omega) W
  have HTr : Hid (∀ W, Calls _ _ _ W _) := fun W => rTrim_any s (by unfold maxLen; omega) W
  have HNm : Hid (∀ (P : ByteArray) W, P.size ≤ 1048576 → Calls Tryz.prog 17 #[.string P] W fun e w' => e = .returned (.bool (isNm P.data.toList)) ∧ w' = W) := fun P W h => rIsName_any P (by unfold maxLen; omega) W
  have HVl : Hid (∀ (P : ByteArray) W, Below w.heap.size w W → Calls Tryz.prog 47 #[v, .string P] W fun e w' => e = .returned (.string (str (valA ps P.data.toList))) ∧ Below W.heap.size W w') := fun P W h => by
    have := rvalue_any v ps P.data.toList hl W (hrd.below h)
    rw [str_self] at this
    exact this
  have HVL : Hid (∀ n, (valA ps n).length ≤ 1048576) := fun n => by
    unfold valA
    split
    · rename_i p hp
      exact hM p (List.mem_of_find?_eq_some hp)
    · simp
  have HBad : Hid ((s.data.toList = [] ∨ isFld s.data.toList = false ∨ trim s.data.toList ≠ s.data.toList) → refR ps s.data.toList = ([], 180)) := fun h => if_pos h
  obtain ⟨R, hR⟩ : ∃ R, R = refG ps none s.data.toList := ⟨_, rfl⟩
  have HNo : Hid (R = none → refR ps s.data.toList = ([], 180)) := fun h => by
    unfold refR
    split
    · rfl
    · rw [← hR, h]
  have HOk : Hid (∀ x, R = some x → ¬ (s.data.toList = [] ∨ isFld s.data.toList = false ∨ trim s.data.toList ≠ s.data.toList) → refR ps s.data.toList = (x, 0)) := fun x h hn => by
    unfold refR
    rw [if_neg hn, ← hR, h]
  have HP0 : Hid (DlR ps s.data.toList R 0 []) := by
    refine ⟨?_, by simp, Nat.zero_le _⟩
    rw [List.drop_zero, hR]
    simp
  have HTq : Hid (((str (trim s.data.toList)).toList == s.toList) = decide (trim s.data.toList = s.data.toList)) := by
    have := veqA (trim s.data.toList) s.data.toList
    rw [str_self] at this
    exact this
  have HTn : Hid (((str (trim s.data.toList)).toList != s.toList) = !decide (trim s.data.toList = s.data.toList)) := by
    show (!((str (trim s.data.toList)).toList == s.toList)) = _
    rw [HTq.out]
  generalize refR ps s.data.toList = Y at *
  clear hR hrd hM
  by_cases hz : s.size = 0
  · have he := empty_of hz
    have HF : Hid (Y = ([], 180)) := HBad.out (.inl (List.length_eq_zero_iff.1 (hsz.trans hz)))
    clear HIf HTr HNm HVl HTq HTn HP0
    go_enter Tryz.func16, Tryz.ntmps16
    go_wp2
    go_ret2
    exact ⟨by rw [HF.out]; rfl, Below.refl _ _⟩
  have he := nonempty_of hz
  have HNe : Hid (s.data.toList ≠ []) := list_ne hz
  generalize hTS : str (trim s.data.toList) = TS at *
  clear hTS
  go_enter Tryz.func16, Tryz.ntmps16
  go_wp2_with fail
  refine (HIf.out _).mono ?_
  rintro e w1 ⟨rfl, hw1⟩
  rw [hw1]
  clear hw1
  by_cases hfld : isFld s.data.toList = true
  case neg =>
    have hfld : isFld s.data.toList = false := by simpa using hfld
    have HF : Hid (Y = ([], 180)) := HBad.out (.inr (.inl hfld))
    rw [hfld]
    clear hfld
    go_wp2
    go_ret2
    exact ⟨by rw [HF.out]; rfl, Below.refl _ _⟩
  rw [hfld]
  have HFld : Hid (isFld s.data.toList = true) := hfld
  clear hfld
  go_wp2_with fail
  refine (HTr.out _).mono ?_
  rintro e w2 ⟨rfl, hw2⟩
  rw [hw2]
  clear hw2
  by_cases htr : trim s.data.toList = s.data.toList
  case neg =>
    have HF : Hid (Y = ([], 180)) := HBad.out (.inr (.inr htr))
    have t1 : (TS.toList == s.toList) = false := by rw [HTq.out]; exact decide_eq_false htr
    have t2 : (TS.toList != s.toList) = true := by rw [HTn.out, decide_eq_false htr]; rfl
    clear htr
    go_wp2
    go_ret2
    exact ⟨by rw [HF.out]; rfl, Below.refl _ _⟩
  have t1 : (TS.toList == s.toList) = true := by rw [HTq.out]; exact decide_eq_true htr
  have t2 : (TS.toList != s.toList) = false := by rw [HTn.out, decide_eq_true htr]; rfl
  have HGd : Hid (¬ (s.data.toList = [] ∨ isFld s.data.toList = false ∨ trim s.data.toList ≠ s.data.toList)) := fun h => by
    rcases h with h | h | h
    · exact HNe.out h
    · rw [HFld.out] at h; cases h
    · exact h htr
  have HS0 : Hid ((⟨#[]⟩ : ByteArray) = str []) := rfl
  clear HIf HTr HNe HFld HTq HTn HBad htr
  go_wp2
  clear t1 t2 he
  go_loopw [6, 7] (fun ov iv wr => ∃ (i : Nat) (out : List UInt8), ov = .string (str out) ∧ iv = .int .i64 i ∧ Hid (DlR ps s.data.toList R i out) ∧ Hid (Below w.heap.size w wr)) (fun _ iv _ => s.size - (intOf iv).toNat)
  case atStart => exact ⟨0, [], rfl, rfl, HP0, Below.refl _ _⟩
  case round =>
    obtain ⟨i, out, rfl, rfl, hp, hbl⟩ := hrel
    have hle := hp.out.le
    have hln := hp.out.len
    have hiz : (i : Int) ≤ 1048576 := by omega
    by_cases hlt : i < s.size
    · have hby : ((s[i].toNat : Nat) : Int) = byt s i := byt_at s i hlt
      obtain ⟨b0, b1⟩ := byt_bd s i
      have HBy : Hid (byt s i = ((s.data.toList.getD i 0).toNat : Int)) := rfl
      have HLt : Hid (i < s.data.toList.length) := (by omega : i < s.data.toList.length)
      generalize byt s i = c at *
      by_cases h5 : c = 125
      · have hu : s.data.toList.getD i 0 = 125 := UInt8.toNat_inj.1 (by have := HBy.out; show _ = 125; omega)
        have HF : Hid (Y = ([], 180)) := HNo.out (hp.out.bad HLt.out hu)
        have q5 : (c == 125) = true := by simp [h5]
        clear h5 hu hln
        go_wp2
        go_ret2
        exact ⟨by rw [HF.out]; rfl, hbl.out⟩
      have hn5 : s.data.toList.getD i 0 ≠ 125 := fun e => h5 (by rw [HBy.out, e]; rfl)
      have q5 : (c == 125) = false := by simp [h5]
      by_cases h3 : c = 123
      case neg =>
        have hn3 : s.data.toList.getD i 0 ≠ 123 := fun e => h3 (by rw [HBy.out, e]; rfl)
        have q3 : (c == 123) = false := by simp [h3]
        have q3' : (c != 123) = true := by simp [h3]
        have HPo : Hid (DlR ps s.data.toList R (i + 1) (out ++ sub s.data.toList i (i + 1))) := hp.out.one HLt.out hn5 hn3
        have hx1 : (i : Int) ≤ (i : Int) + 1 := by omega
        have hx2 : (i : Int) + 1 ≤ (s.size : Int) := by omega
        have hx3 : (str out).size ≤ 2000000000000 := by rw [str_size]; omega
        have hx4 : (s.extract i (i + 1)).size ≤ 1048576 := by rw [← size_list, ext_sub, sub_len _ _ _ HLt.out]; omega
        have hx5 : (str out).size + (s.extract i (i + 1)).size ≤ 9223372036854775807 := by omega
        have HEq : Hid (str out ++ s.extract i (i + 1) = str (out ++ sub s.data.toList i (i + 1))) := by
          apply eq_list
          rw [ByteArray.data_append, Array.toList_append, str_list, str_list, ext_sub]
        clear h5 h3 hn5 hn3 hln
        generalize hPe : s.extract i (i + 1) = P at *
        have HPe : Hid (s.extract i (i + 1) = P) := hPe
        clear hPe
        generalize str out = O at *
        go_wp2
        go_roundw
        case rel => exact ⟨i + 1, _, by rw [HPe.out, HEq.out], by go_num, HPo, hbl⟩
        case measure => simp [intOf]; omega
      have hu : s.data.toList.getD i 0 = 123 := UInt8.toNat_inj.1 (by have := HBy.out; show _ = 123; omega)
      have q3 : (c == 123) = true := by simp [h3]
      have q3' : (c != 123) = false := by simp [h3]
      have HPn : Hid (DnR ps s.data.toList R i (i + 1) out) := hp.out.open HLt.out hu
      have HLn : Hid (out.length ≤ i * 1048577) := hln
      clear h5 h3 hn5 hu hln hp
      go_wp2
      go_loopw [8] (fun jv w2 => ∃ j : Nat, jv = .int .i64 j ∧ Hid (DnR ps s.data.toList R i j out) ∧ w2 = wr) (fun jv _ => s.size - (intOf jv).toNat)
      case atStart => exact ⟨i + 1, by go_num, HPn, by first | rfl | trivial⟩
      case round =>
        obtain ⟨j, rfl, hpn, rfl⟩ := hrel
        have hij := hpn.out.ij
        have hjl := hpn.out.le
        have hjz : (j : Int) ≤ 1048576 := by omega
        have hi1 : ((i : Int) + 1).toNat = i + 1 := by omega
        have hi0 : (0 : Int) ≤ (i : Int) + 1 := by omega
        have hij2 : (i : Int) + 1 ≤ (j : Int) := by omega
        have hjl2 : (j : Int) ≤ (s.size : Int) := by omega
        by_cases hjt : j < s.size
        · have hbj : ((s[j].toNat : Nat) : Int) = byt s j := byt_at s j hjt
          obtain ⟨d0, d1⟩ := byt_bd s j
          have HBj : Hid (byt s j = ((s.data.toList.getD j 0).toNat : Int)) := rfl
          have HJt : Hid (j < s.data.toList.length) := (by omega : j < s.data.toList.length)
          generalize byt s j = d at *
          by_cases k5 : d = 125
          case neg =>
            have hn : s.data.toList.getD j 0 ≠ 125 := fun e => k5 (by rw [HBj.out, e]; rfl)
            have qd : (d == 125) = false := by simp [k5]
            have qd' : (d != 125) = true := by simp [k5]
            have HPo : Hid (DnR ps s.data.toList R i (j + 1) out) := hpn.out.on HJt.out hn
            clear k5 hn hpn
            go_wp2
            go_roundw
            case rel => exact ⟨j + 1, by go_num, HPo, by first | rfl | trivial⟩
            case measure => simp [intOf]; omega
          have hu : s.data.toList.getD j 0 = 125 := UInt8.toNat_inj.1 (by have := HBj.out; show _ = 125; omega)
          have qd : (d == 125) = true := by simp [k5]
          have qd' : (d != 125) = false := by simp [k5]
          have qj : ((j : Int) == (s.size : Int)) = false := by simp; omega
          have HPs : Hid ((s.extract (i + 1) j).size ≤ 1048576) := (by rw [← size_list, ext_sub, sub_len _ _ _ hpn.out.le]; omega : _ ≤ _)
          have HPq : Hid ((s.extract (i + 1) j).data.toList = sub s.data.toList (i + 1) j) := ext_sub s (i + 1) j
          have HSh : Hid (isNm (sub s.data.toList (i + 1) j) = true → DlR ps s.data.toList R (j + 1) (out ++ valA ps (sub s.data.toList (i + 1) j))) := fun h => hpn.out.shut HJt.out hu h HLn.out (HVL.out _)
          have HBd : Hid (isNm (sub s.data.toList (i + 1) j) = false → Y = ([], 180)) := fun h => HNo.out (hpn.out.bad HJt.out hu h)
          clear k5 hu hpn
          go_wp2_with fail
          generalize hPe : s.extract (i + 1) j = P at *
          have HPe : Hid (s.extract (i + 1) j = P) := hPe
          clear hPe
          refine (HNm.out P _ HPs.out).mono ?_
          rintro e w4 ⟨rfl, hw4⟩
          rw [hw4, HPq.out]
          clear hw4
          by_cases hn : isNm (sub s.data.toList (i + 1) j) = true
          case neg =>
            have hn : isNm (sub s.data.toList (i + 1) j) = false := by simpa using hn
            have HF : Hid (Y = ([], 180)) := HBd.out hn
            rw [hn]
            clear hn HSh HBd
            go_wp2
            go_ret2
            exact ⟨by rw [HF.out]; rfl, hbl.out⟩
          have HPo : Hid (DlR ps s.data.toList R (j + 1) (out ++ valA ps (sub s.data.toList (i + 1) j))) := HSh.out hn
          rw [hn]
          clear hn HSh HBd
          have hO1 : (str out).size ≤ 2000000000000 := by rw [str_size]; have := HLn.out; omega
          have hV1 : (str (valA ps (sub s.data.toList (i + 1) j))).size ≤ 1048576 := by rw [str_size]; exact HVL.out _
          have hOV : (str out).size + (str (valA ps (sub s.data.toList (i + 1) j))).size ≤ 9223372036854775807 := by omega
          have HEq : Hid (str out ++ str (valA ps (sub s.data.toList (i + 1) j)) = str (out ++ valA ps (sub s.data.toList (i + 1) j))) := by
            apply eq_list
            rw [ByteArray.data_append, Array.toList_append, str_list, str_list, str_list]
          go_wp2_with fail
          rw [HPe.out]
          refine (HVl.out P _ hbl.out).mono ?_
          rintro e w5 ⟨rfl, hb5⟩
          have HB5 : Hid (Below w.heap.size w w5) := bel_trans hbl.out hb5
          clear hb5
          rw [HPq.out]
          generalize str (valA ps (sub s.data.toList (i + 1) j)) = V at *
          generalize str out = O at *
          go_wp2
          go_roundw
          case rel => exact ⟨j + 1, _, by rw [HEq.out], by go_num, HPo, HB5⟩
          case measure => simp [intOf]; omega
        · obtain rfl : j = s.size := by omega
          have HF : Hid (Y = ([], 180)) := HNo.out (by
            have h := hpn.out
            rw [← hsz] at h
            exact h.fin)
          clear hpn
          go_wp2
          go_ret2
          exact ⟨by rw [HF.out]; rfl, hbl.out⟩
    · obtain rfl : i = s.size := by omega
      have hdr : s.data.toList.drop s.size = [] := by rw [← hsz]; exact List.drop_length
      have HF : Hid (Y = (out, 0)) := HOk.out _ (by rw [hp.out.eq, hdr]; show some (out ++ []) = _; rw [List.append_nil]) HGd.out
      clear hdr hln hp
      go_wp2
      go_ret2
      exact ⟨by rw [HF.out]; rfl, hbl.out⟩

end Hn
end Go.Proofs.YtmlpohbghobelaaGreatDoor
