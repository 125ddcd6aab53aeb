/- Several texts as one. -/
import Derived.Test.YtlfobdjbnpgchaaGreatDoorMgK
import Derived.Test.YtlfobdjbnpgchaaGreatDoorMgB
import Derived.Test.YtlfobdjbnpgchaaGreatDoorRows
import Derived.Deep.Strs
import Derived.OpenShut
import Derived.SliceStrings
import Derived.Carry
/-
  handle: the document's Refer.
-/
set_option linter.unusedVariables false
set_option linter.unusedSimpArgs false
set_option maxRecDepth 100000
namespace Go.Proofs.YtlfobdjbnpgchaaGreatDoor
open Go.RowKit Go.Shelf
namespace Hn
open Oc

/-- How the document stands, plainly, outside of a name. -/
structure DlR (ps : List PrA) (l : List UInt8) (R : Option (List UInt8)) (i : Nat) (out : List UInt8) : Prop where
  eq : R = (refG ps none (l.drop i)).map (out ++ ·)
  len : out.length ≤ i * 1048577
  le : i ≤ l.length
/-- In one. -/
structure DnR (ps : List PrA) (l : List UInt8) (R : Option (List UInt8)) (i j : Nat) (out : List UInt8) : Prop where
  eq : R = (refG ps (some (sub l (i + 1) j)) (l.drop j)).map (out ++ ·)
  ij : i + 1 ≤ j
  le : j ≤ l.length
theorem DlR.one {ps : List PrA} {l : List UInt8} {R : Option (List UInt8)} {i : Nat} {out : List UInt8} (h : DlR ps l R i out) (hi : i < l.length) (h1 : l.getD i 0 ≠ 125) (h2 : l.getD i 0 ≠ 123) : DlR ps l R (i + 1) (out ++ sub l i (i + 1)) := by
  refine ⟨?_, ?_, hi⟩
  · rw [h.eq, drop_one l i hi, refG_one _ _ _ _ h1 h2, sub_one l i i (Nat.le_refl _) hi, sub_self]
    rfl
  · have := h.len
    rw [List.length_append, sub_len _ _ _ hi]
    omega
theorem DlR.bad {ps : List PrA} {l : List UInt8} {R : Option (List UInt8)} {i : Nat} {out : List UInt8} (h : DlR ps l R i out) (hi : i < l.length) (h1 : l.getD i 0 = 125) : R = none := by
  rw [h.eq, drop_one l i hi, h1]
  rfl
theorem DlR.open {ps : List PrA} {l : List UInt8} {R : Option (List UInt8)} {i : Nat} {out : List UInt8} (h : DlR ps l R i out) (hi : i < l.length) (h1 : l.getD i 0 = 123) : DnR ps l R i (i + 1) out := by
  refine ⟨?_, Nat.le_refl _, hi⟩
  rw [h.eq, drop_one l i hi, h1, sub_self]
  rfl
theorem DnR.on {ps : List PrA} {l : List UInt8} {R : Option (List UInt8)} {i j : Nat} {out : List UInt8} (h : DnR ps l R i j out) (hj : j < l.length) (h1 : l.getD j 0 ≠ 125) : DnR ps l R i (j + 1) out := by
  refine ⟨?_, by have := h.ij; omega, hj⟩
  rw [h.eq, drop_one l j hj, refG_in _ _ _ _ h1, sub_one l (i + 1) j h.ij hj]
theorem DnR.fin {ps : List PrA} {l : List UInt8} {R : Option (List UInt8)} {i : Nat} {out : List UInt8} (h : DnR ps l R i l.length out) : R = none := by
  rw [h.eq, List.drop_length]
  rfl
theorem DnR.bad {ps : List PrA} {l : List UInt8} {R : Option (List UInt8)} {i j : Nat} {out : List UInt8} (h : DnR ps l R i j out) (hj : j < l.length) (h1 : l.getD j 0 = 125) (hn : isNm (sub l (i + 1) j) = false) : R = none := by
  rw [h.eq, drop_one l j hj, h1, refG_no _ _ _ hn]
  rfl
theorem DnR.shut {ps : List PrA} {l : List UInt8} {R : Option (List UInt8)} {i j : Nat} {out : List UInt8} (h : DnR ps l R i j out) (hj : j < l.length) (h1 : l.getD j 0 = 125) (hn : isNm (sub l (i + 1) j) = true) (ho : out.length ≤ i * 1048577) (hv : (valA ps (sub l (i + 1) j)).length ≤ 1048576) : DlR ps l R (j + 1) (out ++ valA ps (sub l (i + 1) j)) := by
  refine ⟨?_, ?_, hj⟩
  · rw [h.eq, drop_one l j hj, h1, refG_out _ _ _ hn, Option.map_map]
    congr 1
    funext x
    simp
  · have := h.ij
    rw [List.length_append]
    omega

set_option maxHeartbeats 4000000 in
theorem rRefer_any (s : ByteArray) (hs : s.size ≤ 1048576) (v : Value) (ps : List PrA) (hM : ∀ p ∈ ps, p.2.1.length ≤ 1048576) (hl : ps.length ≤ 4294967296) (w : World) (hrd : RdA v ps w) :
    Calls Tryz.prog 8 #[.string s, v] w fun e w' => e = .returned (.tuple #[.string (str (refR ps s.data.toList).1), .int .i64 (refR ps s.data.toList).2]) ∧ Below w.heap.size w w' := by
  have hsz : s.data.toList.length = s.size := size_list s
  have HIf : Hid (∀ W, Calls _ _ _ W _) := fun W => rIsField_any s (by unfold maxLen; omega) W
  have HTr : Hid (∀ W, Calls _ _ _ W _) := fun W => rTrim_any s (by unfold maxLen; omega) W
  have HNm : Hid (∀ (P : ByteArray) W, P.size ≤ 1048576 → Calls Tryz.prog 26 #[.string P] W fun e w' => e = .returned (.bool (isNm P.data.toList)) ∧ w' = W) := fun P W h => rIsName_any P (by unfold maxLen; omega) W
  have HVl : Hid (∀ (P : ByteArray) W, Below w.heap.size w W → Calls Tryz.prog 27 #[v, .string P] W fun e w' => e = .returned (.string (str (valA ps P.data.toList))) ∧ Below W.heap.size W w') := fun P W h => by
    have := rvalue_any v ps P.data.toList hl W (hrd.below h)
    rw [str_self] at this
    exact this
  have HVL : Hid (∀ n, (valA ps n).length ≤ 1048576) := fun n => by
    unfold valA
    split
    · rename_i p hp
      exact hM p (List.mem_of_find?_eq_some hp)
    · simp
  have HBad : Hid ((s.data.toList = [] ∨ isFld s.data.toList = false ∨ trim s.data.toList ≠ s.data.toList) → refR ps s.data.toList = ([], 180)) := fun h => if_pos h
  obtain ⟨R, hR⟩ : ∃ R, R = refG ps none s.data.toList := ⟨_, rfl⟩
  have HNo : Hid (R = none → refR ps s.data.toList = ([], 180)) := fun h => by
    unfold refR
    split
    · rfl
    · rw [← hR, h]
  have HOk : Hid (∀ x, R = some x → ¬ (s.data.toList = [] ∨ isFld s.data.toList = false ∨ trim s.data.toList ≠ s.data.toList) → refR ps s.data.toList = (x, 0)) := fun x h hn => by
    unfold refR
    rw [if_neg hn, ← hR, h]
  have HP0 : Hid (DlR ps s.data.toList R 0 []) := by
    refine ⟨?_, by simp, Nat.zero_le _⟩
    rw [List.drop_zero, hR]
    simp
  have HTq : Hid (((str (trim s.data.toList)).toList == s.toList) = decide (trim s.data.toList = s.data.toList)) := by
    have := veqA (trim s.data.toList) s.data.toList
    rw [str_self] at this
    exact this
  have HTn : Hid (((str (trim s.data.toList)).toList != s.toList) = !decide (trim s.data.toList = s.data.toList)) := by
    show (!((str (trim s.data.toList)).toList == s.toList)) = _
    rw [HTq.out]
  generalize refR ps s.data.toList = Y at *
  clear hR hrd hM
  by_cases hz : s.size = 0
  · have he := empty_of hz
    have HF : Hid (Y = ([], 180)) := HBad.out (.inl (List.length_eq_zero_iff.1 (hsz.trans hz)))
    clear HIf HTr HNm HVl HTq HTn HP0
    go_enter Tryz.func8, Tryz.ntmps8
    go_wp2
    go_ret2
    exact ⟨by rw [HF.out]; rfl, Below.refl _ _⟩
  have he := nonempty_of hz
  have HNe : Hid (s.data.toList ≠ []) := list_ne hz
  generalize hTS : str (trim s.data.toList) = TS at *
  clear hTS
  go_enter Tryz.func8, Tryz.ntmps8
  go_wp2_with fail
  refine (HIf.out _).mono ?_
  rintro e w1 ⟨rfl, hw1⟩
  rw [hw1]
  clear hw1
  by_cases hfld : isFld s.data.toList = true
  case neg =>
    have hfld : isFld s.data.toList = false := by simpa using hfld
    have HF : Hid (Y = ([], 180)) := HBad.out (.inr (.inl hfld))
    rw [hfld]
    clear hfld
    go_wp2
    go_ret2
    exact ⟨by rw [HF.out]; rfl, Below.refl _ _⟩
  rw [hfld]
  have HFld : Hid (isFld s.data.toList = true) := hfld
  clear hfld
  go_wp2_with fail
  refine (HTr.out _).mono ?_
  rintro e w2 ⟨rfl, hw2⟩
  rw [hw2]
  clear hw2
  by_cases htr : trim s.data.toList = s.data.toList
  case neg =>
    have HF : Hid (Y = ([], 180)) := HBad.out (.inr (.inr htr))
    have t1 : (TS.toList == s.toList) = false := by rw [HTq.out]; exact decide_eq_false htr
    have t2 : (TS.toList != s.toList) = true := by rw [HTn.out, decide_eq_false htr]; rfl
    clear htr
    go_wp2
    go_ret2
    exact ⟨by rw [HF.out]; rfl, Below.refl _ _⟩
  have t1 : (TS.toList == s.toList) = true := by rw [HTq.out]; exact decide_eq_true htr
  have t2 : (TS.toList != s.toList) = false := by rw [HTn.out, decide_eq_true htr]; rfl
  have HGd : Hid (¬ (s.data.toList = [] ∨ isFld s.data.toList = false ∨ trim s.data.toList ≠ s.data.toList)) := fun h => by
    rcases h with h | h | h
    · exact HNe.out h
    · rw [HFld.out] at h; cases h
    · exact h htr
  have HS0 : Hid ((⟨#[]⟩ : ByteArray) = str []) := rfl
  clear HIf HTr HNe HFld HTq HTn HBad htr
  go_wp2
  clear t1 t2 he
  go_loopw [6, 7] (fun ov iv wr => ∃ (i : Nat) (out : List UInt8), ov = .string (str out) ∧ iv = .int .i64 i ∧ Hid (DlR ps s.data.toList R i out) ∧ Hid (Below w.heap.size w wr)) (fun _ iv _ => s.size - (intOf iv).toNat)
  case atStart => exact ⟨0, [], rfl, rfl, HP0, Below.refl _ _⟩
  case round =>
    obtain ⟨i, out, rfl, rfl, hp, hbl⟩ := hrel
    have hle := hp.out.le
    have hln := hp.out.len
    have hiz : (i : Int) ≤ 1048576 := by omega
    by_cases hlt : i < s.size
    · have hby : ((s[i].toNat : Nat) : Int) = byt s i := byt_at s i hlt
      obtain ⟨b0, b1⟩ := byt_bd s i
      have HBy : Hid (byt s i = ((s.data.toList.getD i 0).toNat : Int)) := rfl
      have HLt : Hid (i < s.data.toList.length) := (by omega : i < s.data.toList.length)
      generalize byt s i = c at *
      by_cases h5 : c = 125
      · have hu : s.data.toList.getD i 0 = 125 := UInt8.toNat_inj.1 (by have := HBy.out; show _ = 125; omega)
        have HF : Hid (Y = ([], 180)) := HNo.out (hp.out.bad HLt.out hu)
        have q5 : (c == 125) = true := by simp [h5]
        clear h5 hu hln
        go_wp2
        go_ret2
        exact ⟨by rw [HF.out]; rfl, hbl.out⟩
      have hn5 : s.data.toList.getD i 0 ≠ 125 := fun e => h5 (by rw [HBy.out, e]; rfl)
      have q5 : (c == 125) = false := by simp [h5]
      by_cases h3 : c = 123
      case neg =>
        have hn3 : s.data.toList.getD i 0 ≠ 123 := fun e => h3 (by rw [HBy.out, e]; rfl)
        have q3 : (c == 123) = false := by simp [h3]
        have q3' : (c != 123) = true := by simp [h3]
        have HPo : Hid (DlR ps s.data.toList R (i + 1) (out ++ sub s.data.toList i (i + 1))) := hp.out.one HLt.out hn5 hn3
        have hx1 : (i : Int) ≤ (i : Int) + 1 := by omega
        have hx2 : (i : Int) + 1 ≤ (s.size : Int) := by omega
        have hx3 : (str out).size ≤ 2000000000000 := by rw [str_size]; omega
        have hx4 : (s.extract i (i + 1)).size ≤ 1048576 := by rw [← size_list, ext_sub, sub_len _ _ _ HLt.out]; omega
        have hx5 : (str out).size + (s.extract i (i + 1)).size ≤ 9223372036854775807 := by omega
        have HEq : Hid (str out ++ s.extract i (i + 1) = str (out ++ sub s.data.toList i (i + 1))) := by
          apply eq_list
          rw [ByteArray.data_append, Array.toList_append, str_list, str_list, ext_sub]
        clear h5 h3 hn5 hn3 hln
        generalize hPe : s.extract i (i + 1) = P at *
        have HPe : Hid (s.extract i (i + 1) = P) := hPe
        clear hPe
        generalize str out = O at *
        go_wp2
        go_roundw
        case rel => exact ⟨i + 1, _, by rw [HPe.out, HEq.out], by go_num, HPo, hbl⟩
        case measure => simp [intOf]; omega
      have hu : s.data.toList.getD i 0 = 123 := UInt8.toNat_inj.1 (by have := HBy.out; show _ = 123; omega)
      have q3 : (c == 123) = true := by simp [h3]
      have q3' : (c != 123) = false := by simp [h3]
      have HPn : Hid (DnR ps s.data.toList R i (i + 1) out) := hp.out.open HLt.out hu
      have HLn : Hid (out.length ≤ i * 1048577) := hln
      clear h5 h3 hn5 hu hln hp
      go_wp2
      go_loopw [8] (fun jv w2 => ∃ j : Nat, jv = .int .i64 j ∧ Hid (DnR ps s.data.toList R i j out) ∧ w2 = wr) (fun jv _ => s.size - (intOf jv).toNat)
      case atStart => exact ⟨i + 1, by go_num, HPn, by first | rfl | trivial⟩
      case round =>
        obtain ⟨j, rfl, hpn, rfl⟩ := hrel
        have hij := hpn.out.ij
        have hjl := hpn.out.le
        have hjz : (j : Int) ≤ 1048576 := by omega
        have hi1 : ((i : Int) + 1).toNat = i + 1 := by omega
        have hi0 : (0 : Int) ≤ (i : Int) + 1 := by omega
        have hij2 : (i : Int) + 1 ≤ (j : Int) := by omega
        have hjl2 : (j : Int) ≤ (s.size : Int) := by omega
        by_cases hjt : j < s.size
        · have hbj : ((s[j].toNat : Nat) : Int) = byt s j := byt_at s j hjt
          obtain ⟨d0, d1⟩ := byt_bd s j
          have HBj : Hid (byt s j = ((s.data.toList.getD j 0).toNat : Int)) := rfl
          have HJt : Hid (j < s.data.toList.length) := (by omega : j < s.data.toList.length)
          generalize byt s j = d at *
          by_cases k5 : d = 125
          case neg =>
            have hn : s.data.toList.getD j 0 ≠ 125 := fun e => k5 (by rw [HBj.out, e]; rfl)
            have qd : (d == 125) = false := by simp [k5]
            have qd' : (d != 125) = true := by simp [k5]
            have HPo : Hid (DnR ps s.data.toList R i (j + 1) out) := hpn.out.on HJt.out hn
            clear k5 hn hpn
            go_wp2
            go_roundw
            case rel => exact ⟨j + 1, by go_num, HPo, by first | rfl | trivial⟩
            case measure => simp [intOf]; omega
          have hu : s.data.toList.getD j 0 = 125 := UInt8.toNat_inj.1 (by have := HBj.out; show _ = 125; omega)
          have qd : (d == 125) = true := by simp [k5]
          have qd' : (d != 125) = false := by simp [k5]
          have qj : ((j : Int) == (s.size : Int)) = false := by simp; omega
          have HPs : Hid ((s.extract (i + 1) j).size ≤ 1048576) := (by rw [← size_list, ext_sub, sub_len _ _ _ hpn.out.le]; omega : _ ≤ _)
          have HPq : Hid ((s.extract (i + 1) j).data.toList = sub s.data.toList (i + 1) j) := ext_sub s (i + 1) j
          have HSh : Hid (isNm (sub s.data.toList (i + 1) j) = true → DlR ps s.data.toList R (j + 1) (out ++ valA ps (sub s.data.toList (i + 1) j))) := fun h => hpn.out.shut HJt.out hu h HLn.out (HVL.out _)
          have HBd : Hid (isNm (sub s.data.toList (i + 1) j) = false → Y = ([], 180)) := fun h => HNo.out (hpn.out.bad HJt.out hu h)
          clear k5 hu hpn
          go_wp2_with fail
          generalize hPe : s.extract (i + 1) j = P at *
          have HPe : Hid (s.extract (i + 1) j = P) := hPe
          clear hPe
          refine (HNm.out P _ HPs.out).mono ?_
          rintro e w4 ⟨rfl, hw4⟩
          rw [hw4, HPq.out]
          clear hw4
          by_cases hn : isNm (sub s.data.toList (i + 1) j) = true
          case neg =>
            have hn : isNm (sub s.data.toList (i + 1) j) = false := by simpa using hn
            have HF : Hid (Y = ([], 180)) := HBd.out hn
            rw [hn]
            clear hn HSh HBd
            go_wp2
            go_ret2
            exact ⟨by rw [HF.out]; rfl, hbl.out⟩
          have HPo : Hid (DlR ps s.data.toList R (j + 1) (out ++ valA ps (sub s.data.toList (i + 1) j))) := HSh.out hn
          rw [hn]
          clear hn HSh HBd
          have hO1 : (str out).size ≤ 2000000000000 := by rw [str_size]; have := HLn.out; omega
          have hV1 : (str (valA ps (sub s.data.toList (i + 1) j))).size ≤ 1048576 := by rw [str_size]; exact HVL.out _
          have hOV : (str out).size + (str (valA ps (sub s.data.toList (i + 1) j))).size ≤ 9223372036854775807 := by omega
          have HEq : Hid (str out ++ str (valA ps (sub s.data.toList (i + 1) j)) = str (out ++ valA ps (sub s.data.toList (i + 1) j))) := by
            apply eq_list
            rw [ByteArray.data_append, Array.toList_append, str_list, str_list, str_list]
          go_wp2_with fail
          rw [HPe.out]
          refine (HVl.out P _ hbl.out).mono ?_
          rintro e w5 ⟨rfl, hb5⟩
          have HB5 : Hid (Below w.heap.size w w5) := bel_trans hbl.out hb5
          clear hb5
          rw [HPq.out]
          generalize str (valA ps (sub s.data.toList (i + 1) j)) = V at *
          generalize str out = O at *
          go_wp2
          go_roundw
          case rel => exact ⟨j + 1, _, by rw [HEq.out], by go_num, HPo, HB5⟩
          case measure => simp [intOf]; omega
        · obtain rfl : j = s.size := by omega
          have HF : Hid (Y = ([], 180)) := HNo.out (by
            have h := hpn.out
            rw [← hsz] at h
            exact h.fin)
          clear hpn
          go_wp2
          go_ret2
          exact ⟨by rw [HF.out]; rfl, hbl.out⟩
    · obtain rfl : i = s.size := by omega
      have hdr : s.data.toList.drop s.size = [] := by rw [← hsz]; exact List.drop_length
      have HF : Hid (Y = (out, 0)) := HOk.out _ (by rw [hp.out.eq, hdr]; show some (out ++ []) = _; rw [List.append_nil]) HGd.out
      clear hdr hln hp
      go_wp2
      go_ret2
      exact ⟨by rw [HF.out]; rfl, hbl.out⟩

end Hn
end Go.Proofs.YtlfobdjbnpgchaaGreatDoor

/-
  handle: of the law, params.
-/
set_option linter.unusedVariables false
set_option linter.unusedSimpArgs false
set_option maxRecDepth 100000
namespace Go.Proofs.YtlfobdjbnpgchaaGreatDoor
open Go.RowKit Go.Shelf
namespace Hn
open Oc

set_option maxHeartbeats 2000000 in
theorem params18_any (v : Value) (t : List PrA) (w : World) (h : RdA v t w) (hl : t.length ≤ 16777216) :
    Calls Tryz.prog 9 #[v] w fun e w' => ∃ u, e = .returned u ∧ OwnA 77 w.heap.size u t w' ∧ Below w.heap.size w w' := by
  have HR : Hid (RdA v t w) := h
  obtain ⟨a, c, rfl, _⟩ := h
  go_enter Tryz.func9, Tryz.ntmps9
  go_wp2
  go_loopw [3, 8] (fun ov i wr => ∃ k : Nat, k ≤ t.length ∧ i = .int .i64 k ∧ Hid (OwnA 77 w.heap.size ov (t.take k) wr) ∧ Hid (Below w.heap.size w wr)) (fun _ i _ => t.length - (intOf i).toNat)
  case atStart => exact ⟨0, Nat.zero_le _, rfl, ownA_nil _ _ _, Below.refl _ _⟩
  case round =>
    obtain ⟨k, hk, rfl, hown, hbl⟩ := hrel
    have hsz := hbl.out.size
    by_cases hlt : k < t.length
    · obtain ⟨a', c', e', hcs⟩ := HR.out.below hbl.out
      injection e' with e1 _ e2
      subst e1 e2
      rcases hcs with h | ⟨g, o, rfl, hlc, hcell⟩
      · rw [h] at hlt; simp at hlt
      obtain ⟨p0, p1, p2⟩ := hcell k hlt
      have HTk : Hid (t.take (k + 1) = t.take k ++ [nthA t k]) := take_nthA t k hlt
      have hlk : (t.take k).length + 1 ≤ 2147483648 := by rw [List.length_take]; omega
      generalize nthA t k = p at *
      obtain ⟨pn, pv, pb⟩ := p
      dsimp only at p0 p1 p2
      generalize hn : str pn = N at p0
      generalize hv : str pv = V at p1
      have HN : Hid (N = str pn) := hn.symm
      have HV : Hid (V = str pv) := hv.symm
      have hb1 : Below wr.heap.size wr (wr.alloc (.cells #[.string N, .string V, .bool pb] 25)) := (Below.refl _ wr).alloc (Nat.le_refl _) _
      have HO1 : Hid (OwnA 77 w.heap.size _ (t.take k) (wr.alloc (.cells #[.string N, .string V, .bool pb] 25))) := hown.out.below hb1
      have HB1 : Hid (Below w.heap.size w (wr.alloc (.cells #[.string N, .string V, .bool pb] 25))) := bel_trans hbl.out hb1
      have hs1 : w.heap.size ≤ (wr.alloc (.cells #[.string N, .string V, .bool pb] 25)).heap.size := HB1.out.size
      clear hcell hn hv hb1
      go_wp2_with (at_builtin; go_must (refine wp_appA 77 31 infoA2 Tryz.underlying31 rfl (.tmp 12) (.tmp 20) rfl w.heap.size _ (t.take k) _ (pn, pv, pb) _ _ HN.out HV.out _ rfl rfl HO1.out _ rfl (by simp) hlk hs1 ?_); intro v6 w6 hown6 hb6)
      have HO6 : Hid (OwnA 77 w.heap.size v6 (t.take (k + 1)) w6) := (by rw [HTk.out]; exact hown6 : OwnA _ _ v6 (t.take (k + 1)) w6)
      have HB6 : Hid (Below w.heap.size w w6) := HB1.out.trans hb6
      clear hown6 hb6
      go_roundw
      case rel => exact ⟨k + 1, by omega, by go_num, HO6, HB6⟩
      case measure => simp [intOf]; omega
    · obtain rfl : k = t.length := by omega
      rw [List.take_length] at hown
      go_wp2
      go_ret
      exact ⟨_, rfl, hown.out, hbl.out⟩

end Hn
end Go.Proofs.YtlfobdjbnpgchaaGreatDoor

/-
  handle: a slice of parameters that came in (written by mkhrb.py).
-/
set_option linter.unusedVariables false
set_option linter.unusedSimpArgs false
namespace Go.Proofs.YtlfobdjbnpgchaaGreatDoor
open Go.ChangeShapes Go.WideShapes Go.RowKit
namespace Hn
open Oc

def szA (p : PrA) : Nat := p.1.length + p.2.1.length
def sumA (t : List PrA) : Nat := (t.map szA).sum
theorem cellsPa : Tryz.prog.cellsOf 25 = 3 := by kernel_rfl
theorem cells4a : Tryz.prog.cellsOf 4 = 1 := by kernel_rfl
theorem cells9a : Tryz.prog.cellsOf 9 = 1 := by kernel_rfl
def bulkA (t : List PrA) : Nat := t.length + sumA t
def prmOfA {H : Type} (y : DataW H × List MemPlace) : PrA := match y.1 with | .agg [.lit (.string a), .lit (.string b), .lit (.bool c)] => (a, b, c) | _ => ([], [], false)
theorem bulk_prmA {H : Type} : ∀ es : List (DataW H × List MemPlace), (∀ y ∈ es, ∃ a b c, y.1 = .agg [.lit (.string a), .lit (.string b), .lit (.bool c)]) → (es.map prmOfA).length + sumA (es.map prmOfA) ≤ Rows.uptoBulkAll (es.map (·.1))
  | [], _ => by simp [sumA, Rows.uptoBulkAll]
  | y :: es, h => by
    have ih := bulk_prmA es (fun z hz => h z (List.mem_cons_of_mem _ hz))
    obtain ⟨a, b, c, e⟩ := h y (by simp)
    simp only [sumA, List.map_cons, List.sum_cons, List.length_cons, Rows.uptoBulkAll, e, prmOfA, szA, Rows.uptoBulk] at ih ⊢
    omega
theorem addr_adda (g o k : Nat) : Addr.add ⟨g, o, none⟩ k = ⟨g, o + k, none⟩ := by unfold Addr.add; split <;> simp_all
set_option maxRecDepth 100000 in
theorem open_paramA {H : Type} {enc : TypeId × Value → H} {W : World} {base : Nat} {v : Value} {d : DataW H} {ps : List MemPlace} (hval : Value.okWide Tryz.prog W .any base 22 v)
    (h : DataW.Trod enc Tryz.prog W 0 (fun _ => true) true 22 v d ps) : ∃ t : List PrA, (RdA v t W ∧ NilA v t) ∧ bulkA t ≤ Rows.uptoBulk d := by
  obtain ⟨a0, len, cap, rfl⟩ := okWide_slice Tryz.underlying22 hval
  obtain ⟨fuel, hf⟩ := h
  rcases DataW.trod_slice Tryz.underlying22 hf with ⟨hcs, hx⟩ | ⟨a, len', cap', elems, rest, n, _, hcs, hx, hb, hl, hm, hlen, hel, _, _⟩
  · simp [Value.cells] at hcs
    obtain ⟨rfl, rfl, rfl⟩ := hcs
    exact ⟨[], ⟨⟨none, 0, rfl, .inl rfl⟩, fun _ => .inl rfl⟩, by simp [bulkA, sumA]⟩
  · simp [Value.cells] at hcs
    obtain ⟨rfl, rfl, rfl⟩ := hcs
    simp only [Prod.mk.injEq] at hx
    obtain ⟨rfl, rfl⟩ := hx
    have each : ∀ i y, elems[i]? = some y → ∃ (s1 s2 : ByteArray) (b : Bool), y.1 = .agg [.lit (.string s1.data.toList), .lit (.string s2.data.toList), .lit (.bool b)] ∧ W.cell? ((a.add (i * 3)).add 0) = some (.string s1) ∧ W.cell? ((a.add (i * 3)).add 1) = some (.string s2) ∧ W.cell? ((a.add (i * 3)).add 2) = some (.bool b) := by
      intro i y hy
      have hi : i < len := by rw [← hlen]; exact (List.getElem?_eq_some_iff.1 hy).1
      have h1 := hel i hi
      rw [hy, cellsPa, Option.bind_eq_some_iff] at h1
      obtain ⟨cs, hcs, ht⟩ := h1
      obtain ⟨_, hcl, hcc⟩ := World.cells?_some hcs
      obtain ⟨y0, y1, y2, m, rfl, _, t0, t1, t2⟩ := Deep.trod_struct3 Tryz.underlying25 ht
      simp only [cells9a, cells4a, List.drop_zero] at t0 t1 t2
      obtain ⟨s1, e1, r1, _⟩ := DataW.trod_string Tryz.underlying9 t0
      obtain ⟨s2, e2, r2, _⟩ := DataW.trod_string Tryz.underlying9 t1
      obtain ⟨b, e3, r3⟩ := DataW.trod_bool Tryz.underlying4 t2
      subst r1 r2 r3
      match cs, hcl with
      | [c0, c1, c2], _ =>
        simp at e1 e2 e3
        subst e1 e2 e3
        exact ⟨s1, s2, b, rfl, hcc 0 (by omega), hcc 1 (by omega), hcc 2 (by omega)⟩
    refine ⟨elems.map prmOfA, ⟨⟨some a, cap, by rw [List.length_map, hlen], ?_⟩, fun e => .inr ⟨a, cap, by have := congrArg List.length e; rw [List.length_map, hlen] at this; rw [this]; rfl⟩⟩, ?_⟩
    · by_cases hl0 : len = 0
      · left
        have : elems = [] := List.length_eq_zero_iff.1 (by omega)
        rw [this]; rfl
      · right
        obtain ⟨g, o, spot⟩ := a
        have hspot : spot = none := by
          obtain ⟨y, hy⟩ : ∃ y, elems[0]? = some y := ⟨elems[0]'(by omega), List.getElem?_eq_getElem (by omega)⟩
          obtain ⟨s1, s2, b, _, c0, _, _⟩ := each 0 y hy
          simpa [Addr.add] using World.cell?_spot c0
        subst hspot
        refine ⟨g, o, rfl, by rw [List.length_map, hlen]; exact hl, fun j hj => ?_⟩
        rw [List.length_map] at hj
        obtain ⟨s1, s2, b, ey, c0, c1, c2⟩ := each j _ (List.getElem?_eq_getElem hj)
        have en : nthA (elems.map prmOfA) j = (s1.data.toList, s2.data.toList, b) := by
          unfold nthA
          rw [List.getD_eq_getElem?_getD, List.getElem?_map, List.getElem?_eq_getElem hj]
          show prmOfA elems[j] = _
          unfold prmOfA
          rw [ey]
        rw [addr_adda, addr_adda] at c0 c1 c2
        rw [en]
        dsimp only
        rw [str_self, str_self]
        exact ⟨c0, c1, c2⟩
    · have hb := bulk_prmA elems (fun y hy => by
        obtain ⟨i, hi⟩ := List.getElem?_of_mem hy
        obtain ⟨s1, s2, b, ey, _⟩ := each i y hi
        exact ⟨_, _, _, ey⟩)
      simp only [Rows.uptoBulk, bulkA]
      omega


end Hn
end Go.Proofs.YtlfobdjbnpgchaaGreatDoor
