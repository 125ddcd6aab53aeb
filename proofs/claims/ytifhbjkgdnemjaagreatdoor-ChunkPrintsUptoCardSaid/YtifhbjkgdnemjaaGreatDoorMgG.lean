/- Several texts as one. -/
import Derived.Test.YtifhbjkgdnemjaaGreatDoorMgC
import Derived.Test.YtifhbjkgdnemjaaGreatDoorMgF
import Derived.Test.YtifhbjkgdnemjaaGreatDoorFR1
import Derived.Test.YtifhbjkgdnemjaaGreatDoorRows
import Derived.Test.YtifhbjkgdnemjaaGreatDoorSameL
import Derived.Test.YtifhbjkgdnemjaaGreatDoorMgD
import Derived.OpenShut
import Derived.SliceStrings
import Derived.Carry
import Derived.Deep.Strs
import Derived.Test.YtifhbjkgdnemjaaGreatDoorMgE
/-
  Of the document: digits.
-/
set_option linter.unusedVariables false
set_option linter.unusedSimpArgs false
set_option maxRecDepth 100000
namespace Go.Proofs.YtifhbjkgdnemjaaGreatDoor
open Go.RowKit Go.Shelf
namespace Ck
open Oc Tg _root_.Go.Proofs.YtifhbjkgdnemjaaGreatDoor.Fd

theorem appL (a b : ByteArray) : (a ++ b).data.toList = a.data.toList ++ b.data.toList := by simp

set_option maxHeartbeats 1000000 in
theorem rdigits_any (n : Nat) (hn : n ≤ 1099511627776) (w : World) :
    Calls Tryz.prog 28 #[.int .i64 (n : Int)] w fun e w' => e = .returned (.string (str (hexd n))) ∧ w' = w := by
  have hlen := hexd_len 10 n (Nat.lt_of_le_of_lt hn (by decide))
  have HLn : Hid ((hexd n).length ≤ 11) := hlen
  clear hlen
  go_enter Tryz.func28, Tryz.ntmps28
  go_wp2
  go_loop [0, 3] (fun nv sv => ∃ (k : Nat) (ds : List UInt8), k ≤ 1099511627776 ∧ nv = .int .i64 k ∧ sv = .string (str ds) ∧ Hid (hexd n = hexd k ++ ds)) (fun nv _ => (intOf nv).toNat)
  case atStart => exact ⟨n, [], hn, rfl, rfl, (by simp : hexd n = hexd n ++ [])⟩
  case round =>
    obtain ⟨k, ds, hk, rfl, rfl, hst⟩ := hrel
    have hdl : ds.length ≤ 11 := by
      have h := congrArg List.length hst.out
      rw [List.length_append] at h
      have := HLn.out
      omega
    obtain ⟨d, hd⟩ : ∃ d, d = k % 16 := ⟨_, rfl⟩
    obtain ⟨q, hq⟩ : ∃ q, q = k / 16 := ⟨_, rfl⟩
    have hmod : ((k : Int)).tmod 16 = (d : Int) := by rw [Int.tmod_eq_emod_of_nonneg (by omega), hd]; omega
    have hmod2 : (k : Int) % 16 = (d : Int) := by rw [hd]; omega
    have hquo : ((k : Int)).tdiv 16 = (q : Int) := by rw [Int.tdiv_eq_ediv_of_nonneg (by omega), hq]; omega
    have hquo2 : (k : Int) / 16 = (q : Int) := by rw [hq]; omega
    have hd16 : d < 16 := by omega
    have HDs : Hid ((⟨#[48, 49, 50, 51, 52, 53, 54, 55, 56, 57, 97, 98, 99, 100, 101, 102]⟩ : ByteArray).extract d (d + 1) = str [hexc d]) := dig_slice d hd16
    have HAp : Hid (str [hexc d] ++ str ds = str (hexc d :: ds)) := (eq_list (by rw [appL, str_list, str_list, str_list]; rfl) : str [hexc d] ++ str ds = str (hexc d :: ds))
    have hs2 : (str ds).size = ds.length := str_size ds
    have HQ : Hid (q = k / 16) := hq
    have HDd : Hid (d = k % 16) := hd
    have hqk : q ≤ k := by omega
    by_cases hz : q = 0
    · have HE : Hid (hexd n = hexc d :: ds) := by
        have h16 : k < 16 := by omega
        have h := hst.out
        rw [hexd_low h16] at h
        have : d = k := by rw [hd]; omega
        rw [this]
        exact h
      have hz' : ((q : Int) == 0) = true := by simp [hz]
      clear hd hq hz
      go_wp2
      go_ret
      rw [HE.out]
      refine ⟨?_, rfl⟩
      rw [← HAp.out, ← HDs.out]
      rfl
    · have HE : Hid (hexd n = hexd q ++ (hexc d :: ds)) := by
        have h16 : ¬ k < 16 := by omega
        have h := hst.out
        rw [hexd_high h16, ← hq, ← hd] at h
        show hexd n = hexd q ++ (hexc d :: ds)
        rw [h]
        simp
      have hz' : ((q : Int) == 0) = false := by simp; omega
      have hqlt : q < k := by omega
      clear hd hq hz
      go_wp2
      go_round
      case rel => exact ⟨q, hexc d :: ds, by omega, rfl, (by rw [← HAp.out, ← HDs.out]), HE⟩
      case measure => simp [intOf]; omega

end Ck
end Go.Proofs.YtifhbjkgdnemjaaGreatDoor

/-
  Of the document: inside, quote, PrintParams, PrintSize.
-/
set_option linter.unusedVariables false
set_option linter.unusedSimpArgs false
set_option maxRecDepth 100000
namespace Go.Proofs.YtifhbjkgdnemjaaGreatDoor
open Go.RowKit Go.Shelf
namespace Ck
open Oc Tg _root_.Go.Proofs.YtifhbjkgdnemjaaGreatDoor.Fd

theorem fld_take {s : ByteArray} (h : ∀ j, j < s.size → fieldI (byt s j) = true) : isFld s.data.toList = true := by
  unfold isFld
  rw [List.all_eq_true]
  intro c hc
  obtain ⟨j, hj, rfl⟩ := List.mem_iff_getElem.1 hc
  have := h j (by rw [← size_list]; exact hj)
  unfold byt at this
  rw [List.getD_eq_getElem?_getD, List.getElem?_eq_getElem hj] at this
  exact this
theorem fld_not {s : ByteArray} {j : Nat} (hj : j < s.size) (h : fieldI (byt s j) = false) : isFld s.data.toList = false := by
  unfold isFld
  rw [List.all_eq_false]
  have hj' : j < s.data.toList.length := by rw [size_list]; exact hj
  refine ⟨s.data.toList[j], List.getElem_mem hj', ?_⟩
  unfold byt at h
  rw [List.getD_eq_getElem?_getD, List.getElem?_eq_getElem hj'] at h
  have h2 : fieldB (s.data.toList[j]) = false := h
  rw [h2]
  simp

set_option maxHeartbeats 1000000 in
theorem rinside_any (s : ByteArray) (hs : s.size ≤ maxLen) (w : World) :
    Calls Tryz.prog 43 #[.string s] w fun e w' => e = .returned (.bool (isFld s.data.toList)) ∧ w' = w := by
  unfold maxLen at hs
  go_enter Tryz.func43, Tryz.ntmps43
  go_wp2
  go_loop [3] (fun i => ∃ k : Nat, k ≤ s.size ∧ i = .int .i64 k ∧ Hid (∀ j, j < k → fieldI (byt s j) = true)) (fun i => s.size - (intOf i).toNat)
  case atStart => exact ⟨0, Nat.zero_le _, rfl, (fun j hj => by omega : ∀ j, j < 0 → _)⟩
  case round =>
    obtain ⟨k, hk, rfl, hall⟩ := hrel
    by_cases hlt : k < s.size
    · have hby : ((s[k].toNat : Nat) : Int) = byt s k := byt_at s k hlt
      obtain ⟨b0, b1⟩ := byt_bd s k
      cases hf : fieldI (byt s k) with
      | true =>
        have HN : Hid (∀ j, j < k + 1 → fieldI (byt s j) = true) := (fun j hj => by
          by_cases hjk : j = k
          · subst hjk; exact hf
          · exact hall.out j (by omega) : ∀ j, j < k + 1 → fieldI (byt s j) = true)
        go_wp2_with fail
        refine (rInside_any (byt s k) b0 (by omega) _).mono ?_
        rintro e w2 ⟨rfl, hw⟩
        rw [hw, hf]
        go_wp2
        go_round
        case rel => exact ⟨k + 1, by omega, by go_num, HN⟩
        case measure => simp [intOf]; omega
      | false =>
        have HE : Hid (isFld s.data.toList = false) := fld_not hlt hf
        go_wp2_with fail
        refine (rInside_any (byt s k) b0 (by omega) _).mono ?_
        rintro e w2 ⟨rfl, hw⟩
        rw [hw, hf]
        go_wp2
        go_ret
        exact ⟨by rw [HE.out]; rfl, rfl⟩
    · have HE : Hid (isFld s.data.toList = true) := fld_take (fun j hj => hall.out j (by omega))
      go_wp2
      go_ret
      exact ⟨by rw [HE.out]; rfl, rfl⟩

theorem one_ext (s : ByteArray) (k : Nat) (h : k < s.size) : s.extract k (k + 1) = str [s.data.toList.getD k 0] := by
  apply eq_list
  rw [str_list]
  have h' : k < s.data.toList.length := by rw [size_list]; exact h
  have e : (s.extract k (k + 1)).data.toList = (s.data.toList.drop k).take 1 := by
    simp [ByteArray.extract, ByteArray.copySlice]
  rw [e, List.drop_eq_getElem_cons h', List.getD_eq_getElem?_getD, List.getElem?_eq_getElem h']
  rfl

set_option maxHeartbeats 2000000 in
theorem rquote_any (s : ByteArray) (hs : s.size ≤ 16777216) (w : World) :
    Calls Tryz.prog 44 #[.string s] w fun e w' => e = .returned (.string (str (qText s.data.toList))) ∧ w' = w := by
  go_enter Tryz.func44, Tryz.ntmps44
  go_wp2
  go_loop [3, 4] (fun ov i => ∃ (k : Nat) (O : ByteArray), k ≤ s.size ∧ i = .int .i64 k ∧ ov = .string O ∧ O.size ≤ 2 * k + 1 ∧ Hid (O.data.toList = 34 :: qBody (s.data.toList.take k))) (fun _ i => s.size - (intOf i).toNat)
  case atStart => exact ⟨0, ⟨#[34]⟩, Nat.zero_le _, rfl, rfl, by decide, (rfl : _ = _)⟩
  case round =>
    obtain ⟨k, O, hk, rfl, rfl, hOs, hOl⟩ := hrel
    by_cases hlt : k < s.size
    · have hby : ((s[k].toNat : Nat) : Int) = byt s k := byt_at s k hlt
      have HEx : Hid (s.extract k (k + 1) = str [s.data.toList.getD k 0]) := one_ext s k hlt
      have HSn : Hid (qBody (s.data.toList.take (k + 1)) = qBody (s.data.toList.take k) ++ qByte (s.data.toList.getD k 0)) := (by rw [take_snoc s k hlt, qBody_snoc] : _ = _)
      have hbb : byt s k = ((s.data.toList.getD k 0).toNat : Int) := rfl
      have hes : (s.extract k (k + 1)).size = 1 := by rw [ByteArray.size_extract]; omega
      have hk1 : (k : Int) + 1 ≤ (s.size : Int) := by omega
      generalize s.data.toList.getD k 0 = c at *
      rw [hbb] at hby
      clear hbb
      by_cases hq : c = 34 ∨ c = 92
      · have hqi : ((c.toNat : Int) == 34) = true ∨ ((c.toNat : Int) == 92) = true := by
          rcases hq with rfl | rfl
          · left; rfl
          · right; rfl
        have HQ : Hid (qByte c = [92, c]) := (by unfold qByte; rw [if_pos hq] : _ = _)
        have hz1 : O.size + (⟨#[92]⟩ : ByteArray).size ≤ 9223372036854775807 := by show _ + 1 ≤ _; omega
        have hz2 : (O ++ ⟨#[92]⟩ : ByteArray).size + (s.extract k (k + 1)).size ≤ 9223372036854775807 := by rw [cat_size, hes]; show _ + 1 + 1 ≤ _; omega
        have HO : Hid ((O ++ ⟨#[92]⟩ ++ s.extract k (k + 1)).data.toList = 34 :: qBody (s.data.toList.take (k + 1))) := (by rw [cat_list, cat_list, hOl.out, HEx.out, str_list, HSn.out, HQ.out]; simp : _ = _)
        have hOs2 : (O ++ ⟨#[92]⟩ ++ s.extract k (k + 1)).size ≤ 2 * (k + 1) + 1 := by rw [cat_size, cat_size, hes]; show _ + 1 + 1 ≤ _; omega
        clear hOl HEx HSn HQ hes
        by_cases h34 : c = 34
        · have hc : (c.toNat : Int) = 34 := by rw [h34]; rfl
          clear hq hqi
          rw [hc] at hby
          go_wp2
          go_round
          case rel => exact ⟨k + 1, _, by omega, by go_num, rfl, hOs2, HO⟩
          case measure => simp [intOf]; omega
        · have hc : (c.toNat : Int) = 92 := by
            rcases hq with h | h
            · exact absurd h h34
            · rw [h]; rfl
          clear hq hqi h34
          rw [hc] at hby
          go_wp2
          go_round
          case rel => exact ⟨k + 1, _, by omega, by go_num, rfl, hOs2, HO⟩
          case measure => simp [intOf]; omega
      · have h34 : ((c.toNat : Int) == 34) = false := by
          simp
          intro e
          exact hq (.inl (UInt8.toNat_inj.1 (by show c.toNat = 34; omega)))
        have h92 : ((c.toNat : Int) == 92) = false := by
          simp
          intro e
          exact hq (.inr (UInt8.toNat_inj.1 (by show c.toNat = 92; omega)))
        have HQ : Hid (qByte c = [c]) := (by unfold qByte; rw [if_neg hq] : _ = _)
        have hz2 : O.size + (s.extract k (k + 1)).size ≤ 9223372036854775807 := by rw [hes]; omega
        have HO : Hid ((O ++ s.extract k (k + 1)).data.toList = 34 :: qBody (s.data.toList.take (k + 1))) := (by rw [cat_list, hOl.out, HEx.out, str_list, HSn.out, HQ.out]; simp : _ = _)
        have hOs2 : (O ++ s.extract k (k + 1)).size ≤ 2 * (k + 1) + 1 := by rw [cat_size, hes]; omega
        clear hOl HEx HSn HQ hes hq
        generalize (c.toNat : Int) = x at *
        go_wp2
        go_round
        case rel => exact ⟨k + 1, _, by omega, by go_num, rfl, hOs2, HO⟩
        case measure => simp [intOf]; omega
    · have hz2 : O.size + (⟨#[34]⟩ : ByteArray).size ≤ 9223372036854775807 := by show _ + 1 ≤ _; omega
      have HO : Hid (O ++ ⟨#[34]⟩ = str (qText s.data.toList)) := to_str (by rw [cat_list, hOl.out, List.take_of_length_le (by rw [size_list]; omega)]; rfl)
      go_wp2
      go_ret
      exact ⟨by rw [← HO.out]; rfl, rfl⟩

/-- What PrintParams answers. -/
def ppR (t : List Prm) : List UInt8 × Bool := match prts t with | some x => (x, true) | none => ([], false)
theorem ppR_bad {t : List Prm} {k : Nat} {acc : List UInt8} (h : k < t.length) (hst : prts t = (prts (t.drop k)).map (acc ++ ·)) (ha : prt1 (Oc.nth t k) = none) : ppR t = ([], false) := by
  have h2 := prts_bad h hst ha
  unfold printR at h2
  unfold ppR
  cases hp : prts t with
  | none => rfl
  | some x => rw [hp] at h2; cases h2

set_option maxHeartbeats 4000000 in
theorem rPrintParams_any (v : Value) (t : List Prm) (w : World) (h : RdP v t w) (hl : t.length ≤ 16777216) (hS : sumP t ≤ 8388608) :
    Calls Tryz.prog 27 #[v] w fun e w' => e = .returned (.tuple #[.string (str (ppR t).1), .bool (ppR t).2]) ∧ Below w.heap.size w w' := by
  obtain ⟨a, c, rfl, h⟩ := h
  have HR : Hid (t = [] ∨ ∃ g o, a = some ⟨g, o, none⟩ ∧ t.length ≤ c ∧ ∀ j, j < t.length → w.cell? ⟨g, o + j * 3, none⟩ = some (.string (str (Oc.nth t j).1)) ∧ w.cell? ⟨g, o + j * 3 + 1, none⟩ = some (.string (str (Oc.nth t j).2.1)) ∧ w.cell? ⟨g, o + j * 3 + 2, none⟩ = some (.bool (Oc.nth t j).2.2)) := h
  clear h
  go_enter Tryz.func27, Tryz.ntmps27
  go_wp2
  go_loopw [4, 9] (fun ov i wr => ∃ (k : Nat) (O : ByteArray), k ≤ t.length ∧ i = .int .i64 k ∧ ov = .string O ∧ O.size + 2 * sumP (t.drop k) ≤ 16777216 ∧ Hid (prts t = (prts (t.drop k)).map (O.data.toList ++ ·)) ∧ Hid (Below w.heap.size w wr)) (fun _ i _ => t.length - (intOf i).toNat)
  case atStart => exact ⟨0, ⟨#[]⟩, Nat.zero_le _, rfl, rfl, by simp [ByteArray.size]; omega, (by simp : prts t = (prts (t.drop 0)).map (([] : List UInt8) ++ ·)), Below.refl _ _⟩
  case round =>
    obtain ⟨k, O, hk, rfl, rfl, hacc, hst, hbl⟩ := hrel
    have hsz := hbl.out.size
    by_cases hlt : k < t.length
    · rcases HR.out with h | ⟨g, o, rfl, hc, hcell⟩
      · rw [h] at hlt; simp at hlt
      obtain ⟨c0, c1, c2⟩ := hcell k hlt
      have hg : g < w.heap.size := World.block_lt_of_cell? w _ c0
      have d0 : wr.cell? ⟨g, o + k * 3, none⟩ = some (.string (str (Oc.nth t k).1)) := (hbl.out.cell (p := ⟨g, o + k * 3, none⟩) hg).trans c0
      have d1 : wr.cell? ⟨g, o + k * 3 + 1, none⟩ = some (.string (str (Oc.nth t k).2.1)) := (hbl.out.cell (p := ⟨g, o + k * 3 + 1, none⟩) hg).trans c1
      have d2 : wr.cell? ⟨g, o + k * 3 + 2, none⟩ = some (.bool (Oc.nth t k).2.2) := (hbl.out.cell (p := ⟨g, o + k * 3 + 2, none⟩) hg).trans c2
      clear hcell c0 c1 c2
      have hz := nth_sz t k hlt
      rw [sumP_drop t k hlt] at hacc
      have HStep : Hid (∀ x, prt1 (Oc.nth t k) = some x → prts t = (prts (t.drop (k + 1))).map ((O.data.toList ++ x) ++ ·)) := fun x hx => prts_step hlt hst.out hx
      have HBad : Hid (prt1 (Oc.nth t k) = none → ppR t = ([], false)) := fun hx => ppR_bad hlt hst.out hx
      have HLen : Hid (∀ x, prt1 (Oc.nth t k) = some x → x.length ≤ 2 * szP (Oc.nth t k)) := fun x hx => prt1_len hx
      have hgr : g ≠ wr.heap.size := by omega
      generalize Oc.nth t k = p at *
      obtain ⟨pn, pv, pb⟩ := p
      unfold szP at hz hacc HLen
      dsimp only at hz hacc HLen d0 d1 d2
      have hn := str_size pn
      have hv := str_size pv
      have HT1 : Hid (∀ w, Calls Tryz.prog 42 #[.string (str pn)] w fun e w' => e = .returned (.bool (isTok pn)) ∧ w' = w) := fun w => by
        have := rToken_any (str pn) (by rw [hn]; unfold maxLen; omega) w
        rw [str_list] at this
        exact this
      have HT2 : Hid (∀ w, Calls Tryz.prog 42 #[.string (str pv)] w fun e w' => e = .returned (.bool (isTok pv)) ∧ w' = w) := fun w => by
        have := rToken_any (str pv) (by rw [hv]; unfold maxLen; omega) w
        rw [str_list] at this
        exact this
      have HIn : Hid (∀ w, Calls Tryz.prog 43 #[.string (str pv)] w fun e w' => e = .returned (.bool (isFld pv)) ∧ w' = w) := fun w => by
        have := rinside_any (str pv) (by rw [hv]; unfold maxLen; omega) w
        rw [str_list] at this
        exact this
      have HQu : Hid (∀ w, Calls Tryz.prog 44 #[.string (str pv)] w fun e w' => e = .returned (.string (str (qText pv))) ∧ w' = w) := fun w => by
        have := rquote_any (str pv) (by rw [hv]; omega) w
        rw [str_list] at this
        exact this
      have HL1 : Hid ((str pn).data.toList = pn) := str_list pn
      have HL2 : Hid ((str pv).data.toList = pv) := str_list pv
      have hns : (str pn).size ≤ 8388608 := by omega
      have hvs : (str pv).size ≤ 8388608 := by omega
      have HVe : Hid ((str pv).toList.isEmpty = decide (pv = [])) := (by
        by_cases e : pv = []
        · rw [e]; simpa using (empty_of (s := str []) rfl)
        · rw [decide_eq_false e]
          cases hb : (str pv).toList.isEmpty with
          | false => rfl
          | true =>
            rw [List.isEmpty_iff, ByteArray.toList_eq, str_list] at hb
            exact absurd hb e : _ = _)
      generalize str pn = n at *
      generalize str pv = V at *
      clear hn hv
      have HBa : Hid (Below w.heap.size w (wr.alloc (.cells #[.string n, .string V, .bool pb] 34))) := hbl.out.alloc hsz _
      cases htn : isTok pn with
      | false =>
        have HE : Hid (ppR t = ([], false)) := HBad.out (by unfold prt1; rw [if_pos htn])
        rw [htn] at HT1
        go_wp2_with fail
        refine (HT1.out _).mono ?_
        rintro e w2 ⟨rfl, hw⟩
        rw [hw]
        clear hw
        go_wp2
        go_ret2
        rw [HE.out]
        exact ⟨rfl, HBa.out⟩
      | true =>
        rw [htn] at HT1
        have htn' : ¬ isTok pn = false := by rw [htn]; simp
        cases hf : isFld pv with
        | false =>
          have HE : Hid (ppR t = ([], false)) := HBad.out (by
            unfold prt1
            dsimp only
            rw [if_neg htn']
            have h1 : isTok pv ≠ true := fun e => by rw [isTok_fld e] at hf; cases hf
            have h2 : pv ≠ [] := fun e => by rw [e] at hf; revert hf; decide
            cases pb with
            | false => rw [if_pos rfl, if_neg h2]
            | true => rw [if_neg (by simp), if_neg h1, if_neg (by rw [hf]; simp)])
          rw [hf] at HIn
          go_wp2_with fail
          refine (HT1.out _).mono ?_
          rintro e w2 ⟨rfl, hw⟩
          rw [hw]
          clear hw
          go_wp2_with fail
          refine (HIn.out _).mono ?_
          rintro e w2 ⟨rfl, hw⟩
          rw [hw]
          clear hw
          go_wp2
          go_ret2
          rw [HE.out]
          exact ⟨rfl, HBa.out⟩
        | true =>
          rw [hf] at HIn
          go_wp2_with fail
          refine (HT1.out _).mono ?_
          rintro e w2 ⟨rfl, hw⟩
          rw [hw]
          clear hw w2
          go_wp2_with fail
          refine (HIn.out _).mono ?_
          rintro e w2 ⟨rfl, hw⟩
          rw [hw]
          clear hw w2
          have hz1 : (⟨#[59, 32]⟩ : ByteArray).size + n.size ≤ 9223372036854775807 := by show 2 + _ ≤ _; omega
          have hz2 : O.size + (⟨#[59, 32]⟩ ++ n : ByteArray).size ≤ 9223372036854775807 := by rw [cat_size]; show _ + (2 + _) ≤ _; omega
          cases pb with
          | false =>
            by_cases hv0 : pv = []
            · have hve : V.toList.isEmpty = true := by rw [HVe.out]; simp [hv0]
              have HP : Hid (prt1 (pn, pv, false) = some (59 :: 32 :: pn)) := (by unfold prt1; dsimp only; rw [if_neg htn', if_pos rfl, if_pos hv0] : _ = _)
              have HS2 : Hid (prts t = (prts (t.drop (k + 1))).map ((O ++ (⟨#[59, 32]⟩ ++ n)).data.toList ++ ·)) := (by rw [cat_list, cat_list, HL1.out]; exact HStep.out _ HP.out : _ = _)
              have hle := HLen.out _ HP.out
              have hacc2 : (O ++ (⟨#[59, 32]⟩ ++ n)).size + 2 * sumP (t.drop (k + 1)) ≤ 16777216 := by
                have e : (O ++ (⟨#[59, 32]⟩ ++ n)).size = O.size + (59 :: 32 :: pn : List UInt8).length := by rw [cat_size, cat_size, ← HL1.out]; simp; show 2 + _ = _; omega
                rw [e]
                omega
              clear hst HStep HBad HLen htn htn' hf hle HP
              go_wp2
              go_roundw
              case rel => exact ⟨k + 1, _, by omega, by go_num, rfl, hacc2, HS2, HBa⟩
              case measure => simp [intOf]; omega
            · have hve : V.toList.isEmpty = false := by rw [HVe.out]; simp [hv0]
              have HE : Hid (ppR t = ([], false)) := HBad.out (by unfold prt1; dsimp only; rw [if_neg htn', if_pos rfl, if_neg hv0])
              go_wp2
              go_ret2
              rw [HE.out]
              exact ⟨rfl, HBa.out⟩
          | true =>
            cases htv : isTok pv with
            | true =>
              rw [htv] at HT2
              have HP : Hid (prt1 (pn, pv, true) = some (59 :: 32 :: (pn ++ 61 :: pv))) := (by unfold prt1; dsimp only; rw [if_neg htn', if_neg (by simp), if_pos htv] : _ = _)
              have hz3 : (⟨#[61]⟩ : ByteArray).size + V.size ≤ 9223372036854775807 := by show 1 + _ ≤ _; omega
              have hz4 : (O ++ (⟨#[59, 32]⟩ ++ n) : ByteArray).size + (⟨#[61]⟩ ++ V : ByteArray).size ≤ 9223372036854775807 := by rw [cat_size, cat_size, cat_size]; show _ + (2 + _) + (1 + _) ≤ _; omega
              have HS2 : Hid (prts t = (prts (t.drop (k + 1))).map ((O ++ (⟨#[59, 32]⟩ ++ n) ++ (⟨#[61]⟩ ++ V)).data.toList ++ ·)) := (by
                rw [cat_list, cat_list, cat_list, cat_list, HL1.out, HL2.out]
                have := HStep.out _ HP.out
                simpa using this : _ = _)
              have hle := HLen.out _ HP.out
              have hacc2 : (O ++ (⟨#[59, 32]⟩ ++ n) ++ (⟨#[61]⟩ ++ V)).size + 2 * sumP (t.drop (k + 1)) ≤ 16777216 := by
                have e : (O ++ (⟨#[59, 32]⟩ ++ n) ++ (⟨#[61]⟩ ++ V)).size = O.size + (59 :: 32 :: (pn ++ 61 :: pv) : List UInt8).length := by rw [cat_size, cat_size, cat_size, cat_size, ← HL1.out, ← HL2.out]; simp; show _ + (2 + _) + (1 + _) = _; omega
                rw [e]
                omega
              clear hst HStep HBad HLen htn htn' hf hle HP htv
              go_wp2_with fail
              refine (HT2.out _).mono ?_
              rintro e w2 ⟨rfl, hw⟩
              rw [hw]
              clear hw w2
              go_wp2_with fail
              refine (HT2.out _).mono ?_
              rintro e w2 ⟨rfl, hw⟩
              rw [hw]
              clear hw w2
              go_wp2
              go_roundw
              case rel => exact ⟨k + 1, _, by omega, by go_num, rfl, hacc2, HS2, HBa⟩
              case measure => simp [intOf]; omega
            | false =>
              rw [htv] at HT2
              have HP : Hid (prt1 (pn, pv, true) = some (59 :: 32 :: (pn ++ 61 :: qText pv))) := (by unfold prt1; dsimp only; rw [if_neg htn', if_neg (by simp), if_neg (by rw [htv]; simp), if_pos hf] : _ = _)
              have hql := qText_len pv
              have hqs := str_size (qText pv)
              have HQl : Hid ((str (qText pv)).data.toList = qText pv) := str_list _
              have hvl : pv.length = V.size := by rw [← HL2.out, size_list]
              generalize str (qText pv) = Y at *
              have hYs : Y.size ≤ 16777218 := by omega
              have hz3 : (⟨#[61]⟩ : ByteArray).size + Y.size ≤ 9223372036854775807 := by show 1 + _ ≤ _; omega
              have hz4 : (O ++ (⟨#[59, 32]⟩ ++ n) : ByteArray).size + (⟨#[61]⟩ ++ Y : ByteArray).size ≤ 9223372036854775807 := by rw [cat_size, cat_size, cat_size]; show _ + (2 + _) + (1 + _) ≤ _; omega
              have HS2 : Hid (prts t = (prts (t.drop (k + 1))).map ((O ++ (⟨#[59, 32]⟩ ++ n) ++ (⟨#[61]⟩ ++ Y)).data.toList ++ ·)) := (by
                rw [cat_list, cat_list, cat_list, cat_list, HL1.out, HQl.out]
                have := HStep.out _ HP.out
                simpa using this : _ = _)
              have hle := HLen.out _ HP.out
              have hacc2 : (O ++ (⟨#[59, 32]⟩ ++ n) ++ (⟨#[61]⟩ ++ Y)).size + 2 * sumP (t.drop (k + 1)) ≤ 16777216 := by
                have e : (O ++ (⟨#[59, 32]⟩ ++ n) ++ (⟨#[61]⟩ ++ Y)).size = O.size + (59 :: 32 :: (pn ++ 61 :: qText pv) : List UInt8).length := by rw [cat_size, cat_size, cat_size, cat_size, ← HL1.out, ← HQl.out]; simp; show _ + (2 + _) + (1 + _) = _; omega
                rw [e]
                omega
              clear hst HStep HBad HLen htn htn' hf hle HP htv hql hqs hvl HQl
              go_wp2_with fail
              refine (HT2.out _).mono ?_
              rintro e w2 ⟨rfl, hw⟩
              rw [hw]
              clear hw w2
              go_wp2_with fail
              refine (HT2.out _).mono ?_
              rintro e w2 ⟨rfl, hw⟩
              rw [hw]
              clear hw w2
              go_wp2_with fail
              refine (HQu.out _).mono ?_
              rintro e w2 ⟨rfl, hw⟩
              rw [hw]
              clear hw w2
              go_wp2
              go_roundw
              case rel => exact ⟨k + 1, _, by omega, by go_num, rfl, hacc2, HS2, HBa⟩
              case measure => simp [intOf]; omega
    · have HE : Hid (prts t = some O.data.toList) := (by
        have hkt : k = t.length := by omega
        have := hst.out
        rw [hkt] at this
        exact prts_end this : _ = _)
      have HE2 : Hid (ppR t = (O.data.toList, true)) := (by unfold ppR; rw [HE.out] : _ = _)
      have HO : Hid (str O.data.toList = O) := str_self O
      go_wp2
      go_ret2
      rw [HE2.out]
      dsimp only
      rw [HO.out]
      exact ⟨rfl, hbl.out⟩

set_option maxHeartbeats 2000000 in
theorem rPrintSize_any (n : Int) (v : Value) (t : List Prm) (w : World) (h : RdP v t w) (hl : t.length ≤ 16777216) (hS : sumP t ≤ 8388608) :
    Calls Tryz.prog 11 #[.int .i64 n, v] w fun e w' => e = .returned (.tuple #[.string (str (sizeP n t).1), .int .i64 (sizeP n t).2]) ∧ Below w.heap.size w w' := by
  have HP : Hid (Calls Tryz.prog 27 #[v] w fun e w' => e = .returned (.tuple #[.string (str (ppR t).1), .bool (ppR t).2]) ∧ Below w.heap.size w w') := rPrintParams_any v t w h hl hS
  clear h
  by_cases h0 : n < 0
  · have HE : Hid (sizeP n t = ([], 1)) := (by unfold sizeP; rw [if_pos (.inl h0)] : sizeP n t = _)
    go_enter Tryz.func11, Tryz.ntmps11
    go_wp2
    go_ret2
    rw [HE.out]
    exact ⟨rfl, Below.refl _ _⟩
  by_cases h1 : 1099511627776 < n
  · have HE : Hid (sizeP n t = ([], 1)) := (by unfold sizeP; rw [if_pos (.inr h1)] : sizeP n t = _)
    go_enter Tryz.func11, Tryz.ntmps11
    go_wp2
    go_ret2
    rw [HE.out]
    exact ⟨rfl, Below.refl _ _⟩
  obtain ⟨k, rfl⟩ : ∃ k : Nat, n = (k : Int) := ⟨n.toNat, by omega⟩
  have hk : k ≤ 1099511627776 := by omega
  have HF : Hid (∀ w, Calls Tryz.prog 28 #[.int .i64 (k : Int)] w fun e w' => e = .returned (.string (str (hexd k))) ∧ w' = w) := fun w => rdigits_any k hk w
  have hlen := hexd_len 10 k (Nat.lt_of_le_of_lt hk (by decide))
  cases hp : prts t with
  | none =>
    have HE : Hid (sizeP k t = ([], 15)) := (by unfold sizeP; rw [if_neg (by omega), hp] : sizeP k t = _)
    have HR : Hid (ppR t = ([], false)) := (by unfold ppR; rw [hp] : ppR t = _)
    clear hp
    go_enter Tryz.func11, Tryz.ntmps11
    go_wp2_with fail
    refine HP.out.mono ?_
    rintro e w1 ⟨rfl, hb1⟩
    have HB1 : Hid (Below w.heap.size w w1) := hb1
    clear hb1
    rw [HR.out]
    go_wp2
    go_ret2
    rw [HE.out]
    exact ⟨rfl, HB1.out⟩
  | some x =>
    have HR : Hid (ppR t = (x, true)) := (by unfold ppR; rw [hp] : ppR t = _)
    have hxl : x.length ≤ 16777216 := by
      have := prtsLen hp
      omega
    have HE : Hid (sizeP k t = if 254 < (hexd k ++ x).length then ([], 100) else (hexd k ++ x, 0)) := (by unfold sizeP; rw [if_neg (by omega), hp]; rfl : sizeP k t = _)
    clear hp
    have hs1 := str_size (hexd k)
    have hs2 := str_size x
    have HA : Hid (str (hexd k) ++ str x = str (hexd k ++ x)) := str_app _ _
    have hz : (str (hexd k)).size + (str x).size ≤ 9223372036854775807 := by omega
    have hsz : (str (hexd k) ++ str x).size = (hexd k ++ x).length := by rw [HA.out, str_size]
    generalize hexd k ++ x = L at *
    generalize str (hexd k) = X at *
    go_enter Tryz.func11, Tryz.ntmps11
    go_wp2_with fail
    refine HP.out.mono ?_
    rintro e w1 ⟨rfl, hb1⟩
    have HB1 : Hid (Below w.heap.size w w1) := hb1
    clear hb1
    rw [HR.out]
    dsimp only
    generalize str x = Y at *
    go_wp2_with fail
    refine (HF.out _).mono ?_
    rintro e w2 ⟨rfl, hw⟩
    rw [hw]
    clear hw
    by_cases hbig : 254 < L.length
    · rw [if_pos hbig] at HE
      have hb' : ((254 : Int) < ((X ++ Y).size : Int)) := by rw [hsz]; omega
      go_wp2
      go_ret2
      rw [HE.out]
      exact ⟨rfl, HB1.out⟩
    · rw [if_neg hbig] at HE
      have hb' : ¬ ((254 : Int) < ((X ++ Y).size : Int)) := by rw [hsz]; omega
      go_wp2
      go_ret2
      rw [HE.out]
      exact ⟨by rw [← HA.out]; rfl, HB1.out⟩

end Ck
end Go.Proofs.YtifhbjkgdnemjaaGreatDoor

/-
  A slice of texts that came in, read as texts.
-/
set_option linter.unusedVariables false
set_option linter.unusedSimpArgs false
namespace Go.Proofs.YtifhbjkgdnemjaaGreatDoor
open Go.ChangeShapes Go.WideShapes Go.RowKit
namespace Oc

theorem laidOutT : laidOutB Tryz.prog = true := by kernel_rfl

theorem cells9 : Tryz.prog.cellsOf 9 = 1 := by kernel_rfl

theorem bulk_strs {H : Type} : ∀ ss : List ByteArray, Rows.uptoBulkAll (strs (H := H) ss) = sumL (ss.map (·.data.toList)) + ss.length
  | [] => by simp [strs, sumL, Rows.uptoBulkAll]
  | s :: ss => by
    have ih := bulk_strs (H := H) ss
    simp only [strs, sumL, List.map_cons, List.sum_cons, List.length_cons, Rows.uptoBulkAll, Rows.uptoBulk] at ih ⊢
    omega
def bulkstrings (t : List (List UInt8)) : Nat := t.length + sumL t
set_option maxRecDepth 100000 in
theorem open_texts {H : Type} {enc : TypeId × Value → H} {W : World} {base : Nat} {v : Value} {d : DataW H} {ps : List MemPlace} (hval : Value.okWide Tryz.prog W .any base 83 v)
    (h : DataW.Trod enc Tryz.prog W 0 (fun _ => true) true 83 v d ps) : ∃ t : List (List UInt8), RdS v t W ∧ bulkstrings t ≤ Rows.uptoBulk d := by
  unfold bulkstrings
  obtain ⟨a0, len, cap, rfl⟩ := okWide_slice Tryz.underlying83 hval
  obtain ⟨fuel, hf⟩ := h
  rcases open_strings Tryz.underlying83 Tryz.underlying9 cells9 hf with ⟨hcs, hx⟩ | ⟨a, len', cap', ss, hcs, _, hl, hm, hz, hx, hcell, hsz⟩
  · simp [Value.cells] at hcs
    obtain ⟨rfl, rfl, rfl⟩ := hcs
    exact ⟨[], ⟨none, 0, rfl, .inl rfl⟩, by simp [sumL]⟩
  · simp [Value.cells] at hcs
    obtain ⟨rfl, rfl, rfl⟩ := hcs
    simp only [Prod.mk.injEq] at hx
    obtain ⟨rfl, rfl⟩ := hx
    simp only [if_true] at hz
    have htk : (ss.take len).length = len := by simp; omega
    refine ⟨(ss.take len).map (·.data.toList), ⟨some a, cap, by rw [List.length_map, htk], ?_⟩, ?_⟩
    · by_cases hl0 : len = 0
      · left; subst hl0; simp
      · right
        obtain ⟨g, o, spot⟩ := a
        have hspot : spot = none := by simpa [Addr.add] using World.cell?_spot (hcell 0 (by omega))
        subst hspot
        refine ⟨g, o, rfl, by rw [List.length_map, htk]; exact hl, fun j hj => ?_⟩
        rw [List.length_map, htk] at hj
        have hc := hcell j (by omega)
        have ea : Addr.add ⟨g, o, none⟩ j = ⟨g, o + j, none⟩ := by unfold Addr.add; split <;> simp_all
        rw [ea] at hc
        rw [hc]
        have hj2 : j < ss.length := by omega
        have hj3 : j < (ss.take len).length := by omega
        congr 2
        rw [List.getD_eq_getElem?_getD, List.getElem?_eq_getElem hj2, List.getD_eq_getElem?_getD, List.getElem?_map, List.getElem?_eq_getElem hj3]
        simp [str_self]
    · simp only [Rows.uptoBulk, bulk_strs]
      rw [List.length_map]
      omega
theorem rd_one (w : World) (l : List UInt8) : RdS (.slice (some ⟨w.heap.size, 0, none⟩) 1 1) [l] (w.alloc (.cells #[.string (str l)] 9)) :=
  ⟨some ⟨w.heap.size, 0, none⟩, 1, rfl, .inr ⟨w.heap.size, 0, rfl, Nat.le_refl _, fun j hj => by
    have : j = 0 := by simpa using hj
    subst this
    simp⟩⟩
theorem el_le (t : List (List UInt8)) (k : Nat) (h : k < t.length) : (t.getD k []).length ≤ sumL t := by
  have h1 := sumL_succ t k h
  have h2 := sumL_take t (k + 1)
  omega
theorem trim_nil : trim [] = [] := rfl
theorem lst_of_listR {l : List UInt8} {t : List (List UInt8)} (h : listR l = (t, 0)) : lst [] l = some t := by
  unfold listR at h
  cases e : lst [] l with
  | none => rw [e] at h; cases h
  | some u => rw [e] at h; cases h; rfl
/-- Texts that are elements for themselves come back. -/
theorem lst_join : ∀ t : List (List UInt8), (∀ j, j < t.length → listR (t.getD j []) = ([t.getD j []], 0)) → lst [] (joinF t) = some t
  | [], _ => by simp [joinF, lst_nil, addEl, trim_nil]
  | [x], h => by
    have := h 0 (by simp)
    exact lst_of_listR this
  | x :: y :: r, h => by
    have hx := lst_of_listR (h 0 (by simp))
    have ih := lst_join (y :: r) (fun j hj => h (j + 1) (by simpa using hj))
    show lst [] (x ++ 44 :: (32 :: joinF (y :: r))) = _
    rw [lst_split _ x [] _ _ (Nat.le_refl _) hx, lst_on _ _ 32 (by decide) (by decide), List.nil_append, lst_blank _ _ [] (Nat.le_refl _), ih]
    rfl

end Oc
end Go.Proofs.YtifhbjkgdnemjaaGreatDoor

/-
  A slice of parameters that came in, read as parameters.
-/
set_option linter.unusedVariables false
set_option linter.unusedSimpArgs false
namespace Go.Proofs.YtifhbjkgdnemjaaGreatDoor
open Go.ChangeShapes Go.WideShapes Go.RowKit
namespace Oc

theorem cellsP : Tryz.prog.cellsOf 25 = 3 := by kernel_rfl
theorem cells4 : Tryz.prog.cellsOf 4 = 1 := by kernel_rfl
def bulkparams (t : List Prm) : Nat := sumP t
def prmOf {H : Type} (y : DataW H × List MemPlace) : Prm := match y.1 with | .agg [.lit (.string a), .lit (.string b), .lit (.bool c)] => (a, b, c) | _ => ([], [], false)
theorem bulk_prms {H : Type} : ∀ es : List (DataW H × List MemPlace), (∀ y ∈ es, ∃ a b c, y.1 = .agg [.lit (.string a), .lit (.string b), .lit (.bool c)]) → Rows.uptoBulkAll (es.map (·.1)) = sumP (es.map prmOf)
  | [], _ => by simp [sumP, Rows.uptoBulkAll]
  | y :: es, h => by
    have ih := bulk_prms es (fun z hz => h z (List.mem_cons_of_mem _ hz))
    obtain ⟨a, b, c, e⟩ := h y (by simp)
    simp only [sumP, List.map_cons, List.sum_cons, Rows.uptoBulkAll, ih, e, prmOf, szP, Rows.uptoBulk] at ih ⊢
    omega
/-- The form of a slice of none. -/
def NilP (v : Value) (t : List Prm) : Prop := t = [] → v = .slice none 0 0 ∨ ∃ g c, v = .slice (some g) 0 c
theorem len_sumP : ∀ t : List Prm, t.length ≤ sumP t
  | [] => Nat.zero_le _
  | p :: t => by
    have := len_sumP t
    simp only [sumP, List.map_cons, List.sum_cons, List.length_cons, szP] at this ⊢
    omega
theorem prts_len : ∀ {t : List Prm} {x : List UInt8}, prts t = some x → x.length ≤ 2 * sumP t
  | [], x, h => by cases h; exact Nat.zero_le _
  | p :: r, x, h => by
    unfold prts at h
    cases hp : prt1 p with
    | none => rw [hp] at h; cases h
    | some a =>
      rw [hp] at h
      obtain ⟨b, hb, rfl⟩ := Option.map_eq_some_iff.1 h
      have h1 := prt1_len hp
      have h2 := prts_len hb
      show (a ++ b).length ≤ 2 * (szP p + sumP r)
      rw [List.length_append]
      omega
theorem addr_add (g o k : Nat) : Addr.add ⟨g, o, none⟩ k = ⟨g, o + k, none⟩ := by unfold Addr.add; split <;> simp_all
set_option maxRecDepth 100000 in
theorem open_params {H : Type} {enc : TypeId × Value → H} {W : World} {base : Nat} {v : Value} {d : DataW H} {ps : List MemPlace} (hval : Value.okWide Tryz.prog W .any base 22 v)
    (h : DataW.Trod enc Tryz.prog W 0 (fun _ => true) true 22 v d ps) : ∃ t : List Prm, (RdP v t W ∧ NilP v t) ∧ bulkparams t ≤ Rows.uptoBulk d := by
  obtain ⟨a0, len, cap, rfl⟩ := okWide_slice Tryz.underlying22 hval
  obtain ⟨fuel, hf⟩ := h
  rcases DataW.trod_slice Tryz.underlying22 hf with ⟨hcs, hx⟩ | ⟨a, len', cap', elems, rest, n, _, hcs, hx, hb, hl, hm, hlen, hel, _, _⟩
  · simp [Value.cells] at hcs
    obtain ⟨rfl, rfl, rfl⟩ := hcs
    exact ⟨[], ⟨⟨none, 0, rfl, .inl rfl⟩, fun _ => .inl rfl⟩, by simp [bulkparams, sumP]⟩
  · simp [Value.cells] at hcs
    obtain ⟨rfl, rfl, rfl⟩ := hcs
    simp only [Prod.mk.injEq] at hx
    obtain ⟨rfl, rfl⟩ := hx
    have each : ∀ i y, elems[i]? = some y → ∃ (s1 s2 : ByteArray) (b : Bool), y.1 = .agg [.lit (.string s1.data.toList), .lit (.string s2.data.toList), .lit (.bool b)] ∧ W.cell? ((a.add (i * 3)).add 0) = some (.string s1) ∧ W.cell? ((a.add (i * 3)).add 1) = some (.string s2) ∧ W.cell? ((a.add (i * 3)).add 2) = some (.bool b) := by
      intro i y hy
      have hi : i < len := by rw [← hlen]; exact (List.getElem?_eq_some_iff.1 hy).1
      have h1 := hel i hi
      rw [hy, cellsP, Option.bind_eq_some_iff] at h1
      obtain ⟨cs, hcs, ht⟩ := h1
      obtain ⟨_, hcl, hcc⟩ := World.cells?_some hcs
      obtain ⟨y0, y1, y2, m, rfl, _, t0, t1, t2⟩ := Deep.trod_struct3 Tryz.underlying25 ht
      simp only [cells9, cells4, List.drop_zero] at t0 t1 t2
      obtain ⟨s1, e1, r1, _⟩ := DataW.trod_string Tryz.underlying9 t0
      obtain ⟨s2, e2, r2, _⟩ := DataW.trod_string Tryz.underlying9 t1
      obtain ⟨b, e3, r3⟩ := DataW.trod_bool Tryz.underlying4 t2
      subst r1 r2 r3
      match cs, hcl with
      | [c0, c1, c2], _ =>
        simp at e1 e2 e3
        subst e1 e2 e3
        exact ⟨s1, s2, b, rfl, hcc 0 (by omega), hcc 1 (by omega), hcc 2 (by omega)⟩
    refine ⟨elems.map prmOf, ⟨⟨some a, cap, by rw [List.length_map, hlen], ?_⟩, fun e => .inr ⟨a, cap, by have := congrArg List.length e; rw [List.length_map, hlen] at this; rw [this]; rfl⟩⟩, ?_⟩
    · by_cases hl0 : len = 0
      · left
        have : elems = [] := List.length_eq_zero_iff.1 (by omega)
        rw [this]; rfl
      · right
        obtain ⟨g, o, spot⟩ := a
        have hspot : spot = none := by
          obtain ⟨y, hy⟩ : ∃ y, elems[0]? = some y := ⟨elems[0]'(by omega), List.getElem?_eq_getElem (by omega)⟩
          obtain ⟨s1, s2, b, _, c0, _, _⟩ := each 0 y hy
          simpa [Addr.add] using World.cell?_spot c0
        subst hspot
        refine ⟨g, o, rfl, by rw [List.length_map, hlen]; exact hl, fun j hj => ?_⟩
        rw [List.length_map] at hj
        obtain ⟨s1, s2, b, ey, c0, c1, c2⟩ := each j _ (List.getElem?_eq_getElem hj)
        have en : nth (elems.map prmOf) j = (s1.data.toList, s2.data.toList, b) := by
          unfold nth
          rw [List.getD_eq_getElem?_getD, List.getElem?_map, List.getElem?_eq_getElem hj]
          show prmOf elems[j] = _
          unfold prmOf
          rw [ey]
        rw [addr_add, addr_add] at c0 c1 c2
        rw [en]
        dsimp only
        rw [str_self, str_self]
        exact ⟨c0, c1, c2⟩
    · have hb := bulk_prms elems (fun y hy => by
        obtain ⟨i, hi⟩ := List.getElem?_of_mem hy
        obtain ⟨s1, s2, b, ey, _⟩ := each i y hi
        exact ⟨_, _, _, ey⟩)
      simp only [Rows.uptoBulk, hb, bulkparams]
      omega

end Oc
end Go.Proofs.YtifhbjkgdnemjaaGreatDoor

/-
  Of the laws: params; parameters appended whole.
-/
set_option linter.unusedVariables false
set_option linter.unusedSimpArgs false
set_option maxRecDepth 100000
namespace Go.Proofs.YtifhbjkgdnemjaaGreatDoor
open Go.RowKit Go.Shelf
namespace Ck
open Oc Tg _root_.Go.Proofs.YtifhbjkgdnemjaaGreatDoor.Fd

theorem infoP10 : (Tryz.prog.info? 34).map (fun i => (i.zero, i.size, i.bytes)) = some (some (.agg #[.string ⟨#[]⟩, .string ⟨#[]⟩, .bool false]), 3, 40) := by kernel_rfl
theorem takeP (t : List Prm) (k : Nat) (h : k < t.length) : t.take (k + 1) = t.take k ++ [Oc.nth t k] := by
  rw [List.take_add_one]
  congr 1
  rw [List.getElem?_eq_getElem h]
  unfold Oc.nth
  rw [List.getD_eq_getElem?_getD, List.getElem?_eq_getElem h]
  rfl
theorem encP_get3 : ∀ (u : List Prm) (j : Nat) (z : Value), (encP u)[j]? = some z → j / 3 < u.length ∧ z = (if j % 3 = 0 then .string (str (Oc.nth u (j / 3)).1) else if j % 3 = 1 then .string (str (Oc.nth u (j / 3)).2.1) else .bool (Oc.nth u (j / 3)).2.2)
  | [], j, z, h => by simp [encP] at h
  | p :: u, 0, z, h => by
    have : z = .string (str p.1) := by
      have h2 : (encP (p :: u))[0]? = some (.string (str p.1)) := rfl
      rw [h2] at h
      exact (Option.some.inj h).symm
    exact ⟨by simp, this⟩
  | p :: u, 1, z, h => by
    have : z = .string (str p.2.1) := by
      have h2 : (encP (p :: u))[1]? = some (.string (str p.2.1)) := rfl
      rw [h2] at h
      exact (Option.some.inj h).symm
    exact ⟨by simp, this⟩
  | p :: u, 2, z, h => by
    have : z = .bool p.2.2 := by
      have h2 : (encP (p :: u))[2]? = some (.bool p.2.2) := rfl
      rw [h2] at h
      exact (Option.some.inj h).symm
    exact ⟨by simp, this⟩
  | p :: u, j + 3, z, h => by
    have h2 : (encP (p :: u))[j + 3]? = (encP u)[j]? := rfl
    rw [h2] at h
    obtain ⟨h3, h4⟩ := encP_get3 u j z h
    have e1 : (j + 3) / 3 = j / 3 + 1 := by omega
    have e2 : (j + 3) % 3 = j % 3 := by omega
    rw [e1, e2]
    exact ⟨by simp; omega, h4⟩
theorem encP_len3 : ∀ u : List Prm, (encP u).length = u.length * 3
  | [] => rfl
  | p :: u => by
    have := encP_len3 u
    show (encP u).length + 1 + 1 + 1 = _
    rw [this]
    simp only [List.length_cons]
    omega
/-- A slice of parameters appended to one of the call's own. -/
theorem wp_appPs {ops : Array Oper} {rest : List Oper} {o : Oper} {a : Act} {W : World} {Q : Exit → Act → World → Prop} (T S : Nat) (hinfo : (Tryz.prog.info? T).map (fun i => (i.zero, i.size, i.bytes)) = some (some (.agg #[.string ⟨#[]⟩, .string ⟨#[]⟩, .bool false]), 3, 40))
    (hund : Tryz.prog.underlying S = some (.slice T)) (hw : Region.wanted o (yielded ops a.tmps) = true) (s x : Operand)
    (ho : o.op = .call { callee := .builtin .append, args := #[s, x], argTypes := #[S, S] }) (B : Nat) (v y : Value) (t u : List Prm)
    (hs : a.eval s = v) (hown : OwnP T B v t W) (hx : a.eval x = y) (hy : RdP y u W) (hn : NilP y u) (hlen : t.length + u.length ≤ 2147483648) (hB : B ≤ W.heap.size)
    (h : ∀ v' w', OwnP T B v' (t ++ u) w' → Below B W w' → wpList Tryz.prog ops Q rest (a.put o.dst v') w') : wpList Tryz.prog ops Q (o :: rest) a W := by
  obtain ⟨i0, hi, hz0, hz1, hz2⟩ := info_parts hinfo
  refine wantedF hw ?_
  have own' : ∀ (ad : Addr) (c : Nat), y = .slice (some ad) u.length c → (∀ j z, (encP u)[j]? = some z → W.cell? (ad.add j) = some z) → o.wp Tryz.prog a W (wpList Tryz.prog ops Q rest) Q := by
    intro ad c ey hcell
    refine wp_append_own W s x S ho B T i0 (.agg #[.string ⟨#[]⟩, .string ⟨#[]⟩, .bool false]) 3 40 hund hi hz0 hz1 hz2 rfl (by decide) v t.length _ hs hown ad u.length c (encP u) (hx.trans ey) (encP_len3 u) hcell ?_ ?_ ?_ hB ?_
    · intro z hz
      obtain ⟨j, hj⟩ := List.getElem?_of_mem hz
      obtain ⟨_, e⟩ := encP_get3 u j z hj
      rw [e]
      split
      · rfl
      · split <;> rfl
    · unfold maxLen; omega
    · omega
    · intro v' w' h1 h2 _
      refine h v' w' ?_ ((Below.refl B W).grown h2 hB (fun k hk => (World.ownsRow.lt hown k hk).1))
      unfold OwnP
      rw [List.length_append, show encP (t ++ u) = encP t ++ encP u by unfold encP; rw [List.flatMap_append]]
      exact h1
  obtain ⟨a2, c2, rfl, hr⟩ := hy
  by_cases hu : u = []
  · subst hu
    rcases hn rfl with e | ⟨g, c, e⟩
    · have hrun := run_append_owned_none (P := Tryz.prog) (w := W) B S o.type T i0 3 hund hi v t.length _ hown
      have hx' : a.eval x = .slice none 0 0 := hx.trans e
      unfold Oper.wp
      simp [execOp, ho, resolve, invoke, builtin, hs, hx', hrun, Result.andThen]
      exact h v W (by simpa using hown) (Below.refl _ _)
    · exact own' g c e (fun j z hj => by simp [encP] at hj)
  · rcases hr with hr | ⟨g, o', rfl, hc, hcell⟩
    · exact absurd hr hu
    · refine own' ⟨g, o', none⟩ c2 rfl (fun j z hj => ?_)
      have ea : Addr.add ⟨g, o', none⟩ j = ⟨g, o' + j, none⟩ := by unfold Addr.add; split <;> simp_all
      rw [ea]
      obtain ⟨hq, e⟩ := encP_get3 u j z hj
      obtain ⟨h0, h1, h2⟩ := hcell (j / 3) hq
      rw [e]
      by_cases hm : j % 3 = 0
      · rw [if_pos hm]
        rw [show o' + j / 3 * 3 = o' + j by omega] at h0
        exact h0
      · rw [if_neg hm]
        by_cases hm1 : j % 3 = 1
        · rw [if_pos hm1]
          rw [show o' + j / 3 * 3 + 1 = o' + j by omega] at h1
          exact h1
        · rw [if_neg hm1]
          rw [show o' + j / 3 * 3 + 2 = o' + j by omega] at h2
          exact h2
theorem rdP_get {a : Option Addr} {n c k : Nat} {t : List Prm} {w : World} (h : RdP (.slice a n c) t w) (hk : k < t.length) : ∃ g o, a = some ⟨g, o, none⟩ ∧ t.length ≤ c ∧ w.cell? ⟨g, o + k * 3, none⟩ = some (.string (str (Oc.nth t k).1)) ∧ w.cell? ⟨g, o + k * 3 + 1, none⟩ = some (.string (str (Oc.nth t k).2.1)) ∧ w.cell? ⟨g, o + k * 3 + 2, none⟩ = some (.bool (Oc.nth t k).2.2) := by
  obtain ⟨a', c', e, h⟩ := h
  injection e with e1 e2 e3
  subst e1 e3
  rcases h with h | ⟨g, o, rfl, hc, hcell⟩
  · rw [h] at hk; simp at hk
  · exact ⟨g, o, rfl, hc, hcell k hk⟩
theorem rdP_front {a : Option Addr} {n c : Nat} {t u : List Prm} {w : World} (h : RdP (.slice a n c) (t ++ u) w) : RdP (.slice a t.length c) t w := by
  obtain ⟨a', c', e, h⟩ := h
  injection e with e1 e2 e3
  subst e1 e3
  refine ⟨a, c, rfl, ?_⟩
  rcases h with h | ⟨g, o, rfl, hc, hcell⟩
  · exact .inl (List.append_eq_nil_iff.1 h).1
  · refine .inr ⟨g, o, rfl, by rw [List.length_append] at hc; omega, fun j hj => ?_⟩
    have := hcell j (by rw [List.length_append]; omega)
    rw [show Oc.nth (t ++ u) j = Oc.nth t j by unfold Oc.nth; rw [List.getD_eq_getElem?_getD, List.getD_eq_getElem?_getD, List.getElem?_append_left hj]] at this
    exact this
theorem ownP_form {T B : Nat} {v : Value} {t : List Prm} {w : World} (h : OwnP T B v t w) : ∃ a c, v = .slice a t.length c := by
  rcases h.2 with ⟨rfl, h0⟩ | ⟨g, cap, cur, rfl, _⟩
  · exact ⟨none, 0, by rw [h0]⟩
  · exact ⟨_, _, rfl⟩

set_option maxHeartbeats 2000000 in
theorem params_any (v : Value) (t : List Prm) (w : World) (h : RdP v t w) (hl : t.length ≤ 16777216) :
    Calls Tryz.prog 12 #[v] w fun e w' => ∃ u, e = .returned u ∧ OwnP 34 w.heap.size u t w' ∧ Below w.heap.size w w' := by
  have HR : Hid (RdP v t w) := h
  obtain ⟨a, c, rfl, _⟩ := h
  go_enter Tryz.func12, Tryz.ntmps12
  go_wp2
  go_loopw [3, 8] (fun ov i wr => ∃ k : Nat, k ≤ t.length ∧ i = .int .i64 k ∧ Hid (OwnP 34 w.heap.size ov (t.take k) wr) ∧ Hid (Below w.heap.size w wr)) (fun _ i _ => t.length - (intOf i).toNat)
  case atStart => exact ⟨0, Nat.zero_le _, rfl, ownP_nil _ _ _, Below.refl _ _⟩
  case round =>
    obtain ⟨k, hk, rfl, hown, hbl⟩ := hrel
    have hsz := hbl.out.size
    by_cases hlt : k < t.length
    · obtain ⟨g, o, rfl, hgc, p0, p1, p2⟩ := rdP_get (HR.out.below hbl.out) hlt
      have HTk : Hid (t.take (k + 1) = t.take k ++ [Oc.nth t k]) := takeP t k hlt
      have hlk : (t.take k).length + 1 ≤ 2147483648 := by rw [List.length_take]; omega
      generalize Oc.nth t k = p at *
      obtain ⟨pn, pv, pb⟩ := p
      dsimp only at p0 p1 p2
      generalize hn : str pn = N at p0
      generalize hv : str pv = V at p1
      have HN : Hid (N = str pn) := hn.symm
      have HV : Hid (V = str pv) := hv.symm
      have hb1 : Below wr.heap.size wr (wr.alloc (.cells #[.string N, .string V, .bool pb] 25)) := (Below.refl _ wr).alloc (Nat.le_refl _) _
      have HO1 : Hid (OwnP 34 w.heap.size _ (t.take k) (wr.alloc (.cells #[.string N, .string V, .bool pb] 25))) := hown.out.below hb1
      have HB1 : Hid (Below w.heap.size w (wr.alloc (.cells #[.string N, .string V, .bool pb] 25))) := bel_trans hbl.out hb1
      have hs1 : w.heap.size ≤ (wr.alloc (.cells #[.string N, .string V, .bool pb] 25)).heap.size := HB1.out.size
      clear hn hv hb1
      go_wp2_with (at_builtin; go_must (refine wp_appP 34 31 infoP10 Tryz.underlying31 rfl (.tmp 12) (.tmp 20) rfl w.heap.size _ (t.take k) _ (pn, pv, pb) _ _ HN.out HV.out _ rfl rfl HO1.out _ rfl (by simp) hlk hs1 ?_); intro v6 w6 hown6 hb6)
      have HO6 : Hid (OwnP 34 w.heap.size v6 (t.take (k + 1)) w6) := (by rw [HTk.out]; exact hown6 : OwnP _ _ v6 (t.take (k + 1)) w6)
      have HB6 : Hid (Below w.heap.size w w6) := HB1.out.trans hb6
      clear hown6 hb6
      go_roundw
      case rel => exact ⟨k + 1, by omega, by go_num, HO6, HB6⟩
      case measure => simp [intOf]; omega
    · obtain rfl : k = t.length := by omega
      rw [List.take_length] at hown
      go_wp2
      go_ret
      exact ⟨_, rfl, hown.out, hbl.out⟩

end Ck
end Go.Proofs.YtifhbjkgdnemjaaGreatDoor

/-
  ChunkPrints.
-/
set_option linter.unusedVariables false
set_option linter.unusedSimpArgs false
set_option maxRecDepth 100000
namespace Go.Proofs.YtifhbjkgdnemjaaGreatDoor
open Go.RowKit Go.Shelf
namespace Ck
open Oc Tg _root_.Go.Proofs.YtifhbjkgdnemjaaGreatDoor.Fd

/-- One parameter of spare room. -/
def spareP : List Prm := [([115, 112, 97, 114, 101], [], false)]
theorem rdP_one (w : World) (T : Nat) : RdP (.slice (some ⟨w.heap.size, 0, none⟩) 1 1) spareP (w.alloc (.cells #[.string ⟨#[115, 112, 97, 114, 101]⟩, .string ⟨#[]⟩, .bool false] T)) := by
  refine ⟨_, _, rfl, .inr ⟨w.heap.size, 0, rfl, by simp [spareP], fun j hj => ?_⟩⟩
  have hj2 : j < 1 := by simpa [spareP] using hj
  match j, hj2 with
  | 0, _ => exact ⟨by simp [Oc.nth, spareP, str], by simp [Oc.nth, spareP, str], by simp [Oc.nth, spareP]⟩

theorem hcap {T B n c : Nat} {a : Option Addr} {t : List Prm} {w : World} {p : Prm} (h : OwnP T B (.slice a n c) (t ++ [p]) w) : t.length ≤ c ∧ ∃ g o, a = some ⟨g, o, none⟩ := by
  obtain ⟨g, o, e, hc, _⟩ := rdP_get (k := t.length) h.rd (by simp)
  rw [List.length_append] at hc
  exact ⟨by omega, g, o, e⟩

set_option maxHeartbeats 8000000 in
theorem walk_ChunkPrints (n : Int) (hn : -9223372036854775808 ≤ n ∧ n ≤ 9223372036854775807) (v1 : Value) (t : List Prm) (ht : bulkparams t ≤ 1048576) (w : World) (h1 : RdP v1 t w ∧ NilP v1 t) (he : Env w) (td : Deb w) :
    Calls Tryz.prog 3 #[.int .i64 n, v1] w fun e w' => e = .returned (.bool true) ∧ Below w.heap.size w w' := by
  unfold bulkparams at ht
  have hlen := len_sumP t
  have HA : Hid (Calls Tryz.prog 9 #[] w fun e w' => e = .returned (.bool true) ∧ Below w.heap.size w w') := awake_any w he
  have HEn : Hid (Env w) := he
  have HD : Hid (Deb w) := td
  have HR : Hid (RdP v1 t w) := h1.1
  have HN : Hid (NilP v1 t) := h1.2
  obtain ⟨a1, c1, rfl, _⟩ := h1.1
  have HTl : Hid (t.length ≤ 16777216) := (by omega : _ ≤ _)
  have HTs : Hid (sumP t ≤ 8388608) := (by omega : _ ≤ _)
  clear he td h1
  go_enter Tryz.func3, Tryz.ntmps3
  go_wp2_with fail
  refine HA.out.mono ?_
  rintro e w1 ⟨rfl, hb1⟩
  have HB1 : Hid (SB w w1) := hb1
  have hs1 := hb1.size
  have HO1 : Hid (OwnP 25 w.heap.size (.slice (some ⟨w1.heap.size, 0, none⟩) 0 0) [] (w1.alloc (.cells #[] 25))) := ownP_empty 25 w1 hs1
  have HI1 : Hid (RdP (.slice a1 t.length c1) t (w1.alloc (.cells #[] 25))) := HR.out.below (SB.alloc HB1.out _)
  have HS1 : Hid (w.heap.size ≤ (w1.alloc (.cells #[] 25)).heap.size) := (SB.alloc HB1.out _).size
  have HL1 : Hid (([] : List Prm).length + t.length ≤ 2147483648) := (by simp; omega : _ ≤ _)
  have HL2 : Hid (t.length + 1 ≤ 2147483648) := (by omega : _ ≤ _)
  clear hb1
  go_wp2_with (first
    | (at_builtin; refine wp_appPs 25 22 infoP Tryz.underlying22 rfl (.tmp 12) (.tmp 13) rfl w.heap.size _ _ [] t rfl HO1.out rfl HI1.out HN.out HL1.out HS1.out ?_; intro v3 w3 o3 b3; have HB3 : Hid (SB w w3) := Below.trans (SB.alloc HB1.out _) b3; have HO3 : Hid (OwnP 25 w.heap.size v3 t w3) := o3; have hs3 : w.heap.size ≤ w3.heap.size := HB3.out.size; clear o3 b3)
    | (at_builtin; go_must (refine wp_appP 25 22 infoP Tryz.underlying22 rfl (.tmp 14) (.tmp 16) rfl w.heap.size _ t w3 ([115, 112, 97, 114, 101], [], false) _ _ rfl rfl _ rfl rfl HO3.out _ rfl rfl HL2.out hs3 ?_); intro v4 w4 o4 b4; have HB4 : Hid (SB w w4) := Below.trans HB3.out b4; have HO4 : Hid (OwnP 25 w.heap.size v4 (t ++ spareP) w4) := o4; obtain ⟨a4, c4, e4⟩ := ownP_form o4; rw [List.length_append, show ([(([115, 112, 97, 114, 101] : List UInt8), ([] : List UInt8), false)] : List Prm).length = 1 from rfl] at e4; subst e4; have hc4 := hcap o4; clear o4 b4))
  obtain ⟨hc4', g4, o4', rfl⟩ := hc4
  have hc4i : ((t.length : Nat) : Int) ≤ (c4 : Int) := by omega
  have hc0 : (0 : Int) ≤ (t.length : Int) := by omega
  have HR4 : Hid (RdP (.slice (some ⟨g4, o4', none⟩) (t.length + 1) c4) (t ++ spareP) w4) := HO4.out.rd
  have HPr : Hid (Calls Tryz.prog 10 #[.int .i64 n, .slice (some ⟨g4, o4', none⟩) t.length c4] w4 fun e w' => e = .returned (.tuple #[.string (str (sizeP n t).1), .int .i64 (sizeP n t).2]) ∧ Below w4.heap.size w4 w') := PrintSize_any n _ t w4 (rdP_front HR4.out) HTl.out HTs.out (HEn.out.below HB4.out).1 (HD.out.below HB4.out)
  have HRp : Hid (∀ W v, RdP v t W → Calls Tryz.prog 11 #[.int .i64 n, v] W fun e w' => e = .returned (.tuple #[.string (str (sizeP n t).1), .int .i64 (sizeP n t).2]) ∧ Below W.heap.size W w') := fun W v hv => rPrintSize_any n v t W hv HTl.out HTs.out
  generalize str (sizeP n t).1 = X at *
  generalize (sizeP n t).2 = E at *
  clear HO1 HI1 HS1 HO3 HO4
  refine HPr.out.mono ?_
  rintro e w7 ⟨rfl, hb7⟩
  have HBn : Hid (SB w4 w7) := hb7
  have HB7 : Hid (SB w w7) := bel_trans HB4.out hb7
  clear hb7
  go_wp2_with fail
  refine (params_any _ t w7 (HR.out.below HB7.out) HTl.out).mono ?_
  rintro e w8 ⟨v8, rfl, o8, hb8⟩
  have HB8 : Hid (SB w w8) := bel_trans HB7.out hb8
  have HBn : Hid (SB w4 w8) := SB.on HBn.out hb8
  have HR8 : Hid (RdP v8 t w8) := o8.rd
  clear o8 hb8
  obtain ⟨a8, c8, rfl, _⟩ := HR8.out
  go_wp2_with fail
  refine (HRp.out _ _ HR8.out).mono ?_
  rintro e w9 ⟨rfl, hb9⟩
  have HB9 : Hid (SB w w9) := bel_trans HB8.out hb9
  have HBn : Hid (SB w4 w9) := SB.on HBn.out hb9
  have HBn9 : Hid (SB w4 w9) := HBn
  clear hb9
  have hxx : (X.toList == X.toList) = true := by simp
  have hee : (E == E) = true := by simp
  go_wp2_with fail
  refine (params_any _ t w9 (HR.out.below HB9.out) HTl.out).mono ?_
  rintro e w10 ⟨v10, rfl, o10, hb10⟩
  have HB10 : Hid (SB w w10) := bel_trans HB9.out hb10
  have HBn : Hid (SB w4 w10) := SB.on HBn.out hb10
  have HO10 : Hid (OwnP 34 w9.heap.size v10 t (w10.alloc (.cells #[.string ⟨#[115, 112, 97, 114, 101]⟩, .string ⟨#[]⟩, .bool false] 34))) := OwnP.below o10 ((Below.refl _ w10).alloc (Nat.le_refl _) _)
  have HI10 : Hid (RdP (.slice (some ⟨w10.heap.size, 0, none⟩) 1 1) spareP (w10.alloc (.cells #[.string ⟨#[115, 112, 97, 114, 101]⟩, .string ⟨#[]⟩, .bool false] 34))) := rdP_one w10 _
  have HS10 : Hid (w9.heap.size ≤ (w10.alloc (.cells #[.string ⟨#[115, 112, 97, 114, 101]⟩, .string ⟨#[]⟩, .bool false] 34)).heap.size) := (SB.alloc (show SB w9 w10 from hb10) _).size
  have HS9 : Hid (w4.heap.size ≤ w9.heap.size) := HBn9.out.size
  have HL10 : Hid (t.length + spareP.length ≤ 2147483648) := (by simp [spareP]; omega : _ ≤ _)
  have HNs : Hid (NilP (.slice (some ⟨w10.heap.size, 0, none⟩) 1 1) spareP) := (show NilP (.slice (some ⟨w10.heap.size, 0, none⟩) 1 1) spareP from fun e => absurd e (by simp [spareP]))
  clear o10 hb10
  go_wp2_with (at_builtin; go_must (refine wp_appPs 34 31 infoP10 Tryz.underlying31 rfl (.tmp 45) (.tmp 47) rfl w9.heap.size _ _ t spareP rfl HO10.out rfl HI10.out HNs.out HL10.out HS10.out ?_); intro v11 w11 o11 b11; have HBm : Hid (SB w4 w11) := Below.trans (SB.alloc HBn.out _) (b11.mono HS9.out); have HR11 : Hid (RdP v11 (t ++ spareP) w11) := o11.rd; obtain ⟨a11, c11, e11⟩ := ownP_form o11; rw [List.length_append, show spareP.length = 1 from rfl] at e11; subst e11; clear o11 b11)
  have HF11 : Hid (RdP (.slice (some ⟨g4, o4', none⟩) (t.length + 1) c4) (t ++ spareP) w11) := HR4.out.below HBm.out
  refine (sameParams_any _ _ (t ++ spareP) w11 HF11.out HR11.out (by rw [List.length_append]; simp [spareP]; omega)).mono ?_
  rintro e w12 ⟨rfl, q, hw12⟩
  have HW : Hid (SB w w12) := (by rw [hw12]; exact bel_drewN (bel_trans HB4.out HBm.out) q : SB w w12)
  clear hw12
  go_wp2
  go_ret
  exact ⟨rfl, HW.out⟩

end Ck
end Go.Proofs.YtifhbjkgdnemjaaGreatDoor
