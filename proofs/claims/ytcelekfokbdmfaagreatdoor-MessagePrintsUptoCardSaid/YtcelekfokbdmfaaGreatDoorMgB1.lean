/- Several texts as one. -/
import Derived.Test.YtcelekfokbdmfaaGreatDoorMgF
import Derived.Test.YtcelekfokbdmfaaGreatDoorMgD
import Derived.Test.YtcelekfokbdmfaaGreatDoorMgA1
import Derived.Test.YtcelekfokbdmfaaGreatDoorMgL
import Derived.Test.YtcelekfokbdmfaaGreatDoorMgM
import Derived.Lib.Join
import Derived.BigGuard
import Derived.Test.YtcelekfokbdmfaaGreatDoorMgZ
import Derived.Test.YtcelekfokbdmfaaGreatDoorMgN
import Derived.Test.YtcelekfokbdmfaaGreatDoorMgV
/-
  A strings.Builder of one's own: a text written; room made; strings.Join.
-/
set_option linter.unusedVariables false
set_option linter.unusedSimpArgs false
namespace Go.Proofs.YtcelekfokbdmfaaGreatDoor
open Go.RowKit Go.Shelf
namespace Oc

set_option maxHeartbeats 2000000 in
set_option maxRecDepth 100000 in
theorem WriteString_any (B b : Nat) (bs : List Value) (s : ByteArray) (w : World) (h : Lib.IsBuilder 103 5 B b bs w) (hlen : bs.length + s.size ≤ 140737488355328) (hBw : B ≤ w.heap.size) :
    Calls Tryz.prog 61 #[.pointer (some ⟨b, 0, none⟩), .string s] w fun e w' => e = .returned (.tuple #[.int .i64 s.size, .nilIface]) ∧ (Lib.BuilderAt 103 5 B b (.pointer (some ⟨b, 0, none⟩)) (bs ++ Lib.strCells s) w' ∧ Below B w w') := by
  obtain ⟨i0, hi, hz0, hz1, hz2⟩ := info_parts infoByte
  go_enter Tryz.func61, Tryz.ntmps61
  go_wp2_with fail
  refine (copyCheck_any B b bs _ h).mono ?_
  rintro e w1 ⟨rfl, h1, hb1, _⟩
  obtain ⟨hB, v, hbk, hown, hne⟩ := h1
  have c0 : w1.cell? ⟨b, 0, none⟩ = some (.pointer (some ⟨b, 0, none⟩)) := by rw [Lib.cell_of_heap hbk]; rfl
  have c1 : w1.cell? ⟨b, 1, none⟩ = some v := by rw [Lib.cell_of_heap hbk]; rfl
  have hs1 := hb1.size
  go_wp2_with (at_builtin; refine Lib.wpList_append_own_string _ rfl _ _ 81 9 rfl B 5 i0 Tryz.underlying81 Tryz.underlying9 hi hz0 hz1 hz2 _ _ _ rfl hown s rfl ?c3 ?c4 ?c5 ?_)
  case c3 => unfold maxLen; omega
  case c4 => omega
  case c5 => omega
  intro v' w2 hown' hgrow _
  have hlt : b < w1.heap.size := by
    rcases Nat.lt_or_ge b w1.heap.size with h' | h'
    · exact h'
    · simp [Array.getElem?_eq_none h'] at hbk
  have hb2 : w2.heap[b]? = some (.cells #[.pointer (some ⟨b, 0, none⟩), v] 103 (0, 0)) := by
    rw [hgrow.block b hlt (fun e => hne e.symm)]
    exact hbk
  have d0 : w2.cell? ⟨b, 0, none⟩ = some (.pointer (some ⟨b, 0, none⟩)) := by rw [Lib.cell_of_heap hb2]; rfl
  have d1 : w2.cell? ⟨b, 1, none⟩ = some v := by rw [Lib.cell_of_heap hb2]; rfl
  have f1 : w2.frozen? ⟨b, 1, none⟩ = false := Lib.frozen_of_heap hb2 1
  obtain ⟨ao, n', cap, rfl⟩ : ∃ ao n' cap, v' = .slice ao n' cap := by
    rcases hown'.2 with ⟨hv, _⟩ | ⟨g, cap, cur, hv, _⟩
    · exact ⟨_, _, _, hv⟩
    · exact ⟨_, _, _, hv⟩
  go_wp2
  go_ret2
  refine ⟨rfl, ?_, ?_⟩
  · exact Lib.BuilderAt.put (T := 103) (e := 5) hB hb2 (bs' := bs ++ Lib.strCells s) (by simpa [Lib.strCells_length] using hown') (by decide)
  · exact (hb1.grown hgrow (by omega) (fun k hk => (hown.lt k hk).1)).setCell (p := ⟨b, 1, none⟩) hB _

end Oc
end Go.Proofs.YtcelekfokbdmfaaGreatDoor

/-
  octet.printParam, octet.Print.
-/
set_option linter.unusedVariables false
set_option linter.unusedSimpArgs false
namespace Go.Proofs.YtcelekfokbdmfaaGreatDoor
open Go.RowKit Go.Shelf
namespace Oc

def prtR (p : Prm) : List UInt8 × Int := match prt1 p with | some x => (x, 0) | none => ([], 15)
theorem cat_list (a b : ByteArray) : (a ++ b).data.toList = a.data.toList ++ b.data.toList := by simp
theorem cat_size (a b : ByteArray) : (a ++ b).size = a.size + b.size := by rw [← size_list, cat_list, List.length_append, size_list, size_list]
theorem to_str {s : ByteArray} {l : List UInt8} (h : s.data.toList = l) : s = str l := by rw [← h, str_self]

set_option maxRecDepth 100000 in
set_option maxHeartbeats 2000000 in
theorem printParam_any (n v : ByteArray) (b : Bool) (hn : n.size ≤ 16777216) (hv : v.size ≤ 16777216) (w : World) (t : Tab w) :
    Calls Tryz.prog 149 #[.agg #[.string n, .string v, .bool b]] w fun e w' => e = .returned (.tuple #[.string (str (prtR (n.data.toList, v.data.toList, b)).1), .int .i64 (prtR (n.data.toList, v.data.toList, b)).2]) ∧ Below w.heap.size w w' := by
  have b0 : Below w.heap.size w (w.alloc (.cells #[.string n, .string v, .bool b] 181)) := (Below.refl _ w).alloc (Nat.le_refl _) _
  have HT1 : Hid (Tab (w.alloc (.cells #[.string n, .string v, .bool b] 181))) := t.below b0 (Nat.le_refl _)
  have HB0 : Hid (Below w.heap.size w (w.alloc (.cells #[.string n, .string v, .bool b] 181))) := b0
  have HN : Hid (n.size ≤ maxLen) := (by unfold maxLen; omega : n.size ≤ maxLen)
  have HV : Hid (v.size ≤ maxLen) := (by unfold maxLen; omega : v.size ≤ maxLen)
  clear b0 t
  go_enter Tryz.func149, Tryz.ntmps149
  go_wp2_with fail
  refine (IsToken_any n HN.out _ HT1.out).mono ?_
  rintro e w1 ⟨rfl, hb1⟩
  have k0 : w1.cell? ⟨w.heap.size, 0, none⟩ = some (.string n) := (hb1.cell (p := ⟨w.heap.size, 0, none⟩) (by simp)).trans (by simp)
  have k1 : w1.cell? ⟨w.heap.size, 1, none⟩ = some (.string v) := (hb1.cell (p := ⟨w.heap.size, 1, none⟩) (by simp)).trans (by simp)
  have k2 : w1.cell? ⟨w.heap.size, 2, none⟩ = some (.bool b) := (hb1.cell (p := ⟨w.heap.size, 2, none⟩) (by simp)).trans (by simp)
  have hsz : w.heap.size < w1.heap.size := by have := hb1.size; simp at this; omega
  have HB1 : Hid (Below w.heap.size w w1) := bel_trans HB0.out hb1
  have HTw : Hid (Tab w1) := HT1.out.below hb1 (Nat.le_refl _)
  clear hb1
  cases htn : isTok n.data.toList with
  | false =>
    have HR : Hid (prtR (n.data.toList, v.data.toList, b) = ([], 15)) := (by unfold prtR prt1; rw [if_pos htn] : prtR _ = _)
    go_wp2
    go_ret2
    rw [HR.out]
    exact ⟨rfl, HB1.out⟩
  | true =>
    have htn' : ¬ isTok n.data.toList = false := by rw [htn]; simp
    cases b with
    | false =>
      by_cases hv0 : v.size = 0
      · have hve := empty_of hv0
        have hvl : v.data.toList = [] := List.length_eq_zero_iff.1 ((size_list v).trans hv0)
        have HR : Hid (prtR (n.data.toList, v.data.toList, false) = (59 :: 32 :: n.data.toList, 0)) := (by unfold prtR prt1; rw [if_neg htn', if_pos rfl, if_pos hvl] : prtR _ = _)
        have hz1 : (⟨#[59, 32]⟩ : ByteArray).size + n.size ≤ 9223372036854775807 := by show 2 + n.size ≤ _; omega
        have HC : Hid ((⟨#[59, 32]⟩ : ByteArray) ++ n = str (59 :: 32 :: n.data.toList)) := to_str (by rw [cat_list]; rfl)
        clear hvl htn htn'
        go_wp2
        go_ret2
        rw [HR.out]
        exact ⟨by rw [← HC.out]; rfl, HB1.out⟩
      · have hve := nonempty_of hv0
        have hvl : ¬ v.data.toList = [] := list_ne hv0
        have HR : Hid (prtR (n.data.toList, v.data.toList, false) = ([], 15)) := (by unfold prtR prt1; rw [if_neg htn', if_pos rfl, if_neg hvl] : prtR _ = _)
        clear hvl htn htn'
        go_wp2
        go_ret2
        rw [HR.out]
        exact ⟨rfl, HB1.out⟩
    | true =>
      have hne : ¬ (true = false) := by simp
      go_wp2_with fail
      refine (IsToken_any v HV.out _ HTw.out).mono ?_
      rintro e w2 ⟨rfl, hb2⟩
      have l0 : w2.cell? ⟨w.heap.size, 0, none⟩ = some (.string n) := (hb2.cell (p := ⟨w.heap.size, 0, none⟩) hsz).trans k0
      have l1 : w2.cell? ⟨w.heap.size, 1, none⟩ = some (.string v) := (hb2.cell (p := ⟨w.heap.size, 1, none⟩) hsz).trans k1
      have hsz2 : w.heap.size < w2.heap.size := by have := hb2.size; omega
      have HB2 : Hid (Below w.heap.size w w2) := bel_trans HB1.out hb2
      clear hb2 k0 k1 k2 HB1
      cases htv : isTok v.data.toList with
      | true =>
        have HR : Hid (prtR (n.data.toList, v.data.toList, true) = (59 :: 32 :: (n.data.toList ++ 61 :: v.data.toList), 0)) := (by unfold prtR prt1; rw [if_neg htn', if_neg hne, if_pos htv] : prtR _ = _)
        have hz1 : (⟨#[59, 32]⟩ : ByteArray).size + n.size ≤ 9223372036854775807 := by show 2 + n.size ≤ _; omega
        have hz2 : ((⟨#[59, 32]⟩ : ByteArray) ++ n).size + (⟨#[61]⟩ : ByteArray).size ≤ 9223372036854775807 := by rw [cat_size]; show 2 + n.size + 1 ≤ _; omega
        have hz3 : ((⟨#[59, 32]⟩ : ByteArray) ++ n ++ ⟨#[61]⟩).size + v.size ≤ 9223372036854775807 := by rw [cat_size, cat_size]; show 2 + n.size + 1 + v.size ≤ _; omega
        have HC : Hid ((⟨#[59, 32]⟩ : ByteArray) ++ n ++ ⟨#[61]⟩ ++ v = str (59 :: 32 :: (n.data.toList ++ 61 :: v.data.toList))) := to_str (by rw [cat_list, cat_list, cat_list]; simp)
        clear htn htn' htv hne
        go_wp2
        go_ret2
        rw [HR.out]
        exact ⟨by rw [← HC.out]; rfl, HB2.out⟩
      | false =>
        have htv' : ¬ isTok v.data.toList = true := by rw [htv]; simp
        go_wp2_with fail
        refine (Quote_any v hv _).mono ?_
        rintro e w3 ⟨rfl, hb3⟩
        have m0 : w3.cell? ⟨w.heap.size, 0, none⟩ = some (.string n) := (hb3.cell (p := ⟨w.heap.size, 0, none⟩) hsz2).trans l0
        have HB3 : Hid (Below w.heap.size w w3) := bel_trans HB2.out hb3
        clear hb3 l0 l1 HB2
        cases hf : isFld v.data.toList with
        | false =>
          have HQ : Hid (quoteR v.data.toList = ([], 13)) := (by unfold quoteR; rw [hf]; rfl : quoteR _ = _)
          have HR : Hid (prtR (n.data.toList, v.data.toList, true) = ([], 15)) := (by unfold prtR prt1; rw [if_neg htn', if_neg hne, if_neg htv', if_neg (by show ¬ isFld v.data.toList = true; rw [hf]; simp)] : prtR _ = _)
          clear htn htn' htv htv' hne hf
          rw [HQ.out]
          go_wp2
          go_ret2
          rw [HR.out]
          exact ⟨rfl, HB3.out⟩
        | true =>
          have HQ : Hid (quoteR v.data.toList = (qText v.data.toList, 0)) := (by unfold quoteR; rw [hf]; rfl : quoteR _ = _)
          have HR : Hid (prtR (n.data.toList, v.data.toList, true) = (59 :: 32 :: (n.data.toList ++ 61 :: qText v.data.toList), 0)) := (by unfold prtR prt1; rw [if_neg htn', if_neg hne, if_neg htv', if_pos hf] : prtR _ = _)
          have hql := qText_len v.data.toList
          rw [size_list, ← str_size] at hql
          have HQS : Hid ((str (qText v.data.toList)).data.toList = qText v.data.toList) := str_list _
          clear htn htn' htv htv' hne hf
          rw [HQ.out]
          dsimp only
          generalize str (qText v.data.toList) = q at *
          have hz1 : (⟨#[59, 32]⟩ : ByteArray).size + n.size ≤ 9223372036854775807 := by show 2 + n.size ≤ _; omega
          have hz2 : ((⟨#[59, 32]⟩ : ByteArray) ++ n).size + (⟨#[61]⟩ : ByteArray).size ≤ 9223372036854775807 := by rw [cat_size]; show 2 + n.size + 1 ≤ _; omega
          have hz3 : ((⟨#[59, 32]⟩ : ByteArray) ++ n ++ ⟨#[61]⟩).size + q.size ≤ 9223372036854775807 := by rw [cat_size, cat_size]; show 2 + n.size + 1 + q.size ≤ _; omega
          have HC : Hid ((⟨#[59, 32]⟩ : ByteArray) ++ n ++ ⟨#[61]⟩ ++ q = str (59 :: 32 :: (n.data.toList ++ 61 :: qText v.data.toList))) := to_str (by rw [cat_list, cat_list, cat_list, HQS.out]; simp)
          go_wp2
          go_ret2
          rw [HR.out]
          exact ⟨by rw [← HC.out]; rfl, HB3.out⟩

theorem bld_below {B b : Nat} {bs : List Value} {w w' : World} (h : Lib.IsBuilder 103 5 B b bs w) (hb : Below w.heap.size w w') : Lib.IsBuilder 103 5 B b bs w' := by
  have one : ∀ p, Lib.BuilderAt 103 5 B b p bs w → Lib.BuilderAt 103 5 B b p bs w' := by
    rintro p ⟨hB, v, hbk, hown, hne⟩
    have hlt : ∀ (k : Nat) o, w.heap[k]? = some o → k < w.heap.size := fun k o h => by
      rcases Nat.lt_or_ge k w.heap.size with h' | h'
      · exact h'
      · simp [Array.getElem?_eq_none h'] at h
    refine ⟨hB, v, by rw [hb.block b (hlt _ _ hbk)]; exact hbk, ⟨hown.1, ?_⟩, hne⟩
    rcases hown.2 with hn | ⟨g, cap, cur, rfl, h1, hg, rest⟩
    · exact .inl hn
    · exact .inr ⟨g, cap, cur, rfl, h1, by rw [hb.block g (hlt _ _ hg)]; exact hg, rest⟩
  rcases h with h | h
  · exact .inl (one _ h)
  · exact .inr (one _ h)

set_option maxRecDepth 100000 in
set_option maxHeartbeats 2000000 in
theorem Print_any (v : Value) (t : List Prm) (w : World) (h : RdP v t w) (hl : t.length ≤ 16777216) (hS : sumP t ≤ 8388608) (tb : Tab w) :
    Calls Tryz.prog 133 #[v] w fun e w' => e = .returned (.tuple #[.string (str (printR t).1), .int .i64 (printR t).2]) ∧ Below w.heap.size w w' := by
  obtain ⟨a, c, rfl, h⟩ := h
  have HR : Hid (t = [] ∨ ∃ g o, a = some ⟨g, o, none⟩ ∧ t.length ≤ c ∧ ∀ j, j < t.length → w.cell? ⟨g, o + j * 3, none⟩ = some (.string (str (nth t j).1)) ∧ w.cell? ⟨g, o + j * 3 + 1, none⟩ = some (.string (str (nth t j).2.1)) ∧ w.cell? ⟨g, o + j * 3 + 2, none⟩ = some (.bool (nth t j).2.2)) := h
  have HT : Hid (Tab w) := tb
  clear h tb
  go_enter Tryz.func133, Tryz.ntmps133
  go_wp2
  go_loopw [11] (fun i wr => ∃ (k : Nat) (acc : List UInt8), k ≤ t.length ∧ i = .int .i64 k ∧ acc.length + 2 * sumP (t.drop k) ≤ 16777216 ∧ Hid (prts t = (prts (t.drop k)).map (acc ++ ·)) ∧ Hid (Lib.IsBuilder 103 5 w.heap.size w.heap.size (Lib.byteCells acc) wr) ∧ Hid (Below w.heap.size w wr)) (fun i _ => t.length - (intOf i).toNat)
  case atStart => exact ⟨0, [], Nat.zero_le _, rfl, by simp; omega, (by simp : prts t = (prts (t.drop 0)).map ([] ++ ·)), Or.inl (bld_new w), (Below.refl _ w).alloc (Nat.le_refl _) _⟩
  case round =>
    obtain ⟨k, acc, hk, rfl, hacc, hst, hbld, hbl⟩ := hrel
    have hsz := hbl.out.size
    by_cases hlt : k < t.length
    · rcases HR.out with h | ⟨g, o, rfl, hc, hcell⟩
      · rw [h] at hlt; simp at hlt
      obtain ⟨c0, c1, c2⟩ := hcell k hlt
      have hg : g < w.heap.size := World.block_lt_of_cell? w _ c0
      have d0 : wr.cell? ⟨g, o + k * 3, none⟩ = some (.string (str (nth t k).1)) := (hbl.out.cell (p := ⟨g, o + k * 3, none⟩) hg).trans c0
      have d1 : wr.cell? ⟨g, o + k * 3 + 1, none⟩ = some (.string (str (nth t k).2.1)) := (hbl.out.cell (p := ⟨g, o + k * 3 + 1, none⟩) hg).trans c1
      have d2 : wr.cell? ⟨g, o + k * 3 + 2, none⟩ = some (.bool (nth t k).2.2) := (hbl.out.cell (p := ⟨g, o + k * 3 + 2, none⟩) hg).trans c2
      clear hcell c0 c1 c2
      have hz := nth_sz t k hlt
      rw [sumP_drop t k hlt] at hacc
      have HStep : Hid (∀ x, prt1 (nth t k) = some x → prts t = (prts (t.drop (k + 1))).map ((acc ++ x) ++ ·)) := fun x hx => prts_step hlt hst.out hx
      have HBad : Hid (prt1 (nth t k) = none → printR t = ([], 15)) := fun hx => prts_bad hlt hst.out hx
      have HLen : Hid (∀ x, prt1 (nth t k) = some x → x.length ≤ 2 * szP (nth t k)) := fun x hx => prt1_len hx
      have hgr : g ≠ wr.heap.size := by omega
      generalize nth t k = p at *
      obtain ⟨pn, pv, pb⟩ := p
      unfold szP at hz hacc HLen
      dsimp only at hz hacc HLen d0 d1 d2
      have hn := str_size pn
      have hv := str_size pv
      have HL1 : Hid ((str pn).data.toList = pn) := str_list pn
      have HL2 : Hid ((str pv).data.toList = pv) := str_list pv
      generalize str pn = n at *
      generalize str pv = v at *
      have HB3 : Hid (Below w.heap.size w (wr.alloc (.cells #[.string n, .string v, .bool pb] 181))) := hbl.out.alloc hsz _
      have HBd3 : Hid (Lib.IsBuilder 103 5 w.heap.size w.heap.size (Lib.byteCells acc) (wr.alloc (.cells #[.string n, .string v, .bool pb] 181))) := bld_below hbld.out ((Below.refl _ wr).alloc (Nat.le_refl _) _)
      have HT3 : Hid (Tab (wr.alloc (.cells #[.string n, .string v, .bool pb] 181))) := HT.out.below HB3.out (Nat.le_refl _)
      go_wp2_with fail
      refine (printParam_any n v pb (by omega) (by omega) _ HT3.out).mono ?_
      rintro e w4 ⟨rfl, hb4⟩
      rw [HL1.out, HL2.out]
      have HB4 : Hid (Below w.heap.size w w4) := bel_trans HB3.out hb4
      have HBd4 : Hid (Lib.IsBuilder 103 5 w.heap.size w.heap.size (Lib.byteCells acc) w4) := bld_below HBd3.out hb4
      have hs4 := HB4.out.size
      clear hb4 HB3 HBd3 HT3
      cases hp : prt1 (pn, pv, pb) with
      | none =>
        have HP : Hid (prtR (pn, pv, pb) = ([], 15)) := (by unfold prtR; rw [hp] : prtR _ = _)
        have HE : Hid (printR t = ([], 15)) := HBad.out hp
        clear hp
        rw [HP.out]
        go_wp2
        go_ret2
        rw [HE.out]
        exact ⟨rfl, HB4.out⟩
      | some x =>
        have HP : Hid (prtR (pn, pv, pb) = (x, 0)) := (by unfold prtR; rw [hp] : prtR _ = _)
        have HS2 : Hid (prts t = (prts (t.drop (k + 1))).map ((acc ++ x) ++ ·)) := HStep.out x hp
        have hxl := HLen.out x hp
        clear hp
        rw [HP.out]
        dsimp only
        have hxs := str_size x
        have HXL : Hid (Lib.strCells (str x) = Lib.byteCells x) := (by rw [Lib.strCells_eq, str_list] : Lib.strCells (str x) = _)
        have HA : Hid ((Lib.byteCells acc).length + (str x).size ≤ 140737488355328) := (by rw [Lib.byteCells_length, str_size]; omega : (Lib.byteCells acc).length + (str x).size ≤ 140737488355328)
        generalize str x = y at *
        go_wp2_with fail
        refine (WriteString_any w.heap.size w.heap.size _ y w4 HBd4.out HA.out hs4).mono ?_
        rintro e w5 ⟨rfl, h5, hb5⟩
        rw [HXL.out, ← Lib.byteCells_append] at h5
        have HBd5 : Hid (Lib.IsBuilder 103 5 w.heap.size w.heap.size (Lib.byteCells (acc ++ x)) w5) := Or.inr h5
        have HB5 : Hid (Below w.heap.size w w5) := HB4.out.trans hb5
        clear h5 hb5
        go_wp2
        exact ⟨⟨k + 1, acc ++ x, by omega, by go_num, by rw [List.length_append]; omega, HS2, HBd5, HB5⟩, by simp [intOf]; omega⟩
    · obtain rfl : k = t.length := by omega
      have hpe := prts_end hst.out
      have HE : Hid (printR t = (acc, 0)) := (by unfold printR; rw [hpe] : printR t = _)
      clear hpe
      go_wp2_with fail
      refine (Tryz.Builder_String_any w.heap.size w.heap.size _ wr hbld.out hsz).mono ?_
      rintro e w5 ⟨rfl, hb5⟩
      have HB5 : Hid (Below w.heap.size w w5) := hbl.out.trans hb5
      clear hb5
      go_wp2
      go_ret2
      rw [HE.out]
      exact ⟨rfl, HB5.out⟩

end Oc
end Go.Proofs.YtcelekfokbdmfaaGreatDoor

/-
  chunk.PrintSize, writeSize, writeChunk.
-/
set_option linter.unusedVariables false
set_option linter.unusedSimpArgs false
set_option maxRecDepth 100000
namespace Go.Proofs.YtcelekfokbdmfaaGreatDoor
open Go.RowKit Go.Shelf
namespace Ck
open Oc Tg _root_.Go.Proofs.YtcelekfokbdmfaaGreatDoor.Fd

/-- The table that FormatInt reads lies. -/
def Deb (w : World) : Prop := w.cell? ⟨3, 15, none⟩ = some (.int .u8 4)
theorem Deb.below {w w' : World} (h : Deb w) (b : Below w.heap.size w w') : Deb w' := (b.cell (World.block_lt_of_cell? w _ h)).trans h
theorem Deb.belowB {w w' : World} {B : Nat} (h : Deb w) (b : Below B w w') (hB : w.heap.size ≤ B) : Deb w' := (b.cell (Nat.lt_of_lt_of_le (World.block_lt_of_cell? w _ h) hB)).trans h

theorem prtsLen : ∀ {t : List Prm} {x : List UInt8}, prts t = some x → x.length ≤ 2 * sumP t
  | [], x, h => by cases h; exact Nat.zero_le _
  | p :: r, x, h => by
    unfold prts at h
    cases hp : prt1 p with
    | none => rw [hp] at h; cases h
    | some a =>
      rw [hp] at h
      obtain ⟨b, hb, rfl⟩ := Option.map_eq_some_iff.1 h
      have h1 := prt1_len hp
      have h2 := prtsLen hb
      show (a ++ b).length ≤ 2 * (szP p + sumP r)
      rw [List.length_append]
      omega
/-- A size line, its error. -/
def sizeP (n : Int) (t : List Prm) : List UInt8 × Int :=
  if n < 0 ∨ 1099511627776 < n then ([], 1) else match prts t with
    | none => ([], 15)
    | some x => if 254 < (hexd n.toNat ++ x).length then ([], 100) else (hexd n.toNat ++ x, 0)
theorem sizeP_nil (n : Nat) (h : n ≤ 1099511627776) : sizeP (n : Int) [] = (hexd n, 0) := by
  have hl := hexd_len 10 n (Nat.lt_of_le_of_lt h (by decide))
  unfold sizeP
  rw [if_neg (by omega)]
  simp only [prts, List.append_nil, Int.toNat_natCast]
  rw [if_neg (by omega)]

set_option maxHeartbeats 2000000 in
theorem PrintSize_any (n : Int) (v : Value) (t : List Prm) (w : World) (h : RdP v t w) (hl : t.length ≤ 16777216) (hS : sumP t ≤ 8388608) (tb : Tab w) (td : Deb w) :
    Calls Tryz.prog 105 #[.int .i64 n, v] w fun e w' => e = .returned (.tuple #[.string (str (sizeP n t).1), .int .i64 (sizeP n t).2]) ∧ Below w.heap.size w w' := by
  have HP : Hid (Calls Tryz.prog 133 #[v] w fun e w' => e = .returned (.tuple #[.string (str (printR t).1), .int .i64 (printR t).2]) ∧ Below w.heap.size w w') := Print_any v t w h hl hS tb
  have HD : Hid (Deb w) := td
  clear h tb td
  by_cases h0 : n < 0
  · have HE : Hid (sizeP n t = ([], 1)) := (by unfold sizeP; rw [if_pos (.inl h0)] : sizeP n t = _)
    go_enter Tryz.func105, Tryz.ntmps105
    go_wp2
    go_ret2
    rw [HE.out]
    exact ⟨rfl, Below.refl _ _⟩
  by_cases h1 : 1099511627776 < n
  · have HE : Hid (sizeP n t = ([], 1)) := (by unfold sizeP; rw [if_pos (.inr h1)] : sizeP n t = _)
    go_enter Tryz.func105, Tryz.ntmps105
    go_wp2
    go_ret2
    rw [HE.out]
    exact ⟨rfl, Below.refl _ _⟩
  obtain ⟨k, rfl⟩ : ∃ k : Nat, n = (k : Int) := ⟨n.toNat, by omega⟩
  have hk : k ≤ 1099511627776 := by omega
  have HF : Hid (∀ w, Deb w → Calls Tryz.prog 134 #[.int .i64 (k : Int), .int .i64 16] w fun e w' => e = .returned (.string (str (hexd k))) ∧ Below w.heap.size w w') := fun w h => FormatInt_any k hk w h
  have hlen := hexd_len 10 k (Nat.lt_of_le_of_lt hk (by decide))
  cases hp : prts t with
  | none =>
    have HE : Hid (sizeP k t = ([], 15)) := (by unfold sizeP; rw [if_neg (by omega), hp] : sizeP k t = _)
    have HR : Hid (printR t = ([], 15)) := (by unfold printR; rw [hp] : printR t = _)
    clear hp
    go_enter Tryz.func105, Tryz.ntmps105
    go_wp2_with fail
    refine HP.out.mono ?_
    rintro e w1 ⟨rfl, hb1⟩
    have HB1 : Hid (Below w.heap.size w w1) := hb1
    clear hb1
    rw [HR.out]
    go_wp2
    go_ret2
    rw [HE.out]
    exact ⟨rfl, HB1.out⟩
  | some x =>
    have HR : Hid (printR t = (x, 0)) := (by unfold printR; rw [hp] : printR t = _)
    have hxl : x.length ≤ 16777216 := by
      have := prtsLen hp
      omega
    have HE : Hid (sizeP k t = if 254 < (hexd k ++ x).length then ([], 100) else (hexd k ++ x, 0)) := (by unfold sizeP; rw [if_neg (by omega), hp]; rfl : sizeP k t = _)
    clear hp
    have hs1 := str_size (hexd k)
    have hs2 := str_size x
    have HA : Hid (str (hexd k) ++ str x = str (hexd k ++ x)) := str_app _ _
    have hz : (str (hexd k)).size + (str x).size ≤ 9223372036854775807 := by omega
    have hsz : (str (hexd k) ++ str x).size = (hexd k ++ x).length := by rw [HA.out, str_size]
    have hz2 : ¬ 9223372036854775807 < (str (hexd k)).size + (str x).size := by omega
    generalize hexd k ++ x = L at *
    generalize str (hexd k) = X at *
    go_enter Tryz.func105, Tryz.ntmps105
    go_wp2_with fail
    refine HP.out.mono ?_
    rintro e w1 ⟨rfl, hb1⟩
    have HB1 : Hid (Below w.heap.size w w1) := hb1
    have HD1 : Hid (Deb w1) := HD.out.below hb1
    clear hb1
    rw [HR.out]
    dsimp only
    generalize str x = Y at *
    go_wp2_with fail
    refine (HF.out _ HD1.out).mono ?_
    rintro e w2 ⟨rfl, hb2⟩
    have HB2 : Hid (Below w.heap.size w w2) := bel_trans HB1.out hb2
    clear hb2
    by_cases hbig : 254 < L.length
    · rw [if_pos hbig] at HE
      have hb' : ((254 : Int) < ((X ++ Y).size : Int)) := by rw [hsz]; omega
      go_wp2
      go_ret2
      rw [HE.out]
      exact ⟨rfl, HB2.out⟩
    · rw [if_neg hbig] at HE
      have hb' : ¬ ((254 : Int) < ((X ++ Y).size : Int)) := by rw [hsz]; omega
      go_wp2
      go_ret2
      rw [HE.out]
      exact ⟨by rw [← HA.out]; rfl, HB2.out⟩

/-- A size line with its end. -/
def lineC (n : Nat) : List UInt8 := hexd n ++ [13, 10]
/-- A chunk. -/
def chunkC (t : List UInt8) : List UInt8 := if t = [] then [] else lineC t.length ++ t ++ [13, 10]

set_option maxHeartbeats 2000000 in
theorem writeSize_bd (B b : Nat) (l : List UInt8) (n : Nat) (hn : n ≤ 1099511627776) (w : World) (h : Bd B b (Lib.byteCells l) w) (hl : l.length ≤ 100000000000) (hB : B ≤ w.heap.size) (tb : Tab w) (td : Deb w) :
    Calls Tryz.prog 75 #[.pointer (some ⟨b, 0, none⟩), .int .i64 (n : Int)] w fun e w' => e = .returned (.tuple #[]) ∧ Bd B b (Lib.byteCells (l ++ lineC n)) w' ∧ Fr B b w w' := by
  have hlen := hexd_len 10 n (Nat.lt_of_le_of_lt hn (by decide))
  have HP : Hid (Calls Tryz.prog 105 #[.int .i64 (n : Int), .slice none 0 0] w fun e w' => e = .returned (.tuple #[.string (str (hexd n)), .int .i64 0]) ∧ Below w.heap.size w w') := by
    have := PrintSize_any (n : Int) (.slice none 0 0) [] w ⟨none, 0, rfl, .inl rfl⟩ (by simp) (by simp [sumP]) tb td
    rw [sizeP_nil n hn] at this
    exact this
  have HH : Hid (Bd B b (Lib.byteCells l) w) := h
  clear h tb td
  have h1 : (Lib.byteCells l).length + (str (hexd n)).size ≤ 140737488355328 := by rw [Fd.cells_len, str_size]; omega
  have h2 : (Lib.byteCells l ++ Lib.strCells (str (hexd n))).length + (⟨#[13, 10]⟩ : ByteArray).size ≤ 140737488355328 := by rw [cells_str, ← cells_app, Fd.cells_len, List.length_append]; show _ + 2 ≤ _; omega
  have HE : Hid (Lib.byteCells (l ++ lineC n) = Lib.byteCells l ++ Lib.strCells (str (hexd n)) ++ Lib.strCells ⟨#[13, 10]⟩) := (by
    show _ = _ ++ Lib.strCells (str [13, 10])
    rw [cells_str, cells_str, ← cells_app, ← cells_app]
    unfold lineC
    rw [List.append_assoc] : _ = _)
  have H1 : Hid ((Lib.byteCells l).length + (str (hexd n)).size ≤ 140737488355328) := h1
  have H2 : Hid ((Lib.byteCells l ++ Lib.strCells (str (hexd n))).length + (⟨#[13, 10]⟩ : ByteArray).size ≤ 140737488355328) := h2
  clear h1 h2
  generalize str (hexd n) = X at *
  go_enter Tryz.func75, Tryz.ntmps75
  go_wp2_with fail
  refine HP.out.mono ?_
  rintro e w1 ⟨rfl, hb1⟩
  have HB1 : Hid (Bd B b (Lib.byteCells l) w1) := HH.out.below hb1
  have HF1 : Hid (Fr B b w w1) := Fr.of_below hb1 hB
  have hs1 := hb1.size
  clear hb1
  go_wp2_with fail
  refine (WriteString_bd B b _ X w1 HB1.out H1.out (by omega)).mono ?_
  rintro e w2 ⟨rfl, hb2, hf2⟩
  have HB2 : Hid (Bd B b (Lib.byteCells l ++ Lib.strCells X) w2) := hb2
  have HF2 : Hid (Fr B b w w2) := HF1.out.trans hf2
  have hs2 := hf2.size
  clear hb2 hf2
  go_wp2_with fail
  refine (WriteString_bd B b _ _ w2 HB2.out H2.out (by omega)).mono ?_
  rintro e w3 ⟨rfl, hb3, hf3⟩
  have HB3 : Hid (Bd B b (Lib.byteCells (l ++ lineC n)) w3) := (by rw [HE.out]; exact hb3 : Bd _ _ _ _)
  have HF3 : Hid (Fr B b w w3) := HF2.out.trans hf3
  clear hb3 hf3
  go_wp2
  go_end0
  exact ⟨rfl, HB3.out, HF3.out⟩

end Ck
end Go.Proofs.YtcelekfokbdmfaaGreatDoor

/-
  chunk.writeChunk, printTrailers, Encode.
-/
set_option linter.unusedVariables false
set_option linter.unusedSimpArgs false
set_option maxRecDepth 100000
namespace Go.Proofs.YtcelekfokbdmfaaGreatDoor
open Go.RowKit Go.Shelf
namespace Ck
open Oc Tg _root_.Go.Proofs.YtcelekfokbdmfaaGreatDoor.Fd

set_option maxHeartbeats 2000000 in
theorem writeChunk_bd (B b : Nat) (l : List UInt8) (s : ByteArray) (hn : s.size ≤ 1099511627776) (w : World) (h : Bd B b (Lib.byteCells l) w) (hl : l.length ≤ 100000000000) (hB : B ≤ w.heap.size) (tb : Tab w) (td : Deb w) :
    Calls Tryz.prog 74 #[.pointer (some ⟨b, 0, none⟩), .string s] w fun e w' => e = .returned (.tuple #[]) ∧ Bd B b (Lib.byteCells (l ++ chunkC s.data.toList)) w' ∧ Fr B b w w' := by
  by_cases h0 : s.size = 0
  · have he : s.toList.isEmpty = true := empty_of h0
    have hl0 : s.data.toList = [] := List.length_eq_zero_iff.1 (by rw [size_list]; exact h0)
    have HE : Hid (l ++ chunkC s.data.toList = l) := (by unfold chunkC; rw [if_pos hl0, List.append_nil] : _ = _)
    have HH : Hid (Bd B b (Lib.byteCells l) w) := h
    clear h tb td hl0
    go_enter Tryz.func74, Tryz.ntmps74
    go_wp2
    refine bodyPost_ret (results_none rfl _ _ _) rfl ?_
    rw [HE.out]
    exact ⟨rfl, HH.out, Fr.refl _ _ _⟩
  have hne : s.toList.isEmpty = false := by
    cases hb : s.toList.isEmpty with
    | false => rfl
    | true =>
      rw [List.isEmpty_iff, ByteArray.toList_eq] at hb
      exact absurd (by rw [← size_list, hb]; rfl) h0
  have hll : s.data.toList.length = s.size := size_list s
  have hl0 : s.data.toList ≠ [] := fun e => h0 (by rw [← hll, e]; rfl)
  have hlen := hexd_len 10 s.size (Nat.lt_of_le_of_lt hn (by decide))
  have HS : Hid (Calls Tryz.prog 75 #[.pointer (some ⟨b, 0, none⟩), .int .i64 (s.size : Int)] w fun e w' => e = .returned (.tuple #[]) ∧ Bd B b (Lib.byteCells (l ++ lineC s.size)) w' ∧ Fr B b w w') := writeSize_bd B b l s.size hn w h hl hB tb td
  clear h tb td
  have hcl : (lineC s.size).length ≤ 13 := by unfold lineC; rw [List.length_append]; simp; omega
  have H1 : Hid ((Lib.byteCells (l ++ lineC s.size)).length + s.size ≤ 140737488355328) := (by rw [Fd.cells_len, List.length_append]; omega : _ ≤ _)
  have H2 : Hid ((Lib.byteCells (l ++ lineC s.size) ++ Lib.strCells s).length + (⟨#[13, 10]⟩ : ByteArray).size ≤ 140737488355328) := (by rw [List.length_append, Fd.cells_len, List.length_append, Lib.strCells_length]; show _ + 2 ≤ _; omega : _ ≤ _)
  have HE : Hid (Lib.byteCells (l ++ chunkC s.data.toList) = Lib.byteCells (l ++ lineC s.size) ++ Lib.strCells s ++ Lib.strCells ⟨#[13, 10]⟩) := (by
    show _ = _ ++ Lib.strCells (str [13, 10])
    have hs : Lib.strCells s = Lib.byteCells s.data.toList := by rw [← cells_str, str_self]
    rw [hs, cells_str, ← cells_app, ← cells_app]
    unfold chunkC
    rw [if_neg hl0, hll]
    simp only [List.append_assoc] : _ = _)
  clear hcl hl0 hll hlen
  go_enter Tryz.func74, Tryz.ntmps74
  go_wp2_with fail
  refine HS.out.mono ?_
  rintro e w1 ⟨rfl, hb1, hf1⟩
  have HB1 : Hid (Bd B b (Lib.byteCells (l ++ lineC s.size)) w1) := hb1
  have HF1 : Hid (Fr B b w w1) := hf1
  have hs1 := hf1.size
  clear hb1 hf1
  go_wp2_with fail
  refine (WriteString_bd B b _ s w1 HB1.out H1.out (by omega)).mono ?_
  rintro e w2 ⟨rfl, hb2, hf2⟩
  have HB2 : Hid (Bd B b (Lib.byteCells (l ++ lineC s.size) ++ Lib.strCells s) w2) := hb2
  have HF2 : Hid (Fr B b w w2) := HF1.out.trans hf2
  have hs2 := hf2.size
  clear hb2 hf2
  go_wp2_with fail
  refine (WriteString_bd B b _ _ w2 HB2.out H2.out (by omega)).mono ?_
  rintro e w3 ⟨rfl, hb3, hf3⟩
  have HB3 : Hid (Bd B b (Lib.byteCells (l ++ chunkC s.data.toList)) w3) := (by rw [HE.out]; exact hb3 : Bd _ _ _ _)
  have HF3 : Hid (Fr B b w w3) := HF2.out.trans hf3
  clear hb3 hf3
  go_wp2
  go_end0
  exact ⟨rfl, HB3.out, HF3.out⟩

/-- May a field be a trailer? -/
def okT (p : Fl) : Bool := isName p.1 && isValue p.2 && trails p.1
def trailG (t : List Fl) : List UInt8 := t.flatMap fun p => lineP p ++ [13, 10]
/-- A trailer section, its error. -/
def trailP (t : List Fl) : List UInt8 × Int := if t.all okT then (trailG t ++ [13, 10], 0) else ([], 101)
theorem okT_chk {p : Fl} : okT p = (decide (chkZ p = 0) && trails p.1) := by
  unfold okT
  rcases chk_cases p with ⟨h, h1, h2⟩ | ⟨h, h1, h2⟩ | ⟨h, h1⟩
  · rw [h, h1, h2]; rfl
  · rw [h, h1, h2]; rfl
  · rw [h, h1]; simp
theorem trailG_snoc (t : List Fl) (k : Nat) (h : k < t.length) : trailG (t.take (k + 1)) = trailG (t.take k) ++ lineP (Fd.nth t k) ++ [13, 10] := by
  have : t.take (k + 1) = t.take k ++ [Fd.nth t k] := by
    rw [List.take_add_one]
    congr 1
    rw [List.getElem?_eq_getElem h]
    unfold Fd.nth
    rw [List.getD_eq_getElem?_getD, List.getElem?_eq_getElem h]
    rfl
  rw [this]
  unfold trailG
  rw [List.flatMap_append]
  simp
theorem szSum : ∀ (t : List Fl) (k : Nat), k < t.length → szF (Fd.nth t k) ≤ sumF t
  | [], k, h => by simp at h
  | p :: t, 0, _ => by
    show szF p ≤ sumF (p :: t)
    simp [sumF]
  | p :: t, k + 1, h => by
    have := szSum t k (by simpa using h)
    show szF (Fd.nth t k) ≤ sumF (p :: t)
    simp only [sumF, List.map_cons, List.sum_cons] at this ⊢
    omega
theorem all_of (t : List Fl) (h : ∀ j, j < t.length → okT (Fd.nth t j) = true) : t.all okT = true := by
  rw [List.all_eq_true]
  intro p hp
  obtain ⟨j, hj, rfl⟩ := List.mem_iff_getElem.1 hp
  have := h j hj
  unfold Fd.nth at this
  rw [List.getD_eq_getElem?_getD, List.getElem?_eq_getElem hj] at this
  exact this
theorem not_all (t : List Fl) (j : Nat) (hj : j < t.length) (h : okT (Fd.nth t j) = false) : t.all okT = false := by
  rw [List.all_eq_false]
  refine ⟨t[j], List.getElem_mem hj, ?_⟩
  unfold Fd.nth at h
  rw [List.getD_eq_getElem?_getD, List.getElem?_eq_getElem hj] at h
  simpa using h

set_option maxHeartbeats 4000000 in
theorem printTrailers_any (v : Value) (t : List Fl) (hs : sumF t ≤ 1048576) (w : World) (hr : RdF v t w) (tab : Tab w) :
    Calls Tryz.prog 73 #[v] w fun e w' => e = .returned (.tuple #[.string (str (trailP t).1), .int .i64 (trailP t).2]) ∧ Below w.heap.size w w' := by
  have hlen := len_sumF t
  have HR : Hid (RdF v t w) := hr
  have HT : Hid (Tab w) := tab
  obtain ⟨a, c, rfl, _⟩ := hr
  clear tab
  have HBD : Hid (Bd (w.heap.size + 1) w.heap.size (Lib.byteCells (trailG (t.take 0))) (w.alloc (.cells #[.pointer none, .slice none 0 0] 103))) := Bd.new w (w.heap.size + 1)
  go_enter Tryz.func73, Tryz.ntmps73
  go_wp2
  go_loopw [11] (fun i wr => ∃ (k : Nat), k ≤ t.length ∧ i = .int .i64 k ∧ Hid (∀ j, j < k → okT (Fd.nth t j) = true) ∧ Hid ((trailG (t.take k)).length ≤ k * 1048600) ∧ Hid (Bd (w.heap.size + 1) w.heap.size (Lib.byteCells (trailG (t.take k))) wr) ∧ Hid (Below w.heap.size w wr) ∧ Hid (w.heap.size + 1 ≤ wr.heap.size)) (fun i _ => t.length - (intOf i).toNat)
  case atStart => exact ⟨0, Nat.zero_le _, rfl, (fun j hj => by omega : ∀ j, j < 0 → _), (by simp [trailG] : _ ≤ _), HBD, (Below.refl _ w).alloc (Nat.le_refl _) _, (by simp : _ ≤ _)⟩
  case round =>
    obtain ⟨k, hk, rfl, hok, hal, hB, hW, hS⟩ := hrel
    by_cases hlt : k < t.length
    · obtain ⟨a', c', e', hcs⟩ := HR.out.below hW.out
      injection e' with e1 _ e2
      subst e1 e2
      rcases hcs with h | ⟨g, o, rfl, hlc, hcell⟩
      · rw [h] at hlt; simp at hlt
      obtain ⟨p0, p1⟩ := hcell k hlt
      have hz := szSum t k hlt
      have hll := lineP_len (Fd.nth t k)
      have HSn : Hid (trailG (t.take (k + 1)) = trailG (t.take k) ++ lineP (Fd.nth t k) ++ [13, 10]) := trailG_snoc t k hlt
      have NX : okT (Fd.nth t k) = true → Hid (∀ j, j < k + 1 → okT (Fd.nth t j) = true) := fun h j hj => by
        by_cases hjk : j = k
        · subst hjk; exact h
        · exact hok.out j (by omega)
      have BD : okT (Fd.nth t k) = false → Hid (trailP t = ([], 101)) := fun h => (by unfold trailP; rw [not_all t k hlt h]; rfl : trailP t = _)
      have hp1 : (Fd.nth t k).1.length ≤ 1048576 := by unfold szF at hz; omega
      have hp2 : (Fd.nth t k).2.length ≤ 1048576 := by unfold szF at hz; omega
      have HPL : Hid (∀ w, Tab w → Calls Tryz.prog 60 #[.agg #[.string (str (Fd.nth t k).1), .string (str (Fd.nth t k).2)]] w fun e w' => e = .returned (.tuple #[.string (str (printL (Fd.nth t k)).1), .int .i64 (printL (Fd.nth t k)).2]) ∧ Below w.heap.size w w') := fun w tb => PrintLine_any (Fd.nth t k) (by omega) (by omega) w tb
      have HMT : Hid (∀ w, Tab w → Calls Tryz.prog 104 #[.string (str (Fd.nth t k).1)] w fun e w' => e = .returned (.bool (trails (Fd.nth t k).1)) ∧ Below w.heap.size w w') := fun w tb => MayTrail_any _ (by unfold maxLen; omega) w tb
      clear hcell
      have hok2 : okT (Fd.nth t k) = (decide (chkZ (Fd.nth t k) = 0) && trails (Fd.nth t k).1) := okT_chk
      generalize okT (Fd.nth t k) = ok at *
      generalize Fd.nth t k = p at *
      have hx : (lineP p).length ≤ 1048576 := by omega
      have hxs : (str (lineP p)).size ≤ 1048576 := by rw [str_size]; exact hx
      generalize trails p.1 = tr at *
      generalize str p.1 = N at *
      generalize str p.2 = V at *
      have hb1 : Below wr.heap.size wr (wr.alloc (.cells #[.string N, .string V] 63)) := (Below.refl _ wr).alloc (Nat.le_refl _) _
      have HBW : Hid (Below w.heap.size w (wr.alloc (.cells #[.string N, .string V] 63))) := bel_trans hW.out hb1
      have HB1 : Hid (Bd (w.heap.size + 1) w.heap.size (Lib.byteCells (trailG (t.take k))) (wr.alloc (.cells #[.string N, .string V] 63))) := hB.out.below hb1
      have HS1 : Hid (w.heap.size + 1 ≤ (wr.alloc (.cells #[.string N, .string V] 63)).heap.size) := Nat.le_trans hS.out hb1.size
      have hC0 : (wr.alloc (.cells #[.string N, .string V] 63)).cell? ⟨wr.heap.size, 0, none⟩ = some (.string N) := by simp
      have hlw : wr.heap.size < (wr.alloc (.cells #[.string N, .string V] 63)).heap.size := by simp
      have HC0 : Hid ((wr.alloc (.cells #[.string N, .string V] 63)).cell? ⟨wr.heap.size, 0, none⟩ = some (.string N)) := hC0
      clear hb1 hz hll hp1 hp2 hC0 hlw
      by_cases hz0 : chkZ p = 0
      · rw [show printL p = (lineP p, 0) by unfold printL; rw [if_pos hz0]] at HPL
        dsimp only at HPL
        rw [hz0, show decide ((0 : Int) = 0) = true from rfl, Bool.true_and] at hok2
        clear hz0
        subst hok2
        generalize hLP : lineP p = LP at *
        clear hLP
        go_wp2_with fail
        refine (HPL.out _ (HT.out.below HBW.out (Nat.le_refl _))).mono ?_
        rintro e w2 ⟨rfl, hb2⟩
        have HB2 : Hid (Bd (w.heap.size + 1) w.heap.size (Lib.byteCells (trailG (t.take k))) w2) := HB1.out.below hb2
        have HW2 : Hid (Below w.heap.size w w2) := bel_trans HBW.out hb2
        have HS2 : Hid (w.heap.size + 1 ≤ w2.heap.size) := Nat.le_trans HS1.out hb2.size
        have hC2 : w2.cell? ⟨wr.heap.size, 0, none⟩ = some (.string N) := (hb2.cell (World.block_lt_of_cell? _ _ HC0.out)).trans HC0.out
        have HTw : Hid (Tab w2) := HT.out.below HW2.out (Nat.le_refl _)
        clear hb2 HC0 HB1 HBW HS1
        cases ok with
        | false =>
          have bd := BD rfl
          clear NX BD
          go_wp2_with fail
          refine (HMT.out _ HTw.out).mono ?_
          rintro e w3 ⟨rfl, hb3⟩
          have HW3 : Hid (Below w.heap.size w w3) := bel_trans HW2.out hb3
          clear hb3
          go_wp2
          go_ret2
          exact ⟨by rw [bd.out]; rfl, HW3.out⟩
        | true =>
          have nx := NX rfl
          clear NX BD
          go_wp2_with fail
          refine (HMT.out _ HTw.out).mono ?_
          rintro e w3 ⟨rfl, hb3⟩
          have HB3 : Hid (Bd (w.heap.size + 1) w.heap.size (Lib.byteCells (trailG (t.take k))) w3) := HB2.out.below hb3
          have HW3 : Hid (Below w.heap.size w w3) := bel_trans HW2.out hb3
          have HS3 : Hid (w.heap.size + 1 ≤ w3.heap.size) := Nat.le_trans HS2.out hb3.size
          clear hb3 hC2
          go_wp2_with fail
          refine (WriteString_bd _ _ _ _ _ HB3.out (by rw [Fd.cells_len]; have := hal.out; omega) HS3.out).mono ?_
          rintro e w4 ⟨rfl, hB4, hF4⟩
          have HB4 : Hid (Bd (w.heap.size + 1) w.heap.size (Lib.byteCells (trailG (t.take k) ++ LP)) w4) := by
            show Bd _ _ _ _
            rw [cells_app, ← cells_str LP]
            exact hB4
          have HF4 : Hid (Fr (w.heap.size + 1) w.heap.size w3 w4) := hF4
          have HS4 : Hid (w.heap.size + 1 ≤ w4.heap.size) := Nat.le_trans HS3.out hF4.size
          clear hB4 hF4
          go_wp2_with fail
          refine (WriteString_bd _ _ _ _ _ HB4.out (by rw [Fd.cells_len, List.length_append]; have := hal.out; show _ + 2 ≤ _; omega) HS4.out).mono ?_
          rintro e w5 ⟨rfl, hB5, hF5⟩
          have HB5 : Hid (Bd (w.heap.size + 1) w.heap.size (Lib.byteCells (trailG (t.take (k + 1)))) w5) := by
            show Bd _ _ _ _
            rw [HSn.out, cells_app (trailG (t.take k) ++ LP), ← cells_str [13, 10]]
            exact hB5
          have hF := HF4.out.trans hF5
          have HW5 : Hid (Below w.heap.size w w5) := HW3.out.trans (hF.below (by omega) (Nat.le_refl _))
          have HS5 : Hid (w.heap.size + 1 ≤ w5.heap.size) := Nat.le_trans HS3.out hF.size
          have HA5 : Hid ((trailG (t.take (k + 1))).length ≤ (k + 1) * 1048600) := by show _ ≤ _; rw [HSn.out, List.length_append, List.length_append]; have := hal.out; simp; omega
          clear hB5 hF5 hF
          go_wp2
          go_roundw
          case rel => exact ⟨k + 1, by omega, by go_num, nx, HA5, HB5, HW5, HS5⟩
          case measure => simp [intOf]; omega
      · have hzd : decide (chkZ p = 0) = false := by simp [hz0]
        rw [hzd, Bool.false_and] at hok2
        have bd := BD hok2
        rw [show printL p = ([], chkZ p) by unfold printL; rw [if_neg hz0]] at HPL
        dsimp only at HPL
        have hzq : (chkZ p != 0) = true := by simp [hz0]
        clear NX BD hz0 hzd hok2
        generalize chkZ p = z at *
        go_wp2_with fail
        refine (HPL.out _ (HT.out.below HBW.out (Nat.le_refl _))).mono ?_
        rintro e w2 ⟨rfl, hb2⟩
        have HW2 : Hid (Below w.heap.size w w2) := bel_trans HBW.out hb2
        clear hb2
        go_wp2
        go_ret2
        exact ⟨by rw [bd.out]; rfl, HW2.out⟩
    · have hkl : k = t.length := by omega
      have HE : Hid (trailP t = (trailG t ++ [13, 10], 0)) := by
        show _ = _
        unfold trailP
        rw [all_of t (fun j hj => hok.out j (by omega)), if_pos rfl]
      have HB : Hid (Bd (w.heap.size + 1) w.heap.size (Lib.byteCells (trailG t)) wr) := by
        have := hB.out
        rw [hkl, List.take_length] at this
        exact this
      have hal2 : (trailG t).length ≤ t.length * 1048600 := by
        have := hal.out
        rw [hkl, List.take_length] at this
        exact this
      go_wp2_with fail
      refine (WriteString_bd _ _ _ _ _ HB.out (by rw [Fd.cells_len]; show _ + 2 ≤ _; omega) hS.out).mono ?_
      rintro e w2 ⟨rfl, hB2, hF2⟩
      have HB2 : Hid (Bd (w.heap.size + 1) w.heap.size (Lib.byteCells (trailG t ++ [13, 10])) w2) := by
        show Bd _ _ _ _
        rw [cells_app, ← cells_str [13, 10]]
        exact hB2
      have HW2 : Hid (Below w.heap.size w w2) := hW.out.trans (hF2.below (by omega) (Nat.le_refl _))
      have HS2 : Hid (w.heap.size + 1 ≤ w2.heap.size) := Nat.le_trans hS.out hF2.size
      clear hB2 hF2
      go_wp2_with fail
      refine (String_bd _ _ _ _ HB2.out HS2.out).mono ?_
      rintro e w3 ⟨rfl, hb3, _⟩
      have HW3 : Hid (Below w.heap.size w w3) := HW2.out.trans (hb3.mono (by omega))
      clear hb3
      go_wp2
      go_ret2
      exact ⟨by rw [HE.out]; rfl, HW3.out⟩

end Ck
end Go.Proofs.YtcelekfokbdmfaaGreatDoor
