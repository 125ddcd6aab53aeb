import Derived.Test.YtdcfhnbagldilaaGreatDoorMgE
import Derived.Test.YtdcfhnbagldilaaGreatDoorMgC
import Derived.Test.YtdcfhnbagldilaaGreatDoorMgU
import Derived.Test.YtdcfhnbagldilaaGreatDoorMgJ
import Derived.Lib.Join
import Derived.BigGuard
import Derived.Test.YtdcfhnbagldilaaGreatDoorMgT
import Derived.Test.YtdcfhnbagldilaaGreatDoorMgL
import Derived.Test.YtdcfhnbagldilaaGreatDoorMgR
set_option linter.unusedVariables false
set_option linter.unusedSimpArgs false
namespace Go.Proofs.YtdcfhnbagldilaaGreatDoor
open Go.RowKit Go.Shelf
namespace Oc
set_option maxHeartbeats 2000000 in
set_option maxRecDepth 100000 in
theorem WriteString_any (B b : Nat) (bs : List Value) (s : ByteArray) (w : World) (h : Lib.IsBuilder 105 5 B b bs w) (hlen : bs.length + s.size ≤ 140737488355328) (hBw : B ≤ w.heap.size) :
    Calls Tryz.prog 59 #[.pointer (some ⟨b, 0, none⟩), .string s] w fun e w' => e = .returned (.tuple #[.int .i64 s.size, .nilIface]) ∧ (Lib.BuilderAt 105 5 B b (.pointer (some ⟨b, 0, none⟩)) (bs ++ Lib.strCells s) w' ∧ Below B w w') := by
  obtain ⟨i0, hi, hz0, hz1, hz2⟩ := info_parts infoByte
  go_enter Tryz.func59, Tryz.ntmps59
  go_wp2_with fail
  refine (copyCheck_any B b bs _ h).mono ?_
  rintro e w1 ⟨rfl, h1, hb1, _⟩
  obtain ⟨hB, v, hbk, hown, hne⟩ := h1
  have c0 : w1.cell? ⟨b, 0, none⟩ = some (.pointer (some ⟨b, 0, none⟩)) := by rw [Lib.cell_of_heap hbk]; rfl
  have c1 : w1.cell? ⟨b, 1, none⟩ = some v := by rw [Lib.cell_of_heap hbk]; rfl
  have hs1 := hb1.size
  go_wp2_with (at_builtin; refine Lib.wpList_append_own_string _ rfl _ _ 53 9 rfl B 5 i0 Tryz.underlying53 Tryz.underlying9 hi hz0 hz1 hz2 _ _ _ rfl hown s rfl ?c3 ?c4 ?c5 ?_)
  case c3 => unfold maxLen; omega
  case c4 => omega
  case c5 => omega
  intro v' w2 hown' hgrow _
  have hlt : b < w1.heap.size := by
    rcases Nat.lt_or_ge b w1.heap.size with h' | h'
    · exact h'
    · simp [Array.getElem?_eq_none h'] at hbk
  have hb2 : w2.heap[b]? = some (.cells #[.pointer (some ⟨b, 0, none⟩), v] 105 (0, 0)) := by
    rw [hgrow.block b hlt (fun e => hne e.symm)]
    exact hbk
  have d0 : w2.cell? ⟨b, 0, none⟩ = some (.pointer (some ⟨b, 0, none⟩)) := by rw [Lib.cell_of_heap hb2]; rfl
  have d1 : w2.cell? ⟨b, 1, none⟩ = some v := by rw [Lib.cell_of_heap hb2]; rfl
  have f1 : w2.frozen? ⟨b, 1, none⟩ = false := Lib.frozen_of_heap hb2 1
  obtain ⟨ao, n', cap, rfl⟩ : ∃ ao n' cap, v' = .slice ao n' cap := by
    rcases hown'.2 with ⟨hv, _⟩ | ⟨g, cap, cur, hv, _⟩
    · exact ⟨_, _, _, hv⟩
    · exact ⟨_, _, _, hv⟩
  go_wp2
  go_ret2
  refine ⟨rfl, ?_, ?_⟩
  · exact Lib.BuilderAt.put (T := 105) (e := 5) hB hb2 (bs' := bs ++ Lib.strCells s) (by simpa [Lib.strCells_length] using hown') (by decide)
  · exact (hb1.grown hgrow (by omega) (fun k hk => (hown.lt k hk).1)).setCell (p := ⟨b, 1, none⟩) hB _
end Oc
end Go.Proofs.YtdcfhnbagldilaaGreatDoor
set_option linter.unusedVariables false
set_option linter.unusedSimpArgs false
namespace Go.Proofs.YtdcfhnbagldilaaGreatDoor
open Go.RowKit Go.Shelf
namespace Oc
def prtR (p : Prm) : List UInt8 × Int := match prt1 p with | some x => (x, 0) | none => ([], 15)
theorem cat_list (a b : ByteArray) : (a ++ b).data.toList = a.data.toList ++ b.data.toList := by simp
theorem cat_size (a b : ByteArray) : (a ++ b).size = a.size + b.size := by rw [← size_list, cat_list, List.length_append, size_list, size_list]
theorem to_str {s : ByteArray} {l : List UInt8} (h : s.data.toList = l) : s = str l := by rw [← h, str_self]
set_option maxRecDepth 100000 in
set_option maxHeartbeats 2000000 in
theorem printParam_any (n v : ByteArray) (b : Bool) (hn : n.size ≤ 16777216) (hv : v.size ≤ 16777216) (w : World) (t : Tab w) :
    Calls Tryz.prog 132 #[.agg #[.string n, .string v, .bool b]] w fun e w' => e = .returned (.tuple #[.string (str (prtR (n.data.toList, v.data.toList, b)).1), .int .i64 (prtR (n.data.toList, v.data.toList, b)).2]) ∧ Below w.heap.size w w' := by
  have b0 : Below w.heap.size w (w.alloc (.cells #[.string n, .string v, .bool b] 169)) := (Below.refl _ w).alloc (Nat.le_refl _) _
  have HT1 : Hid (Tab (w.alloc (.cells #[.string n, .string v, .bool b] 169))) := t.below b0 (Nat.le_refl _)
  have HB0 : Hid (Below w.heap.size w (w.alloc (.cells #[.string n, .string v, .bool b] 169))) := b0
  have HN : Hid (n.size ≤ maxLen) := (by unfold maxLen; omega : n.size ≤ maxLen)
  have HV : Hid (v.size ≤ maxLen) := (by unfold maxLen; omega : v.size ≤ maxLen)
  clear b0 t
  go_enter Tryz.func132, Tryz.ntmps132
  go_wp2_with fail
  refine (IsToken_any n HN.out _ HT1.out).mono ?_
  rintro e w1 ⟨rfl, hb1⟩
  have k0 : w1.cell? ⟨w.heap.size, 0, none⟩ = some (.string n) := (hb1.cell (p := ⟨w.heap.size, 0, none⟩) (by simp)).trans (by simp)
  have k1 : w1.cell? ⟨w.heap.size, 1, none⟩ = some (.string v) := (hb1.cell (p := ⟨w.heap.size, 1, none⟩) (by simp)).trans (by simp)
  have k2 : w1.cell? ⟨w.heap.size, 2, none⟩ = some (.bool b) := (hb1.cell (p := ⟨w.heap.size, 2, none⟩) (by simp)).trans (by simp)
  have hsz : w.heap.size < w1.heap.size := by have := hb1.size; simp at this; omega
  have HB1 : Hid (Below w.heap.size w w1) := bel_trans HB0.out hb1
  have HTw : Hid (Tab w1) := HT1.out.below hb1 (Nat.le_refl _)
  clear hb1
  cases htn : isTok n.data.toList with
  | false =>
    have HR : Hid (prtR (n.data.toList, v.data.toList, b) = ([], 15)) := (by unfold prtR prt1; rw [if_pos htn] : prtR _ = _)
    go_wp2
    go_ret2
    rw [HR.out]
    exact ⟨rfl, HB1.out⟩
  | true =>
    have htn' : ¬ isTok n.data.toList = false := by rw [htn]; simp
    cases b with
    | false =>
      by_cases hv0 : v.size = 0
      · have hve := empty_of hv0
        have hvl : v.data.toList = [] := List.length_eq_zero_iff.1 ((size_list v).trans hv0)
        have HR : Hid (prtR (n.data.toList, v.data.toList, false) = (59 :: 32 :: n.data.toList, 0)) := (by unfold prtR prt1; rw [if_neg htn', if_pos rfl, if_pos hvl] : prtR _ = _)
        have hz1 : (⟨#[59, 32]⟩ : ByteArray).size + n.size ≤ 9223372036854775807 := by show 2 + n.size ≤ _; omega
        have HC : Hid ((⟨#[59, 32]⟩ : ByteArray) ++ n = str (59 :: 32 :: n.data.toList)) := to_str (by rw [cat_list]; rfl)
        clear hvl htn htn'
        go_wp2
        go_ret2
        rw [HR.out]
        exact ⟨by rw [← HC.out]; rfl, HB1.out⟩
      · have hve := nonempty_of hv0
        have hvl : ¬ v.data.toList = [] := list_ne hv0
        have HR : Hid (prtR (n.data.toList, v.data.toList, false) = ([], 15)) := (by unfold prtR prt1; rw [if_neg htn', if_pos rfl, if_neg hvl] : prtR _ = _)
        clear hvl htn htn'
        go_wp2
        go_ret2
        rw [HR.out]
        exact ⟨rfl, HB1.out⟩
    | true =>
      have hne : ¬ (true = false) := by simp
      go_wp2_with fail
      refine (IsToken_any v HV.out _ HTw.out).mono ?_
      rintro e w2 ⟨rfl, hb2⟩
      have l0 : w2.cell? ⟨w.heap.size, 0, none⟩ = some (.string n) := (hb2.cell (p := ⟨w.heap.size, 0, none⟩) hsz).trans k0
      have l1 : w2.cell? ⟨w.heap.size, 1, none⟩ = some (.string v) := (hb2.cell (p := ⟨w.heap.size, 1, none⟩) hsz).trans k1
      have hsz2 : w.heap.size < w2.heap.size := by have := hb2.size; omega
      have HB2 : Hid (Below w.heap.size w w2) := bel_trans HB1.out hb2
      clear hb2 k0 k1 k2 HB1
      cases htv : isTok v.data.toList with
      | true =>
        have HR : Hid (prtR (n.data.toList, v.data.toList, true) = (59 :: 32 :: (n.data.toList ++ 61 :: v.data.toList), 0)) := (by unfold prtR prt1; rw [if_neg htn', if_neg hne, if_pos htv] : prtR _ = _)
        have hz1 : (⟨#[59, 32]⟩ : ByteArray).size + n.size ≤ 9223372036854775807 := by show 2 + n.size ≤ _; omega
        have hz2 : ((⟨#[59, 32]⟩ : ByteArray) ++ n).size + (⟨#[61]⟩ : ByteArray).size ≤ 9223372036854775807 := by rw [cat_size]; show 2 + n.size + 1 ≤ _; omega
        have hz3 : ((⟨#[59, 32]⟩ : ByteArray) ++ n ++ ⟨#[61]⟩).size + v.size ≤ 9223372036854775807 := by rw [cat_size, cat_size]; show 2 + n.size + 1 + v.size ≤ _; omega
        have HC : Hid ((⟨#[59, 32]⟩ : ByteArray) ++ n ++ ⟨#[61]⟩ ++ v = str (59 :: 32 :: (n.data.toList ++ 61 :: v.data.toList))) := to_str (by rw [cat_list, cat_list, cat_list]; simp)
        clear htn htn' htv hne
        go_wp2
        go_ret2
        rw [HR.out]
        exact ⟨by rw [← HC.out]; rfl, HB2.out⟩
      | false =>
        have htv' : ¬ isTok v.data.toList = true := by rw [htv]; simp
        go_wp2_with fail
        refine (Quote_any v hv _).mono ?_
        rintro e w3 ⟨rfl, hb3⟩
        have m0 : w3.cell? ⟨w.heap.size, 0, none⟩ = some (.string n) := (hb3.cell (p := ⟨w.heap.size, 0, none⟩) hsz2).trans l0
        have HB3 : Hid (Below w.heap.size w w3) := bel_trans HB2.out hb3
        clear hb3 l0 l1 HB2
        cases hf : isFld v.data.toList with
        | false =>
          have HQ : Hid (quoteR v.data.toList = ([], 13)) := (by unfold quoteR; rw [hf]; rfl : quoteR _ = _)
          have HR : Hid (prtR (n.data.toList, v.data.toList, true) = ([], 15)) := (by unfold prtR prt1; rw [if_neg htn', if_neg hne, if_neg htv', if_neg (by show ¬ isFld v.data.toList = true; rw [hf]; simp)] : prtR _ = _)
          clear htn htn' htv htv' hne hf
          rw [HQ.out]
          go_wp2
          go_ret2
          rw [HR.out]
          exact ⟨rfl, HB3.out⟩
        | true =>
          have HQ : Hid (quoteR v.data.toList = (qText v.data.toList, 0)) := (by unfold quoteR; rw [hf]; rfl : quoteR _ = _)
          have HR : Hid (prtR (n.data.toList, v.data.toList, true) = (59 :: 32 :: (n.data.toList ++ 61 :: qText v.data.toList), 0)) := (by unfold prtR prt1; rw [if_neg htn', if_neg hne, if_neg htv', if_pos hf] : prtR _ = _)
          have hql := qText_len v.data.toList
          rw [size_list, ← str_size] at hql
          have HQS : Hid ((str (qText v.data.toList)).data.toList = qText v.data.toList) := str_list _
          clear htn htn' htv htv' hne hf
          rw [HQ.out]
          dsimp only
          generalize str (qText v.data.toList) = q at *
          have hz1 : (⟨#[59, 32]⟩ : ByteArray).size + n.size ≤ 9223372036854775807 := by show 2 + n.size ≤ _; omega
          have hz2 : ((⟨#[59, 32]⟩ : ByteArray) ++ n).size + (⟨#[61]⟩ : ByteArray).size ≤ 9223372036854775807 := by rw [cat_size]; show 2 + n.size + 1 ≤ _; omega
          have hz3 : ((⟨#[59, 32]⟩ : ByteArray) ++ n ++ ⟨#[61]⟩).size + q.size ≤ 9223372036854775807 := by rw [cat_size, cat_size]; show 2 + n.size + 1 + q.size ≤ _; omega
          have HC : Hid ((⟨#[59, 32]⟩ : ByteArray) ++ n ++ ⟨#[61]⟩ ++ q = str (59 :: 32 :: (n.data.toList ++ 61 :: qText v.data.toList))) := to_str (by rw [cat_list, cat_list, cat_list, HQS.out]; simp)
          go_wp2
          go_ret2
          rw [HR.out]
          exact ⟨by rw [← HC.out]; rfl, HB3.out⟩
theorem bld_below {B b : Nat} {bs : List Value} {w w' : World} (h : Lib.IsBuilder 105 5 B b bs w) (hb : Below w.heap.size w w') : Lib.IsBuilder 105 5 B b bs w' := by
  have one : ∀ p, Lib.BuilderAt 105 5 B b p bs w → Lib.BuilderAt 105 5 B b p bs w' := by
    rintro p ⟨hB, v, hbk, hown, hne⟩
    have hlt : ∀ (k : Nat) o, w.heap[k]? = some o → k < w.heap.size := fun k o h => by
      rcases Nat.lt_or_ge k w.heap.size with h' | h'
      · exact h'
      · simp [Array.getElem?_eq_none h'] at h
    refine ⟨hB, v, by rw [hb.block b (hlt _ _ hbk)]; exact hbk, ⟨hown.1, ?_⟩, hne⟩
    rcases hown.2 with hn | ⟨g, cap, cur, rfl, h1, hg, rest⟩
    · exact .inl hn
    · exact .inr ⟨g, cap, cur, rfl, h1, by rw [hb.block g (hlt _ _ hg)]; exact hg, rest⟩
  rcases h with h | h
  · exact .inl (one _ h)
  · exact .inr (one _ h)
set_option maxRecDepth 100000 in
set_option maxHeartbeats 2000000 in
theorem Print_any (v : Value) (t : List Prm) (w : World) (h : RdP v t w) (hl : t.length ≤ 16777216) (hS : sumP t ≤ 8388608) (tb : Tab w) :
    Calls Tryz.prog 115 #[v] w fun e w' => e = .returned (.tuple #[.string (str (printR t).1), .int .i64 (printR t).2]) ∧ Below w.heap.size w w' := by
  obtain ⟨a, c, rfl, h⟩ := h
  have HR : Hid (t = [] ∨ ∃ g o, a = some ⟨g, o, none⟩ ∧ t.length ≤ c ∧ ∀ j, j < t.length → w.cell? ⟨g, o + j * 3, none⟩ = some (.string (str (nth t j).1)) ∧ w.cell? ⟨g, o + j * 3 + 1, none⟩ = some (.string (str (nth t j).2.1)) ∧ w.cell? ⟨g, o + j * 3 + 2, none⟩ = some (.bool (nth t j).2.2)) := h
  have HT : Hid (Tab w) := tb
  clear h tb
  go_enter Tryz.func115, Tryz.ntmps115
  go_wp2
  go_loopw [11] (fun i wr => ∃ (k : Nat) (acc : List UInt8), k ≤ t.length ∧ i = .int .i64 k ∧ acc.length + 2 * sumP (t.drop k) ≤ 16777216 ∧ Hid (prts t = (prts (t.drop k)).map (acc ++ ·)) ∧ Hid (Lib.IsBuilder 105 5 w.heap.size w.heap.size (Lib.byteCells acc) wr) ∧ Hid (Below w.heap.size w wr)) (fun i _ => t.length - (intOf i).toNat)
  case atStart => exact ⟨0, [], Nat.zero_le _, rfl, by simp; omega, (by simp : prts t = (prts (t.drop 0)).map ([] ++ ·)), Or.inl (bld_new w), (Below.refl _ w).alloc (Nat.le_refl _) _⟩
  case round =>
    obtain ⟨k, acc, hk, rfl, hacc, hst, hbld, hbl⟩ := hrel
    have hsz := hbl.out.size
    by_cases hlt : k < t.length
    · rcases HR.out with h | ⟨g, o, rfl, hc, hcell⟩
      · rw [h] at hlt; simp at hlt
      obtain ⟨c0, c1, c2⟩ := hcell k hlt
      have hg : g < w.heap.size := World.block_lt_of_cell? w _ c0
      have d0 : wr.cell? ⟨g, o + k * 3, none⟩ = some (.string (str (nth t k).1)) := (hbl.out.cell (p := ⟨g, o + k * 3, none⟩) hg).trans c0
      have d1 : wr.cell? ⟨g, o + k * 3 + 1, none⟩ = some (.string (str (nth t k).2.1)) := (hbl.out.cell (p := ⟨g, o + k * 3 + 1, none⟩) hg).trans c1
      have d2 : wr.cell? ⟨g, o + k * 3 + 2, none⟩ = some (.bool (nth t k).2.2) := (hbl.out.cell (p := ⟨g, o + k * 3 + 2, none⟩) hg).trans c2
      clear hcell c0 c1 c2
      have hz := nth_sz t k hlt
      rw [sumP_drop t k hlt] at hacc
      have HStep : Hid (∀ x, prt1 (nth t k) = some x → prts t = (prts (t.drop (k + 1))).map ((acc ++ x) ++ ·)) := fun x hx => prts_step hlt hst.out hx
      have HBad : Hid (prt1 (nth t k) = none → printR t = ([], 15)) := fun hx => prts_bad hlt hst.out hx
      have HLen : Hid (∀ x, prt1 (nth t k) = some x → x.length ≤ 2 * szP (nth t k)) := fun x hx => prt1_len hx
      have hgr : g ≠ wr.heap.size := by omega
      generalize nth t k = p at *
      obtain ⟨pn, pv, pb⟩ := p
      unfold szP at hz hacc HLen
      dsimp only at hz hacc HLen d0 d1 d2
      have hn := str_size pn
      have hv := str_size pv
      have HL1 : Hid ((str pn).data.toList = pn) := str_list pn
      have HL2 : Hid ((str pv).data.toList = pv) := str_list pv
      generalize str pn = n at *
      generalize str pv = v at *
      have HB3 : Hid (Below w.heap.size w (wr.alloc (.cells #[.string n, .string v, .bool pb] 169))) := hbl.out.alloc hsz _
      have HBd3 : Hid (Lib.IsBuilder 105 5 w.heap.size w.heap.size (Lib.byteCells acc) (wr.alloc (.cells #[.string n, .string v, .bool pb] 169))) := bld_below hbld.out ((Below.refl _ wr).alloc (Nat.le_refl _) _)
      have HT3 : Hid (Tab (wr.alloc (.cells #[.string n, .string v, .bool pb] 169))) := HT.out.below HB3.out (Nat.le_refl _)
      go_wp2_with fail
      refine (printParam_any n v pb (by omega) (by omega) _ HT3.out).mono ?_
      rintro e w4 ⟨rfl, hb4⟩
      rw [HL1.out, HL2.out]
      have HB4 : Hid (Below w.heap.size w w4) := bel_trans HB3.out hb4
      have HBd4 : Hid (Lib.IsBuilder 105 5 w.heap.size w.heap.size (Lib.byteCells acc) w4) := bld_below HBd3.out hb4
      have hs4 := HB4.out.size
      clear hb4 HB3 HBd3 HT3
      cases hp : prt1 (pn, pv, pb) with
      | none =>
        have HP : Hid (prtR (pn, pv, pb) = ([], 15)) := (by unfold prtR; rw [hp] : prtR _ = _)
        have HE : Hid (printR t = ([], 15)) := HBad.out hp
        clear hp
        rw [HP.out]
        go_wp2
        go_ret2
        rw [HE.out]
        exact ⟨rfl, HB4.out⟩
      | some x =>
        have HP : Hid (prtR (pn, pv, pb) = (x, 0)) := (by unfold prtR; rw [hp] : prtR _ = _)
        have HS2 : Hid (prts t = (prts (t.drop (k + 1))).map ((acc ++ x) ++ ·)) := HStep.out x hp
        have hxl := HLen.out x hp
        clear hp
        rw [HP.out]
        dsimp only
        have hxs := str_size x
        have HXL : Hid (Lib.strCells (str x) = Lib.byteCells x) := (by rw [Lib.strCells_eq, str_list] : Lib.strCells (str x) = _)
        have HA : Hid ((Lib.byteCells acc).length + (str x).size ≤ 140737488355328) := (by rw [Lib.byteCells_length, str_size]; omega : (Lib.byteCells acc).length + (str x).size ≤ 140737488355328)
        generalize str x = y at *
        go_wp2_with fail
        refine (WriteString_any w.heap.size w.heap.size _ y w4 HBd4.out HA.out hs4).mono ?_
        rintro e w5 ⟨rfl, h5, hb5⟩
        rw [HXL.out, ← Lib.byteCells_append] at h5
        have HBd5 : Hid (Lib.IsBuilder 105 5 w.heap.size w.heap.size (Lib.byteCells (acc ++ x)) w5) := Or.inr h5
        have HB5 : Hid (Below w.heap.size w w5) := HB4.out.trans hb5
        clear h5 hb5
        go_wp2
        exact ⟨⟨k + 1, acc ++ x, by omega, by go_num, by rw [List.length_append]; omega, HS2, HBd5, HB5⟩, by simp [intOf]; omega⟩
    · obtain rfl : k = t.length := by omega
      have hpe := prts_end hst.out
      have HE : Hid (printR t = (acc, 0)) := (by unfold printR; rw [hpe] : printR t = _)
      clear hpe
      go_wp2_with fail
      refine (Tryz.Builder_String_any w.heap.size w.heap.size _ wr hbld.out hsz).mono ?_
      rintro e w5 ⟨rfl, hb5⟩
      have HB5 : Hid (Below w.heap.size w w5) := hbl.out.trans hb5
      clear hb5
      go_wp2
      go_ret2
      rw [HE.out]
      exact ⟨rfl, HB5.out⟩
end Oc
end Go.Proofs.YtdcfhnbagldilaaGreatDoor
set_option linter.unusedVariables false
set_option linter.unusedSimpArgs false
set_option maxRecDepth 100000
namespace Go.Proofs.YtdcfhnbagldilaaGreatDoor
open Go.RowKit Go.Shelf
namespace Ck
open Oc Tg _root_.Go.Proofs.YtdcfhnbagldilaaGreatDoor.Fd
def Deb (w : World) : Prop := w.cell? ⟨4, 15, none⟩ = some (.int .u8 4)
theorem Deb.below {w w' : World} (h : Deb w) (b : Below w.heap.size w w') : Deb w' := (b.cell (World.block_lt_of_cell? w _ h)).trans h
def sizeP (n : Int) (t : List Prm) : List UInt8 × Int :=
  if n < 0 ∨ 1099511627776 < n then ([], 1) else match prts t with
    | none => ([], 15)
    | some x => if 254 < (hexd n.toNat ++ x).length then ([], 100) else (hexd n.toNat ++ x, 0)
def lineC (n : Nat) : List UInt8 := hexd n ++ [13, 10]
def chunkC (t : List UInt8) : List UInt8 := if t = [] then [] else lineC t.length ++ t ++ [13, 10]
end Ck
end Go.Proofs.YtdcfhnbagldilaaGreatDoor
set_option linter.unusedVariables false
set_option linter.unusedSimpArgs false
set_option maxRecDepth 100000
namespace Go.Proofs.YtdcfhnbagldilaaGreatDoor
open Go.RowKit Go.Shelf
namespace Ck
open Oc Tg _root_.Go.Proofs.YtdcfhnbagldilaaGreatDoor.Fd
def okT (p : Fl) : Bool := isName p.1 && isValue p.2 && trails p.1
def trailG (t : List Fl) : List UInt8 := t.flatMap fun p => lineP p ++ [13, 10]
def trailP (t : List Fl) : List UInt8 × Int := if t.all okT then (trailG t ++ [13, 10], 0) else ([], 101)
theorem all_of (t : List Fl) (h : ∀ j, j < t.length → okT (Fd.nth t j) = true) : t.all okT = true := by
  rw [List.all_eq_true]
  intro p hp
  obtain ⟨j, hj, rfl⟩ := List.mem_iff_getElem.1 hp
  have := h j hj
  unfold Fd.nth at this
  rw [List.getD_eq_getElem?_getD, List.getElem?_eq_getElem hj] at this
  exact this
end Ck
end Go.Proofs.YtdcfhnbagldilaaGreatDoor
set_option linter.unusedVariables false
set_option linter.unusedSimpArgs false
set_option maxRecDepth 100000
namespace Go.Proofs.YtdcfhnbagldilaaGreatDoor
open Go.RowKit Go.Shelf
namespace Ck
open Oc Tg _root_.Go.Proofs.YtdcfhnbagldilaaGreatDoor.Fd
def nthI (l : List Int) (j : Nat) : Int := l.getD j 0
def lowI1 (l : List Int) : Int := match l.findIdx? (fun x => decide (x < 1)) with | some k => (k : Int) | none => -1
def cutC : List Int → List UInt8 → List UInt8
  | [], b => chunkC b
  | n :: ns, b => chunkC (b.take n.toNat) ++ cutC ns (b.drop n.toNat)
def encR (body : List UInt8) (sizes : List Int) (t : List Fl) : List UInt8 × Int :=
  if 0 ≤ lowI1 sizes then ([], 1) else if t.all okT then (cutC sizes body ++ lineC 0 ++ (trailG t ++ [13, 10]), 0) else ([], 101)
end Ck
end Go.Proofs.YtdcfhnbagldilaaGreatDoor
