/-
  sheet: PrintPairs, the document's and the program's; the law's known; SheetPrints.
-/
import Derived.Test.YtpoefoepmigbeaaDoorShR
import Derived.Test.YtpoefoepmigbeaaDoorShB
import Derived.Test.YtpoefoepmigbeaaDoorGPrq
import Derived.Test.YtpoefoepmigbeaaDoorGKn
set_option linter.unusedVariables false
set_option linter.unusedSimpArgs false
namespace Go.Proofs.YtpoefoepmigbeaaDoor
open Go.RowKit Go.Shelf
namespace Tg
open Oc

theorem str_emp (l : List UInt8) : (str l).toList.isEmpty = true ↔ l = [] := by
  rw [ByteArray.toList_eq, str_list]
  simp

attribute [local go_sem ↓] Go.wp_at_zero Go.wp_at_succ
set_option maxRecDepth 100000 in
set_option maxHeartbeats 4000000 in
theorem rPrintPairs_any (v : Value) (t : List Prm) (hb : t.length + sumQ t ≤ 1048576) (w : World) (hr : RdQ v t w) :
    Calls Tryd.prog 11 #[v] w fun e w' => e = .returned (.tuple #[.string (str (prcR t).1), .int .i64 (prcR t).2]) ∧ Below w.heap.size w w' := by
  obtain ⟨a, c, rfl, hcs⟩ := hr
  have HC : Hid (t = [] ∨ ∃ g o, a = some ⟨g, o, none⟩ ∧ t.length ≤ c ∧ ∀ j, j < t.length → w.cell? ⟨g, o + j * 3, none⟩ = some (.string (str (nth t j).1)) ∧ w.cell? ⟨g, o + j * 3 + 1, none⟩ = some (.string (str (nth t j).2.1)) ∧ w.cell? ⟨g, o + j * 3 + 2, none⟩ = some (.bool (nth t j).2.2)) := hcs
  have HN : Hid (_) := Ow.none w
  clear hcs
  go_enter Tryd.func11, Tryd.ntmps11
  go_wp2
  go_loopw [4, 5] (fun ov i wr => ∃ k : Nat, k ≤ t.length ∧ i = .int .i64 k ∧ Hid ((t.take k).all okQ = true) ∧ Hid (Ow w.heap.size ov (joinF codB (t.take k)) wr) ∧ Hid (Below w.heap.size w wr)) (fun _ i _ => t.length - (intOf i).toNat)
  case atStart => exact ⟨0, Nat.zero_le _, rfl, (rfl : (t.take 0).all okQ = true), HN.out, (Below.refl _ w).alloc (Nat.le_refl _) _⟩
  case round =>
    obtain ⟨k, hk, rfl, hA, hown, hW⟩ := hrel
    have hsz := hW.out.size
    by_cases hlt : k < t.length
    · rcases HC.out with h | ⟨g, o, rfl, hcap, hcell⟩
      · rw [h] at hlt; simp at hlt
      obtain ⟨c0, c1, c2⟩ := hcell k hlt
      have hg : g < w.heap.size := World.block_lt_of_cell? w _ c0
      have d0 : wr.cell? ⟨g, o + k * 3, none⟩ = some (.string (str (nth t k).1)) := (hW.out.cell (p := ⟨g, o + k * 3, none⟩) hg).trans c0
      have d1 : wr.cell? ⟨g, o + k * 3 + 1, none⟩ = some (.string (str (nth t k).2.1)) := (hW.out.cell (p := ⟨g, o + k * 3 + 1, none⟩) hg).trans c1
      have d2 : wr.cell? ⟨g, o + k * 3 + 2, none⟩ = some (.bool (nth t k).2.2) := (hW.out.cell (p := ⟨g, o + k * 3 + 2, none⟩) hg).trans c2
      clear hcell c0 c1 c2
      have hjl := joinF_len codB codB_len (t.take k)
      have hst := sumQ_take t k
      have hgl := szQ_le t k hlt
      have HJ : Hid ((joinF codB (t.take k)).length ≤ 6000000) := by show _ ≤ _; rw [List.length_take] at hjl; omega
      have HBad : Hid (okQ (nth t k) = false → prcR t = ([], 150)) := fun h => prc_bad t k hlt h
      have HAll : Hid (okQ (nth t k) = true → (t.take (k + 1)).all okQ = true) := fun h => all_snocQ t k hlt hA.out h
      have HT : Hid (joinF codB (t.take (k + 1)) = if t.take k = [] then txF codB (nth t k) else joinF codB (t.take k) ++ 38 :: txF codB (nth t k)) := (by rw [take_snocQ t k hlt, joinF_snoc]; rfl : joinF codB (t.take (k + 1)) = _)
      have hgl' : szQ (nth t k) ≤ sumQ t := hgl
      have hgz : g < wr.heap.size := by omega
      clear hjl hst hgl
      generalize nth t k = p at *
      obtain ⟨pn, pv, pb⟩ := p
      unfold szQ at hgl'
      dsimp only at d0 d1 d2 hgl'
      have hn := str_size pn
      have hv := str_size pv
      have HE1 : Hid (∀ W, Calls Tryd.prog 20 #[.string (str pn)] W fun e W' => e = .returned (.string (str (cod pn))) ∧ Below W.heap.size W W') := fun W => by
        have := rcoded_any (str pn) (by omega) W
        rw [str_list] at this
        exact this
      have HE2 : Hid (∀ W, Calls Tryd.prog 20 #[.string (str pv)] W fun e W' => e = .returned (.string (str (cod pv))) ∧ Below W.heap.size W W') := fun W => by
        have := rcoded_any (str pv) (by omega) W
        rw [str_list] at this
        exact this
      have HY1 : Hid ((str (cod pn)).data.toList = cod pn) := str_list _
      have HY2 : Hid ((str (cod pv)).data.toList = cod pv) := str_list _
      have hz1 : (str (cod pn)).size ≤ 3145728 := by rw [str_size]; have := cod_len pn; omega
      have hz2 : (str (cod pv)).size ≤ 3145728 := by rw [str_size]; have := cod_len pv; omega
      have hz3 : Hid ((str (cod pn)).data.toList.length ≤ 3145728) := by show _ ≤ _; rw [str_list]; have := cod_len pn; omega
      have hz4 : Hid (((⟨#[61]⟩ : ByteArray) ++ str (cod pv)).data.toList = 61 :: cod pv) := by show _ = _; rw [ByteArray.data_append, Array.toList_append, str_list]; rfl
      have HNe : Hid ((str pn).toList.isEmpty = true ↔ pn = []) := str_emp pn
      have HVe : Hid ((str pv).toList.isEmpty = true ↔ pv = []) := str_emp pv
      have hacc0 : k = 0 → joinF codB (t.take k) = [] := fun e => by subst e; rfl
      generalize str (cod pn) = Y1 at *
      generalize str (cod pv) = Y2 at *
      generalize str pn = n at *
      generalize str pv = v at *
      generalize joinF codB (t.take k) = acc at *
      cases pb with
      | true =>
        have HAk : Hid ((t.take (k + 1)).all okQ = true) := HAll.out rfl
        by_cases hk0 : k = 0
        · have hT0 : t.take k = [] := by rw [hk0]; rfl
          have hacc : acc = [] := hacc0 hk0
          subst hacc
          have hk1 : ¬ (0 : Int) < (k : Int) := by omega
          have hk2 : ¬ 0 < k := by omega
          have HT0 : Hid (t.take k = []) := hT0
          clear hT0 hk0
          have HO1 : Hid (Ow w.heap.size u4 ([] : List UInt8) wr) := hown.out
          have HW1 : Hid (Below w.heap.size w wr) := hW.out
          have hs1 := HW1.out.size
          have x1_1 := d1
          have x2_1 := d2
          go_wp2_with fail
          refine (HE1.out _).mono ?_
          rintro e w2 ⟨rfl, hb'⟩
          have HO2 : Hid (Ow w.heap.size _ ([] : List UInt8) w2) := HO1.out.below hb'
          have HW2 : Hid (Below w.heap.size w w2) := HW1.out.trans (hb'.mono hs1)
          have x1_2 := (hb'.cell (p := ⟨g, o + k * 3 + 1, none⟩) (Nat.lt_of_lt_of_le hg hs1)).trans x1_1
          have x2_2 := (hb'.cell (p := ⟨g, o + k * 3 + 2, none⟩) (Nat.lt_of_lt_of_le hg hs1)).trans x2_1
          have hs2 := HW2.out.size
          clear hb'
          go_wp2_with (at_builtin; go_must (refine wp_apS rfl (.tmp 40) (.tmp 46) rfl w.heap.size _ ([] : List UInt8) Y1 _ rfl HO2.out rfl (by have := HJ.out; have := hz3.out; (try simp only [List.length_append, List.length_cons, List.length_nil]); omega) hs2 ?_))
          intro v3 w3 ho' hb'
          have HO3 : Hid (Ow w.heap.size v3 (([] : List UInt8) ++ Y1.data.toList) w3) := (by first | exact ho' | (rw [List.append_assoc]; exact ho') : Ow _ _ _ _)
          have HW3 : Hid (Below w.heap.size w w3) := HW2.out.trans hb'
          have x1_3 := (hb'.cell (p := ⟨g, o + k * 3 + 1, none⟩) hg).trans x1_2
          have x2_3 := (hb'.cell (p := ⟨g, o + k * 3 + 2, none⟩) hg).trans x2_2
          have hs3 := HW3.out.size
          clear ho' hb'
          have HTk : Hid (joinF codB (t.take (k + 1)) = (([] : List UInt8) ++ Y1.data.toList) ++ (61 :: cod pv)) := (by rw [HT.out]; rw [if_pos HT0.out]; rw [HY1.out]; simp [txF, cod] : joinF codB (t.take (k + 1)) = _)
          have hTL : Hid ((([] : List UInt8) ++ Y1.data.toList).length ≤ 12000000) := (by have := HJ.out; have := hz3.out; (try simp only [List.length_append, List.length_cons, List.length_nil]); omega : _ ≤ _)
          generalize ([] : List UInt8) ++ Y1.data.toList = tt at *
          go_wp2_with fail
          refine (HE2.out _).mono ?_
          rintro e w4 ⟨rfl, hb'⟩
          have HO4 : Hid (Ow w.heap.size v3 tt w4) := HO3.out.below hb'
          have HW4 : Hid (Below w.heap.size w w4) := HW3.out.trans (hb'.mono hs3)
          have hs4 := HW4.out.size
          have hsz6 : (1 : Nat) + Y2.size ≤ 4000000 := by omega
          clear hb'
          go_wp2_with (at_builtin; go_must (refine wp_apS rfl (.tmp 53) (.tmp 60) rfl w.heap.size _ tt _ _ rfl HO4.out rfl (by have := hTL.out; rw [ByteArray.size_append, show (⟨#[61]⟩ : ByteArray).size = 1 from rfl]; omega) hs4 ?_))
          intro v5 w5 ho' hb'
          have HO5 : Hid (Ow w.heap.size v5 (joinF codB (t.take (k + 1))) w5) := (by rw [HTk.out, ← hz4.out]; exact ho' : Ow _ _ _ _)
          have HW5 : Hid (Below w.heap.size w w5) := HW4.out.trans hb'
          clear ho' hb'
          go_wp2
          go_roundw
          case rel => exact ⟨k + 1, by omega, by go_num, HAk, HO5, HW5⟩
          case measure => simp [intOf]; omega
        · have hTk : Hid (t.take k ≠ []) := (by intro e; have := congrArg List.length e; rw [List.length_take, List.length_nil] at this; omega : t.take k ≠ [])
          have hk1 : (0 : Int) < (k : Int) := by omega
          have hk2 : 0 < k := by omega
          go_wp2_with (at_builtin; go_must (refine wp_ap rfl (.tmp 37) (.tmp 38) rfl w.heap.size _ acc [38] _ _ rfl rfl hown.out rfl (by have := HJ.out; have := hz3.out; (try simp only [List.length_append, List.length_cons, List.length_nil]); omega) hsz ?_))
          intro v1 w1 ho' hb'
          have HO1 : Hid (Ow w.heap.size v1 (acc ++ [38]) w1) := ho'
          have HW1 : Hid (Below w.heap.size w w1) := hW.out.trans hb'
          have x0_1 := (hb'.cell (p := ⟨g, o + k * 3, none⟩) hg).trans d0
          have x1_1 := (hb'.cell (p := ⟨g, o + k * 3 + 1, none⟩) hg).trans d1
          have x2_1 := (hb'.cell (p := ⟨g, o + k * 3 + 2, none⟩) hg).trans d2
          clear ho' hb'
          have hs1 := HW1.out.size
          go_wp2_with fail
          refine (HE1.out _).mono ?_
          rintro e w2 ⟨rfl, hb'⟩
          have HO2 : Hid (Ow w.heap.size _ (acc ++ [38]) w2) := HO1.out.below hb'
          have HW2 : Hid (Below w.heap.size w w2) := HW1.out.trans (hb'.mono hs1)
          have x1_2 := (hb'.cell (p := ⟨g, o + k * 3 + 1, none⟩) (Nat.lt_of_lt_of_le hg hs1)).trans x1_1
          have x2_2 := (hb'.cell (p := ⟨g, o + k * 3 + 2, none⟩) (Nat.lt_of_lt_of_le hg hs1)).trans x2_1
          have hs2 := HW2.out.size
          clear hb'
          go_wp2_with (at_builtin; go_must (refine wp_apS rfl (.tmp 40) (.tmp 46) rfl w.heap.size _ (acc ++ [38]) Y1 _ rfl HO2.out rfl (by have := HJ.out; have := hz3.out; (try simp only [List.length_append, List.length_cons, List.length_nil]); omega) hs2 ?_))
          intro v3 w3 ho' hb'
          have HO3 : Hid (Ow w.heap.size v3 ((acc ++ [38]) ++ Y1.data.toList) w3) := (by first | exact ho' | (rw [List.append_assoc]; exact ho') : Ow _ _ _ _)
          have HW3 : Hid (Below w.heap.size w w3) := HW2.out.trans hb'
          have x1_3 := (hb'.cell (p := ⟨g, o + k * 3 + 1, none⟩) hg).trans x1_2
          have x2_3 := (hb'.cell (p := ⟨g, o + k * 3 + 2, none⟩) hg).trans x2_2
          have hs3 := HW3.out.size
          clear ho' hb'
          have HTk : Hid (joinF codB (t.take (k + 1)) = ((acc ++ [38]) ++ Y1.data.toList) ++ (61 :: cod pv)) := (by rw [HT.out]; rw [if_neg hTk.out]; rw [HY1.out]; simp [txF, cod] : joinF codB (t.take (k + 1)) = _)
          have hTL : Hid (((acc ++ [38]) ++ Y1.data.toList).length ≤ 12000000) := (by have := HJ.out; have := hz3.out; (try simp only [List.length_append, List.length_cons, List.length_nil]); omega : _ ≤ _)
          generalize (acc ++ [38]) ++ Y1.data.toList = tt at *
          go_wp2_with fail
          refine (HE2.out _).mono ?_
          rintro e w4 ⟨rfl, hb'⟩
          have HO4 : Hid (Ow w.heap.size v3 tt w4) := HO3.out.below hb'
          have HW4 : Hid (Below w.heap.size w w4) := HW3.out.trans (hb'.mono hs3)
          have hs4 := HW4.out.size
          have hsz6 : (1 : Nat) + Y2.size ≤ 4000000 := by omega
          clear hb'
          go_wp2_with (at_builtin; go_must (refine wp_apS rfl (.tmp 53) (.tmp 60) rfl w.heap.size _ tt _ _ rfl HO4.out rfl (by have := hTL.out; rw [ByteArray.size_append, show (⟨#[61]⟩ : ByteArray).size = 1 from rfl]; omega) hs4 ?_))
          intro v5 w5 ho' hb'
          have HO5 : Hid (Ow w.heap.size v5 (joinF codB (t.take (k + 1))) w5) := (by rw [HTk.out, ← hz4.out]; exact ho' : Ow _ _ _ _)
          have HW5 : Hid (Below w.heap.size w w5) := HW4.out.trans hb'
          clear ho' hb'
          go_wp2
          go_roundw
          case rel => exact ⟨k + 1, by omega, by go_num, HAk, HO5, HW5⟩
          case measure => simp [intOf]; omega
      | false =>
        by_cases hn0 : n.toList.isEmpty = true
        · have HB : Hid (prcR t = ([], 150)) := HBad.out (by unfold okQ; simp [HNe.out.1 hn0])
          go_wp2
          go_ret2
          exact ⟨by rw [HB.out]; rfl, hW.out⟩
        · have hn0 : n.toList.isEmpty = false := by simpa using hn0
          by_cases hv0 : v.toList.isEmpty = true
          · have HAk : Hid ((t.take (k + 1)).all okQ = true) := HAll.out (by
              unfold okQ
              have hne : ¬ pn = [] := fun e => by have := HNe.out.2 e; rw [hn0] at this; cases this
              simp [HVe.out.1 hv0, hne])
            by_cases hk0 : k = 0
            · have hT0 : t.take k = [] := by rw [hk0]; rfl
              have hacc : acc = [] := hacc0 hk0
              subst hacc
              have hk1 : ¬ (0 : Int) < (k : Int) := by omega
              have hk2 : ¬ 0 < k := by omega
              have HT0 : Hid (t.take k = []) := hT0
              clear hT0 hk0
              have HO1 : Hid (Ow w.heap.size u4 ([] : List UInt8) wr) := hown.out
              have HW1 : Hid (Below w.heap.size w wr) := hW.out
              have hs1 := HW1.out.size
              have x1_1 := d1
              have x2_1 := d2
              go_wp2_with fail
              refine (HE1.out _).mono ?_
              rintro e w2 ⟨rfl, hb'⟩
              have HO2 : Hid (Ow w.heap.size _ ([] : List UInt8) w2) := HO1.out.below hb'
              have HW2 : Hid (Below w.heap.size w w2) := HW1.out.trans (hb'.mono hs1)
              have x1_2 := (hb'.cell (p := ⟨g, o + k * 3 + 1, none⟩) (Nat.lt_of_lt_of_le hg hs1)).trans x1_1
              have x2_2 := (hb'.cell (p := ⟨g, o + k * 3 + 2, none⟩) (Nat.lt_of_lt_of_le hg hs1)).trans x2_1
              have hs2 := HW2.out.size
              clear hb'
              go_wp2_with (at_builtin; go_must (refine wp_apS rfl (.tmp 40) (.tmp 46) rfl w.heap.size _ ([] : List UInt8) Y1 _ rfl HO2.out rfl (by have := HJ.out; have := hz3.out; (try simp only [List.length_append, List.length_cons, List.length_nil]); omega) hs2 ?_))
              intro v3 w3 ho' hb'
              have HO3 : Hid (Ow w.heap.size v3 (([] : List UInt8) ++ Y1.data.toList) w3) := (by first | exact ho' | (rw [List.append_assoc]; exact ho') : Ow _ _ _ _)
              have HW3 : Hid (Below w.heap.size w w3) := HW2.out.trans hb'
              have x1_3 := (hb'.cell (p := ⟨g, o + k * 3 + 1, none⟩) hg).trans x1_2
              have x2_3 := (hb'.cell (p := ⟨g, o + k * 3 + 2, none⟩) hg).trans x2_2
              have hs3 := HW3.out.size
              clear ho' hb'
              have HO5 : Hid (Ow w.heap.size v3 (joinF codB (t.take (k + 1))) w3) := (by rw [HT.out]; rw [if_pos HT0.out]; rw [show txF codB (pn, pv, false) = cod pn from rfl, ← HY1.out]; first | exact HO3.out | (have := HO3.out; simpa using this) : Ow _ _ _ _)
              go_wp2
              go_roundw
              case rel => exact ⟨k + 1, by omega, by go_num, HAk, HO5, HW3⟩
              case measure => simp [intOf]; omega
            · have hTk : Hid (t.take k ≠ []) := (by intro e; have := congrArg List.length e; rw [List.length_take, List.length_nil] at this; omega : t.take k ≠ [])
              have hk1 : (0 : Int) < (k : Int) := by omega
              have hk2 : 0 < k := by omega
              go_wp2_with (at_builtin; go_must (refine wp_ap rfl (.tmp 37) (.tmp 38) rfl w.heap.size _ acc [38] _ _ rfl rfl hown.out rfl (by have := HJ.out; have := hz3.out; (try simp only [List.length_append, List.length_cons, List.length_nil]); omega) hsz ?_))
              intro v1 w1 ho' hb'
              have HO1 : Hid (Ow w.heap.size v1 (acc ++ [38]) w1) := ho'
              have HW1 : Hid (Below w.heap.size w w1) := hW.out.trans hb'
              have x0_1 := (hb'.cell (p := ⟨g, o + k * 3, none⟩) hg).trans d0
              have x1_1 := (hb'.cell (p := ⟨g, o + k * 3 + 1, none⟩) hg).trans d1
              have x2_1 := (hb'.cell (p := ⟨g, o + k * 3 + 2, none⟩) hg).trans d2
              clear ho' hb'
              have hs1 := HW1.out.size
              go_wp2_with fail
              refine (HE1.out _).mono ?_
              rintro e w2 ⟨rfl, hb'⟩
              have HO2 : Hid (Ow w.heap.size _ (acc ++ [38]) w2) := HO1.out.below hb'
              have HW2 : Hid (Below w.heap.size w w2) := HW1.out.trans (hb'.mono hs1)
              have x1_2 := (hb'.cell (p := ⟨g, o + k * 3 + 1, none⟩) (Nat.lt_of_lt_of_le hg hs1)).trans x1_1
              have x2_2 := (hb'.cell (p := ⟨g, o + k * 3 + 2, none⟩) (Nat.lt_of_lt_of_le hg hs1)).trans x2_1
              have hs2 := HW2.out.size
              clear hb'
              go_wp2_with (at_builtin; go_must (refine wp_apS rfl (.tmp 40) (.tmp 46) rfl w.heap.size _ (acc ++ [38]) Y1 _ rfl HO2.out rfl (by have := HJ.out; have := hz3.out; (try simp only [List.length_append, List.length_cons, List.length_nil]); omega) hs2 ?_))
              intro v3 w3 ho' hb'
              have HO3 : Hid (Ow w.heap.size v3 ((acc ++ [38]) ++ Y1.data.toList) w3) := (by first | exact ho' | (rw [List.append_assoc]; exact ho') : Ow _ _ _ _)
              have HW3 : Hid (Below w.heap.size w w3) := HW2.out.trans hb'
              have x1_3 := (hb'.cell (p := ⟨g, o + k * 3 + 1, none⟩) hg).trans x1_2
              have x2_3 := (hb'.cell (p := ⟨g, o + k * 3 + 2, none⟩) hg).trans x2_2
              have hs3 := HW3.out.size
              clear ho' hb'
              have HO5 : Hid (Ow w.heap.size v3 (joinF codB (t.take (k + 1))) w3) := (by rw [HT.out]; rw [if_neg hTk.out]; rw [show txF codB (pn, pv, false) = cod pn from rfl, ← HY1.out]; first | exact HO3.out | (have := HO3.out; simpa using this) : Ow _ _ _ _)
              go_wp2
              go_roundw
              case rel => exact ⟨k + 1, by omega, by go_num, HAk, HO5, HW3⟩
              case measure => simp [intOf]; omega
          · have hv0 : v.toList.isEmpty = false := by simpa using hv0
            have HB : Hid (prcR t = ([], 150)) := HBad.out (by
              unfold okQ
              have hne : ¬ pv = [] := fun e => by have := HVe.out.2 e; rw [hv0] at this; cases this
              simp [hne])
            go_wp2
            go_ret2
            exact ⟨by rw [HB.out]; rfl, hW.out⟩
    · obtain rfl : k = t.length := by omega
      have hE := prc_good t hA.out
      have hback := hown.out.back
      rw [List.take_length] at hback
      have HE : Hid (prcR t = (joinF codB t, 0)) := hE
      clear hE
      obtain ⟨R, hR⟩ : ∃ R, R = joinF codB t := ⟨_, rfl⟩
      rw [← hR] at hback HE
      clear hR
      go_wp2
      go_ret2
      exact ⟨by rw [HE.out]; rfl, hW.out⟩

set_option maxRecDepth 100000 in
set_option maxHeartbeats 4000000 in
theorem known15_any (v : Value) (t : List Prm) (w : World) (h : RdQ v t w) (hl : t.length ≤ 16777216) :
    Calls Tryd.prog 9 #[v] w fun e w' => ∃ u, e = .returned u ∧ OwnQ 46 w.heap.size u t w' ∧ Below w.heap.size w w' := by
  obtain ⟨a, c, rfl, h⟩ := h
  have HR : Hid (t = [] ∨ ∃ g o, a = some ⟨g, o, none⟩ ∧ t.length ≤ c ∧ ∀ j, j < t.length → w.cell? ⟨g, o + j * 3, none⟩ = some (.string (str (nth t j).1)) ∧ w.cell? ⟨g, o + j * 3 + 1, none⟩ = some (.string (str (nth t j).2.1)) ∧ w.cell? ⟨g, o + j * 3 + 2, none⟩ = some (.bool (nth t j).2.2)) := h
  clear h
  go_enter Tryd.func9, Tryd.ntmps9
  go_wp2
  go_loopw [3, 4] (fun ov i wr => ∃ k : Nat, k ≤ t.length ∧ i = .int .i64 k ∧ Hid (OwnQ 46 w.heap.size ov (t.take k) wr) ∧ Hid (Below w.heap.size w wr)) (fun _ i _ => t.length - (intOf i).toNat)
  case atStart => exact ⟨0, Nat.zero_le _, rfl, ownQ_empty _ w (Nat.le_refl _), (Below.refl _ w).alloc (Nat.le_refl _) _⟩
  case round =>
    obtain ⟨k, hk, rfl, hown, hbl⟩ := hrel
    have hsz := hbl.out.size
    by_cases hlt : k < t.length
    · rcases HR.out with h | ⟨g, o, rfl, hc, hcell⟩
      · rw [h] at hlt; simp at hlt
      obtain ⟨c0, c1, c2⟩ := hcell k hlt
      have hg : g < w.heap.size := World.block_lt_of_cell? w _ c0
      have d0 : wr.cell? ⟨g, o + k * 3, none⟩ = some (.string (str (nth t k).1)) := (hbl.out.cell (p := ⟨g, o + k * 3, none⟩) hg).trans c0
      have d1 : wr.cell? ⟨g, o + k * 3 + 1, none⟩ = some (.string (str (nth t k).2.1)) := (hbl.out.cell (p := ⟨g, o + k * 3 + 1, none⟩) hg).trans c1
      have d2 : wr.cell? ⟨g, o + k * 3 + 2, none⟩ = some (.bool (nth t k).2.2) := (hbl.out.cell (p := ⟨g, o + k * 3 + 2, none⟩) hg).trans c2
      clear hcell c0 c1 c2
      have HTk : Hid (t.take (k + 1) = t.take k ++ [nth t k]) := take_nthQ t k hlt
      have hlk : (t.take k).length + 1 ≤ 2147483648 := by rw [List.length_take]; omega
      generalize nth t k = p at *
      obtain ⟨pn, pv, pb⟩ := p
      dsimp only at d0 d1 d2
      generalize hn : str pn = n at d0
      generalize hv : str pv = v at d1
      have HN : Hid (n = str pn) := hn.symm
      have HV : Hid (v = str pv) := hv.symm
      clear hn hv
      have HO1 : Hid (OwnQ 46 w.heap.size _ (t.take k) wr.drew) := hown.out.below (below_drewN (Below.refl _ _) 1)
      have HB1 : Hid (Below w.heap.size w wr.drew) := below_drewN hbl.out 1
      have hs1 : w.heap.size ≤ wr.drew.heap.size := hsz
      go_wp2_with fail
      go_region_law (refine step_appQ 46 26 infoQ2 Tryd.underlying26 rfl (.tmp 12) (.tmp 29) rfl w.heap.size _ (t.take k) _ (pn, pv, pb) _ _ HN.out HV.out _ rfl (by simp [Act.eval, Act.put]) HO1.out _ (by simp [Act.eval, Act.put]) rfl hlk hs1 ?_; intro v6 w6 hown6 hb6)
      all_goals
        have HO6 : Hid (OwnQ 46 w.heap.size v6 (t.take (k + 1)) w6) := (by rw [HTk.out]; exact hown6 : OwnQ 46 w.heap.size v6 (t.take (k + 1)) w6)
        have HB6 : Hid (Below w.heap.size w w6) := HB1.out.trans hb6
        clear hown6 hb6
        go_wp2
        go_roundw
        case rel => exact ⟨k + 1, by omega, by go_num, HO6, HB6⟩
        case measure => simp [intOf]; omega
    · obtain rfl : k = t.length := by omega
      rw [List.take_length] at hown
      go_wp2
      go_ret
      exact ⟨_, rfl, hown.out, hbl.out⟩

theorem Replace_g (s o n : ByteArray) (ho : 1 ≤ o.size) (hn : n.size ≤ 3) (hs : s.size ≤ 16777216) (w : World) (h : ML w) (hne : (o == n) = false) :
    Calls Tryd.prog 19 #[.string s, .string o, .string n] w fun e w' => e = .returned (.string (str (Lib.replaceAll s.data.toList o.data.toList n.data.toList))) ∧ Below w.heap.size w w' := by
  obtain ⟨m, hm⟩ := h
  have hc := Lib.countB_mul_le o ho s.size s (Nat.le_refl _)
  have hc2 : Lib.countB s o ≤ s.size := Nat.le_trans (Nat.le_mul_of_pos_right _ ho) hc
  have hc3 : Lib.countB s o * n.size ≤ s.size * 3 := Nat.mul_le_mul hc2 hn
  refine (Tryd.strings_ReplaceAll s o n m w (by omega) hm (by omega) (by omega)).mono ?_
  rintro e w' ⟨rfl, hb⟩
  exact ⟨rfl, hb⟩

set_option maxRecDepth 100000 in
set_option maxHeartbeats 1000000 in
theorem PrintPairs_any (v : Value) (t : List Prm) (hb : t.length + sumQ t ≤ 1048576) (w : World) (hr : RdQ v t w) (hm : ML w) :
    Calls Tryd.prog 10 #[v] w fun e w' => e = .returned (.tuple #[.string (str (prcR t).1), .int .i64 (prcR t).2]) ∧ Below w.heap.size w w' := by
  have HP : Hid (RdQ v t w → _) := fun h => PrintQuery_any v t hb w h
  have HR0 : Hid (RdQ v t w) := hr
  have HM : Hid (ML w) := hm
  have hj0 := joinQ_len t
  have hj1 := joinF_len e1B e1B_len t
  have hj2 := joinF_len e2B e2B_len t
  obtain ⟨a, c, rfl, _⟩ := hr
  clear hm
  cases hall : t.all okQ with
  | false =>
    have e : prqR t = ([], 54) := by unfold prqR; rw [if_neg (by rw [hall]; decide)]
    have e2 : prcR t = ([], 150) := by unfold prcR; rw [if_neg (by rw [hall]; decide)]
    rw [e] at HP
    rw [e2]
    dsimp only at HP ⊢
    go_enter Tryd.func10, Tryd.ntmps10
    go_wp2_with fail
    refine (HP.out HR0.out).mono ?_
    rintro e w1 ⟨rfl, hb1⟩
    go_wp2
    go_ret2
    exact ⟨rfl, hb1⟩
  | true =>
    have e : prqR t = (joinQ t, 0) := by unfold prqR; rw [if_pos hall]
    have e2 : prcR t = (joinF codB t, 0) := by unfold prcR; rw [if_pos hall]
    rw [e] at HP
    rw [e2]
    have H1 : Hid (∀ w, ML w → Calls Tryd.prog 19 #[.string (str (joinQ t)), .string ⟨#[37, 50, 48]⟩, .string ⟨#[43]⟩] w fun e w' => e = .returned (.string (str (joinF e1B t))) ∧ Below w.heap.size w w') := fun w h => by
      have := Replace_g (str (joinQ t)) ⟨#[37, 50, 48]⟩ ⟨#[43]⟩ (by decide) (by decide) (by rw [str_size]; omega) w h (by decide +kernel)
      rw [str_list, show Lib.replaceAll (joinQ t) (⟨#[37, 50, 48]⟩ : ByteArray).data.toList (⟨#[43]⟩ : ByteArray).data.toList = rp1 (joinQ t) from rfl, rp1_join] at this
      exact this
    have H2 : Hid (∀ w, ML w → Calls Tryd.prog 19 #[.string (str (joinF e1B t)), .string ⟨#[37, 50, 65]⟩, .string ⟨#[42]⟩] w fun e w' => e = .returned (.string (str (joinF e2B t))) ∧ Below w.heap.size w w') := fun w h => by
      have := Replace_g (str (joinF e1B t)) ⟨#[37, 50, 65]⟩ ⟨#[42]⟩ (by decide) (by decide) (by rw [str_size]; omega) w h (by decide +kernel)
      rw [str_list, show Lib.replaceAll (joinF e1B t) (⟨#[37, 50, 65]⟩ : ByteArray).data.toList (⟨#[42]⟩ : ByteArray).data.toList = rp2 (joinF e1B t) from rfl, rp2_join] at this
      exact this
    have H3 : Hid (∀ w, ML w → Calls Tryd.prog 19 #[.string (str (joinF e2B t)), .string ⟨#[126]⟩, .string ⟨#[37, 55, 69]⟩] w fun e w' => e = .returned (.string (str (joinF codB t))) ∧ Below w.heap.size w w') := fun w h => by
      have := Replace_g (str (joinF e2B t)) ⟨#[126]⟩ ⟨#[37, 55, 69]⟩ (by decide) (by decide) (by rw [str_size]; omega) w h (by decide +kernel)
      rw [str_list, show Lib.replaceAll (joinF e2B t) (⟨#[126]⟩ : ByteArray).data.toList (⟨#[37, 55, 69]⟩ : ByteArray).data.toList = rp3 (joinF e2B t) from rfl, rp3_join] at this
      exact this
    dsimp only at HP ⊢
    clear e e2 hall hj0 hj1 hj2
    generalize str (joinQ t) = J0 at *
    generalize str (joinF e1B t) = J1 at *
    generalize str (joinF e2B t) = J2 at *
    generalize str (joinF codB t) = J3 at *
    go_enter Tryd.func10, Tryd.ntmps10
    go_wp2_with fail
    refine (HP.out HR0.out).mono ?_
    rintro e w1 ⟨rfl, hb1⟩
    have HB1 : Hid (Below w.heap.size w w1) := hb1
    clear hb1
    go_wp2_with fail
    refine (H1.out _ (HM.out.below HB1.out)).mono ?_
    rintro e w2 ⟨rfl, hb2⟩
    have HB2 : Hid (Below w.heap.size w w2) := HB1.out.trans (hb2.mono HB1.out.size)
    clear hb2
    go_wp2_with fail
    refine (H2.out _ (HM.out.below HB2.out)).mono ?_
    rintro e w3 ⟨rfl, hb3⟩
    have HB3 : Hid (Below w.heap.size w w3) := HB2.out.trans (hb3.mono HB2.out.size)
    clear hb3
    go_wp2_with fail
    refine (H3.out _ (HM.out.below HB3.out)).mono ?_
    rintro e w4 ⟨rfl, hb4⟩
    have HB4 : Hid (Below w.heap.size w w4) := HB3.out.trans (hb4.mono HB3.out.size)
    clear hb4
    go_wp2
    go_ret2
    exact ⟨rfl, HB4.out⟩

end Tg
end Go.Proofs.YtpoefoepmigbeaaDoor
