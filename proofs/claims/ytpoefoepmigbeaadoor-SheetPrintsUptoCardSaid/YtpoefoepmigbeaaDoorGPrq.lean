/-
  target: PrintQuery (written by mkgprq.py).
-/
import Derived.Test.YtpoefoepmigbeaaDoorGPq
import Derived.Test.YtpoefoepmigbeaaDoorGPa
import Derived.Test.YtpoefoepmigbeaaDoorGBe
import Derived.Test.YtpoefoepmigbeaaDoorGEnc
set_option linter.unusedVariables false
set_option linter.unusedSimpArgs false
namespace Go.Proofs.YtpoefoepmigbeaaDoor
open Go.RowKit Go.Shelf
namespace Tg
open Oc

set_option maxRecDepth 100000 in
set_option maxHeartbeats 4000000 in
theorem PrintQuery_any (v : Value) (t : List Prm) (hb : t.length + sumQ t ≤ 1048576) (w : World) (hr : RdQ v t w) :
    Calls Tryd.prog 18 #[v] w fun e w' => e = .returned (.tuple #[.string (str (prqR t).1), .int .i64 (prqR t).2]) ∧ Below w.heap.size w w' := by
  obtain ⟨a, c, rfl, hcs⟩ := hr
  have HC : Hid (t = [] ∨ ∃ g o, a = some ⟨g, o, none⟩ ∧ t.length ≤ c ∧ ∀ j, j < t.length → w.cell? ⟨g, o + j * 3, none⟩ = some (.string (str (nth t j).1)) ∧ w.cell? ⟨g, o + j * 3 + 1, none⟩ = some (.string (str (nth t j).2.1)) ∧ w.cell? ⟨g, o + j * 3 + 2, none⟩ = some (.bool (nth t j).2.2)) := hcs
  have HBD : Hid (Bd (w.heap.size + 1) w.heap.size [] (w.alloc (.cells #[.pointer none, .slice none 0 0] 51))) := Bd.new w (w.heap.size + 1)
  clear hcs
  go_enter Tryd.func18, Tryd.ntmps18
  go_wp2
  go_loopw [9] (fun i wr => ∃ k : Nat, k ≤ t.length ∧ i = .int .i64 k ∧ Hid ((t.take k).all okQ = true) ∧ Hid (Bd (w.heap.size + 1) w.heap.size (Lib.byteCells (joinQ (t.take k))) wr) ∧ Hid (Below w.heap.size w wr) ∧ Hid (w.heap.size + 1 ≤ wr.heap.size)) (fun i _ => t.length - (intOf i).toNat)
  case atStart => exact ⟨0, Nat.zero_le _, rfl, (rfl : (t.take 0).all okQ = true), HBD, (Below.refl _ w).alloc (Nat.le_refl _) _, (by simp : _ ≤ _)⟩
  case round =>
    obtain ⟨k, hk, rfl, hA, hB, hW, hS⟩ := hrel
    by_cases hlt : k < t.length
    · rcases HC.out with h | ⟨g, o, rfl, hcap, hcell⟩
      · rw [h] at hlt; simp at hlt
      obtain ⟨c0, c1, c2⟩ := hcell k hlt
      have hg : g < w.heap.size := World.block_lt_of_cell? w _ c0
      have d0 : wr.cell? ⟨g, o + k * 3, none⟩ = some (.string (str (nth t k).1)) := (hW.out.cell (p := ⟨g, o + k * 3, none⟩) hg).trans c0
      have d1 : wr.cell? ⟨g, o + k * 3 + 1, none⟩ = some (.string (str (nth t k).2.1)) := (hW.out.cell (p := ⟨g, o + k * 3 + 1, none⟩) hg).trans c1
      have d2 : wr.cell? ⟨g, o + k * 3 + 2, none⟩ = some (.bool (nth t k).2.2) := (hW.out.cell (p := ⟨g, o + k * 3 + 2, none⟩) hg).trans c2
      clear hcell c0 c1 c2
      have hjl := joinQ_len (t.take k)
      have hst := sumQ_take t k
      have hgl := szQ_le t k hlt
      have HJ : Hid ((joinQ (t.take k)).length ≤ 6000000) := by show _ ≤ _; rw [List.length_take] at hjl; omega
      have HBad : Hid (okQ (nth t k) = false → prqR t = ([], 54)) := fun h => prq_bad t k hlt h
      have HAll : Hid (okQ (nth t k) = true → (t.take (k + 1)).all okQ = true) := fun h => all_snocQ t k hlt hA.out h
      have HT : Hid (joinQ (t.take (k + 1)) = if t.take k = [] then txQ (nth t k) else joinQ (t.take k) ++ 38 :: txQ (nth t k)) := (by rw [take_snocQ t k hlt, joinQ_snoc]; rfl : joinQ (t.take (k + 1)) = _)
      have hgl' : szQ (nth t k) ≤ sumQ t := hgl
      have hgr : g ≠ wr.heap.size := by have := hS.out; omega
      have hgz : g < wr.heap.size := by have := hS.out; omega
      clear hjl hst hgl
      generalize nth t k = p at *
      obtain ⟨pn, pv, pb⟩ := p
      unfold szQ at hgl'
      dsimp only at d0 d1 d2 hgl'
      have hn := str_size pn
      have hv := str_size pv
      have HL1 : Hid ((str pn).data.toList = pn) := str_list pn
      have HL2 : Hid ((str pv).data.toList = pv) := str_list pv
      have HE1 : Hid (∀ W, Calls Tryd.prog 31 #[.string (str pn)] W fun e W' => e = .returned (.string (str (enc pn))) ∧ Below W.heap.size W W') := fun W => by
        have := Encode_any (str pn) (by omega) W
        rw [str_list] at this
        exact this
      have HE2 : Hid (∀ W, Calls Tryd.prog 31 #[.string (str pv)] W fun e W' => e = .returned (.string (str (enc pv))) ∧ Below W.heap.size W W') := fun W => by
        have := Encode_any (str pv) (by omega) W
        rw [str_list] at this
        exact this
      have HY1 : Hid (Lib.strCells (str (enc pn)) = Lib.byteCells (enc pn)) := cells_str _
      have HY2 : Hid (Lib.strCells (str (enc pv)) = Lib.byteCells (enc pv)) := cells_str _
      have hz1 : (str (enc pn)).size ≤ 3145728 := by rw [str_size]; have := enc_len pn; omega
      have hz2 : (str (enc pv)).size ≤ 3145728 := by rw [str_size]; have := enc_len pv; omega
      have hz3 : Hid ((enc pn).length ≤ 3145728) := by show _ ≤ _; have := enc_len pn; omega
      generalize str (enc pn) = Y1 at *
      generalize str (enc pv) = Y2 at *
      generalize str pn = n at *
      generalize str pv = v at *
      have hacc0 : k = 0 → joinQ (t.take k) = [] := fun e => by subst e; rfl
      generalize joinQ (t.take k) = acc at *
      have R1 : Hid ((wr.alloc (.cells #[.string n, .string v, .bool pb] 45)).heap[wr.heap.size]? = some (.cells #[.string n, .string v, .bool pb] 45 (0, 0))) := World.alloc_heap_new wr _
      have HB1 : Hid (Bd (w.heap.size + 1) w.heap.size (Lib.byteCells acc) (wr.alloc (.cells #[.string n, .string v, .bool pb] 45))) := hB.out.below ((Below.refl _ wr).alloc (Nat.le_refl _) _)
      have HW1 : Hid (Below w.heap.size w (wr.alloc (.cells #[.string n, .string v, .bool pb] 45))) := hW.out.alloc hW.out.size _
      have HS1 : Hid (w.heap.size + 1 ≤ (wr.alloc (.cells #[.string n, .string v, .bool pb] 45)).heap.size) := (by have := hS.out; simp; omega : _ ≤ _)
      have hpn : wr.heap.size ≠ w.heap.size := by have := hS.out; omega
      clear hB hW
      cases pb with
      | true =>
        have HAk : Hid ((t.take (k + 1)).all okQ = true) := HAll.out rfl
        by_cases hk0 : k = 0
        · have hT0 : t.take k = [] := by rw [hk0]; rfl
          have hacc : acc = [] := hacc0 hk0
          subst hacc
          have hk1 : ¬ (0 : Int) < (k : Int) := by omega
          have hk2 : ¬ 0 < k := by omega
          have HT0 : Hid (t.take k = []) := hT0
          clear hT0 hk0
          go_wp2_with fail
          refine (HE1.out _).mono ?_
          rintro e w2 ⟨rfl, hb'⟩
          have HB2 : Hid (Bd (w.heap.size + 1) w.heap.size (Lib.byteCells (([] : List UInt8))) w2) := HB1.out.below hb'
          have R2 : Hid (w2.heap[wr.heap.size]? = some (.cells #[.string n, .string v, .bool true] 45 (0, 0))) := (Kt.below hb' : Kt w.heap.size _ _) _ _ _ _ hpn (by decide) R1.out
          have HW2 : Hid (Below w.heap.size w w2) := HW1.out.trans (hb'.mono HW1.out.size)
          have HS2 : Hid (w.heap.size + 1 ≤ w2.heap.size) := Nat.le_trans HS1.out hb'.size
          clear hb'
          go_wp2_with fail
          refine (WriteString_bk _ _ _ _ _ HB2.out (by rw [cells_len]; have := HJ.out; have := hz3.out; (try simp only [List.length_append, List.length_cons, List.length_nil]); omega) HS2.out).mono ?_
          rintro e w3 ⟨rfl, hB', hF', hK'⟩
          have HB3 : Hid (Bd (w.heap.size + 1) w.heap.size (Lib.byteCells ((([] : List UInt8)) ++ enc pn)) w3) := (by rw [cells_app, ← HY1.out]; exact hB' : Bd _ _ _ _)
          have R3 : Hid (w3.heap[wr.heap.size]? = some (.cells #[.string n, .string v, .bool true] 45 (0, 0))) := hK' _ _ _ _ hpn (by decide) R2.out
          have HW3 : Hid (Below w.heap.size w w3) := HW2.out.trans (hF'.below (n := w.heap.size) (Nat.le_succ _) (Nat.le_refl _))
          have HS3 : Hid (w.heap.size + 1 ≤ w3.heap.size) := Nat.le_trans HS2.out hF'.size
          clear hB' hF' hK'
          have e0_3 := Lib.cell_of_heap R3.out 0
          have e1_3 := Lib.cell_of_heap R3.out 1
          have e2_3 := Lib.cell_of_heap R3.out 2
          simp at e0_3 e1_3 e2_3
          go_wp2_with fail
          refine (WriteByte_bk _ _ _ _ _ HB3.out (by rw [cells_len]; have := HJ.out; have := hz3.out; (try simp only [List.length_append, List.length_cons, List.length_nil]); omega) HS3.out).mono ?_
          rintro e w4 ⟨rfl, hB', hF', hK'⟩
          have HB4 : Hid (Bd (w.heap.size + 1) w.heap.size (Lib.byteCells (((([] : List UInt8)) ++ enc pn) ++ [61])) w4) := (by rw [cells_app]; exact hB' : Bd _ _ _ _)
          have R4 : Hid (w4.heap[wr.heap.size]? = some (.cells #[.string n, .string v, .bool true] 45 (0, 0))) := hK' _ _ _ _ hpn (by decide) R3.out
          have HW4 : Hid (Below w.heap.size w w4) := HW3.out.trans (hF'.below (n := w.heap.size) (Nat.le_succ _) (Nat.le_refl _))
          have HS4 : Hid (w.heap.size + 1 ≤ w4.heap.size) := Nat.le_trans HS3.out hF'.size
          clear hB' hF' hK'
          have e0_4 := Lib.cell_of_heap R4.out 0
          have e1_4 := Lib.cell_of_heap R4.out 1
          have e2_4 := Lib.cell_of_heap R4.out 2
          simp at e0_4 e1_4 e2_4
          go_wp2_with fail
          refine (HE2.out _).mono ?_
          rintro e w5 ⟨rfl, hb'⟩
          have HB5 : Hid (Bd (w.heap.size + 1) w.heap.size (Lib.byteCells (((([] : List UInt8)) ++ enc pn) ++ [61])) w5) := HB4.out.below hb'
          have R5 : Hid (w5.heap[wr.heap.size]? = some (.cells #[.string n, .string v, .bool true] 45 (0, 0))) := (Kt.below hb' : Kt w.heap.size _ _) _ _ _ _ hpn (by decide) R4.out
          have HW5 : Hid (Below w.heap.size w w5) := HW4.out.trans (hb'.mono HW4.out.size)
          have HS5 : Hid (w.heap.size + 1 ≤ w5.heap.size) := Nat.le_trans HS4.out hb'.size
          clear hb'
          go_wp2_with fail
          refine (WriteString_bk _ _ _ _ _ HB5.out (by rw [cells_len]; have := HJ.out; have := hz3.out; (try simp only [List.length_append, List.length_cons, List.length_nil]); omega) HS5.out).mono ?_
          rintro e w6 ⟨rfl, hB', hF', hK'⟩
          have HB6 : Hid (Bd (w.heap.size + 1) w.heap.size (Lib.byteCells ((((([] : List UInt8)) ++ enc pn) ++ [61]) ++ enc pv)) w6) := (by rw [cells_app, ← HY2.out]; exact hB' : Bd _ _ _ _)
          have R6 : Hid (w6.heap[wr.heap.size]? = some (.cells #[.string n, .string v, .bool true] 45 (0, 0))) := hK' _ _ _ _ hpn (by decide) R5.out
          have HW6 : Hid (Below w.heap.size w w6) := HW5.out.trans (hF'.below (n := w.heap.size) (Nat.le_succ _) (Nat.le_refl _))
          have HS6 : Hid (w.heap.size + 1 ≤ w6.heap.size) := Nat.le_trans HS5.out hF'.size
          clear hB' hF' hK'
          have e0_6 := Lib.cell_of_heap R6.out 0
          have e1_6 := Lib.cell_of_heap R6.out 1
          have e2_6 := Lib.cell_of_heap R6.out 2
          simp at e0_6 e1_6 e2_6
          have HTk : Hid (joinQ (t.take (k + 1)) = (((([] : List UInt8)) ++ enc pn) ++ [61]) ++ enc pv) := (by rw [HT.out]; rw [if_pos HT0.out]; simp [txQ] : joinQ (t.take (k + 1)) = _)
          have HBf : Hid (Bd (w.heap.size + 1) w.heap.size (Lib.byteCells (joinQ (t.take (k + 1)))) w6) := (by rw [HTk.out]; exact HB6.out : Bd _ _ _ _)
          go_wp2
          go_roundw
          case rel => exact ⟨k + 1, by omega, by go_num, HAk, HBf, HW6, HS6⟩
          case measure => simp [intOf]; omega
        · have hTk : t.take k ≠ [] := by intro e; have := congrArg List.length e; rw [List.length_take, List.length_nil] at this; omega
          have hk1 : (0 : Int) < (k : Int) := by omega
          have hk2 : 0 < k := by omega
          go_wp2_with fail
          refine (WriteByte_bk _ _ _ _ _ HB1.out (by rw [cells_len]; have := HJ.out; have := hz3.out; (try simp only [List.length_append, List.length_cons, List.length_nil]); omega) HS1.out).mono ?_
          rintro e w2 ⟨rfl, hB', hF', hK'⟩
          have HB2 : Hid (Bd (w.heap.size + 1) w.heap.size (Lib.byteCells (acc ++ [38])) w2) := (by rw [cells_app]; exact hB' : Bd _ _ _ _)
          have R2 : Hid (w2.heap[wr.heap.size]? = some (.cells #[.string n, .string v, .bool true] 45 (0, 0))) := hK' _ _ _ _ hpn (by decide) R1.out
          have HW2 : Hid (Below w.heap.size w w2) := HW1.out.trans (hF'.below (n := w.heap.size) (Nat.le_succ _) (Nat.le_refl _))
          have HS2 : Hid (w.heap.size + 1 ≤ w2.heap.size) := Nat.le_trans HS1.out hF'.size
          clear hB' hF' hK'
          have e0_2 := Lib.cell_of_heap R2.out 0
          have e1_2 := Lib.cell_of_heap R2.out 1
          have e2_2 := Lib.cell_of_heap R2.out 2
          simp at e0_2 e1_2 e2_2
          go_wp2_with fail
          refine (HE1.out _).mono ?_
          rintro e w3 ⟨rfl, hb'⟩
          have HB3 : Hid (Bd (w.heap.size + 1) w.heap.size (Lib.byteCells (acc ++ [38])) w3) := HB2.out.below hb'
          have R3 : Hid (w3.heap[wr.heap.size]? = some (.cells #[.string n, .string v, .bool true] 45 (0, 0))) := (Kt.below hb' : Kt w.heap.size _ _) _ _ _ _ hpn (by decide) R2.out
          have HW3 : Hid (Below w.heap.size w w3) := HW2.out.trans (hb'.mono HW2.out.size)
          have HS3 : Hid (w.heap.size + 1 ≤ w3.heap.size) := Nat.le_trans HS2.out hb'.size
          clear hb'
          go_wp2_with fail
          refine (WriteString_bk _ _ _ _ _ HB3.out (by rw [cells_len]; have := HJ.out; have := hz3.out; (try simp only [List.length_append, List.length_cons, List.length_nil]); omega) HS3.out).mono ?_
          rintro e w4 ⟨rfl, hB', hF', hK'⟩
          have HB4 : Hid (Bd (w.heap.size + 1) w.heap.size (Lib.byteCells ((acc ++ [38]) ++ enc pn)) w4) := (by rw [cells_app, ← HY1.out]; exact hB' : Bd _ _ _ _)
          have R4 : Hid (w4.heap[wr.heap.size]? = some (.cells #[.string n, .string v, .bool true] 45 (0, 0))) := hK' _ _ _ _ hpn (by decide) R3.out
          have HW4 : Hid (Below w.heap.size w w4) := HW3.out.trans (hF'.below (n := w.heap.size) (Nat.le_succ _) (Nat.le_refl _))
          have HS4 : Hid (w.heap.size + 1 ≤ w4.heap.size) := Nat.le_trans HS3.out hF'.size
          clear hB' hF' hK'
          have e0_4 := Lib.cell_of_heap R4.out 0
          have e1_4 := Lib.cell_of_heap R4.out 1
          have e2_4 := Lib.cell_of_heap R4.out 2
          simp at e0_4 e1_4 e2_4
          go_wp2_with fail
          refine (WriteByte_bk _ _ _ _ _ HB4.out (by rw [cells_len]; have := HJ.out; have := hz3.out; (try simp only [List.length_append, List.length_cons, List.length_nil]); omega) HS4.out).mono ?_
          rintro e w5 ⟨rfl, hB', hF', hK'⟩
          have HB5 : Hid (Bd (w.heap.size + 1) w.heap.size (Lib.byteCells (((acc ++ [38]) ++ enc pn) ++ [61])) w5) := (by rw [cells_app]; exact hB' : Bd _ _ _ _)
          have R5 : Hid (w5.heap[wr.heap.size]? = some (.cells #[.string n, .string v, .bool true] 45 (0, 0))) := hK' _ _ _ _ hpn (by decide) R4.out
          have HW5 : Hid (Below w.heap.size w w5) := HW4.out.trans (hF'.below (n := w.heap.size) (Nat.le_succ _) (Nat.le_refl _))
          have HS5 : Hid (w.heap.size + 1 ≤ w5.heap.size) := Nat.le_trans HS4.out hF'.size
          clear hB' hF' hK'
          have e0_5 := Lib.cell_of_heap R5.out 0
          have e1_5 := Lib.cell_of_heap R5.out 1
          have e2_5 := Lib.cell_of_heap R5.out 2
          simp at e0_5 e1_5 e2_5
          go_wp2_with fail
          refine (HE2.out _).mono ?_
          rintro e w6 ⟨rfl, hb'⟩
          have HB6 : Hid (Bd (w.heap.size + 1) w.heap.size (Lib.byteCells (((acc ++ [38]) ++ enc pn) ++ [61])) w6) := HB5.out.below hb'
          have R6 : Hid (w6.heap[wr.heap.size]? = some (.cells #[.string n, .string v, .bool true] 45 (0, 0))) := (Kt.below hb' : Kt w.heap.size _ _) _ _ _ _ hpn (by decide) R5.out
          have HW6 : Hid (Below w.heap.size w w6) := HW5.out.trans (hb'.mono HW5.out.size)
          have HS6 : Hid (w.heap.size + 1 ≤ w6.heap.size) := Nat.le_trans HS5.out hb'.size
          clear hb'
          go_wp2_with fail
          refine (WriteString_bk _ _ _ _ _ HB6.out (by rw [cells_len]; have := HJ.out; have := hz3.out; (try simp only [List.length_append, List.length_cons, List.length_nil]); omega) HS6.out).mono ?_
          rintro e w7 ⟨rfl, hB', hF', hK'⟩
          have HB7 : Hid (Bd (w.heap.size + 1) w.heap.size (Lib.byteCells ((((acc ++ [38]) ++ enc pn) ++ [61]) ++ enc pv)) w7) := (by rw [cells_app, ← HY2.out]; exact hB' : Bd _ _ _ _)
          have R7 : Hid (w7.heap[wr.heap.size]? = some (.cells #[.string n, .string v, .bool true] 45 (0, 0))) := hK' _ _ _ _ hpn (by decide) R6.out
          have HW7 : Hid (Below w.heap.size w w7) := HW6.out.trans (hF'.below (n := w.heap.size) (Nat.le_succ _) (Nat.le_refl _))
          have HS7 : Hid (w.heap.size + 1 ≤ w7.heap.size) := Nat.le_trans HS6.out hF'.size
          clear hB' hF' hK'
          have e0_7 := Lib.cell_of_heap R7.out 0
          have e1_7 := Lib.cell_of_heap R7.out 1
          have e2_7 := Lib.cell_of_heap R7.out 2
          simp at e0_7 e1_7 e2_7
          have HTk : Hid (joinQ (t.take (k + 1)) = (((acc ++ [38]) ++ enc pn) ++ [61]) ++ enc pv) := (by rw [HT.out]; rw [if_neg hTk]; simp [txQ] : joinQ (t.take (k + 1)) = _)
          have HBf : Hid (Bd (w.heap.size + 1) w.heap.size (Lib.byteCells (joinQ (t.take (k + 1)))) w7) := (by rw [HTk.out]; exact HB7.out : Bd _ _ _ _)
          go_wp2
          go_roundw
          case rel => exact ⟨k + 1, by omega, by go_num, HAk, HBf, HW7, HS7⟩
          case measure => simp [intOf]; omega
      | false =>
        by_cases hv0 : v.size = 0
        · have hve := empty_of hv0
          have hvl : pv = [] := List.length_eq_zero_iff.1 (by omega)
          by_cases hn0 : n.size = 0
          · have hne := empty_of hn0
            have hnl : pn = [] := List.length_eq_zero_iff.1 (by omega)
            have HBk : Hid (prqR t = ([], 54)) := HBad.out (by simp [okQ, hnl])
            clear hvl hnl
            go_wp2
            go_ret2
            rw [HBk.out]
            exact ⟨rfl, HW1.out⟩
          · have hne := nonempty_of hn0
            have hnl : pn ≠ [] := fun e => hn0 (by rw [hn, e]; rfl)
            have HAk : Hid ((t.take (k + 1)).all okQ = true) := HAll.out (by simp [okQ, hvl, hnl])
            clear hvl hnl
            by_cases hk0 : k = 0
            · have hT0 : t.take k = [] := by rw [hk0]; rfl
              have hacc : acc = [] := hacc0 hk0
              subst hacc
              have hk1 : ¬ (0 : Int) < (k : Int) := by omega
              have hk2 : ¬ 0 < k := by omega
              have HT0 : Hid (t.take k = []) := hT0
              clear hT0 hk0
              go_wp2_with fail
              refine (HE1.out _).mono ?_
              rintro e w2 ⟨rfl, hb'⟩
              have HB2 : Hid (Bd (w.heap.size + 1) w.heap.size (Lib.byteCells (([] : List UInt8))) w2) := HB1.out.below hb'
              have R2 : Hid (w2.heap[wr.heap.size]? = some (.cells #[.string n, .string v, .bool false] 45 (0, 0))) := (Kt.below hb' : Kt w.heap.size _ _) _ _ _ _ hpn (by decide) R1.out
              have HW2 : Hid (Below w.heap.size w w2) := HW1.out.trans (hb'.mono HW1.out.size)
              have HS2 : Hid (w.heap.size + 1 ≤ w2.heap.size) := Nat.le_trans HS1.out hb'.size
              clear hb'
              go_wp2_with fail
              refine (WriteString_bk _ _ _ _ _ HB2.out (by rw [cells_len]; have := HJ.out; have := hz3.out; (try simp only [List.length_append, List.length_cons, List.length_nil]); omega) HS2.out).mono ?_
              rintro e w3 ⟨rfl, hB', hF', hK'⟩
              have HB3 : Hid (Bd (w.heap.size + 1) w.heap.size (Lib.byteCells ((([] : List UInt8)) ++ enc pn)) w3) := (by rw [cells_app, ← HY1.out]; exact hB' : Bd _ _ _ _)
              have R3 : Hid (w3.heap[wr.heap.size]? = some (.cells #[.string n, .string v, .bool false] 45 (0, 0))) := hK' _ _ _ _ hpn (by decide) R2.out
              have HW3 : Hid (Below w.heap.size w w3) := HW2.out.trans (hF'.below (n := w.heap.size) (Nat.le_succ _) (Nat.le_refl _))
              have HS3 : Hid (w.heap.size + 1 ≤ w3.heap.size) := Nat.le_trans HS2.out hF'.size
              clear hB' hF' hK'
              have e0_3 := Lib.cell_of_heap R3.out 0
              have e1_3 := Lib.cell_of_heap R3.out 1
              have e2_3 := Lib.cell_of_heap R3.out 2
              simp at e0_3 e1_3 e2_3
              have HTk : Hid (joinQ (t.take (k + 1)) = (([] : List UInt8)) ++ enc pn) := (by rw [HT.out]; rw [if_pos HT0.out]; simp [txQ] : joinQ (t.take (k + 1)) = _)
              have HBf : Hid (Bd (w.heap.size + 1) w.heap.size (Lib.byteCells (joinQ (t.take (k + 1)))) w3) := (by rw [HTk.out]; exact HB3.out : Bd _ _ _ _)
              go_wp2
              go_roundw
              case rel => exact ⟨k + 1, by omega, by go_num, HAk, HBf, HW3, HS3⟩
              case measure => simp [intOf]; omega
            · have hTk : t.take k ≠ [] := by intro e; have := congrArg List.length e; rw [List.length_take, List.length_nil] at this; omega
              have hk1 : (0 : Int) < (k : Int) := by omega
              have hk2 : 0 < k := by omega
              go_wp2_with fail
              refine (WriteByte_bk _ _ _ _ _ HB1.out (by rw [cells_len]; have := HJ.out; have := hz3.out; (try simp only [List.length_append, List.length_cons, List.length_nil]); omega) HS1.out).mono ?_
              rintro e w2 ⟨rfl, hB', hF', hK'⟩
              have HB2 : Hid (Bd (w.heap.size + 1) w.heap.size (Lib.byteCells (acc ++ [38])) w2) := (by rw [cells_app]; exact hB' : Bd _ _ _ _)
              have R2 : Hid (w2.heap[wr.heap.size]? = some (.cells #[.string n, .string v, .bool false] 45 (0, 0))) := hK' _ _ _ _ hpn (by decide) R1.out
              have HW2 : Hid (Below w.heap.size w w2) := HW1.out.trans (hF'.below (n := w.heap.size) (Nat.le_succ _) (Nat.le_refl _))
              have HS2 : Hid (w.heap.size + 1 ≤ w2.heap.size) := Nat.le_trans HS1.out hF'.size
              clear hB' hF' hK'
              have e0_2 := Lib.cell_of_heap R2.out 0
              have e1_2 := Lib.cell_of_heap R2.out 1
              have e2_2 := Lib.cell_of_heap R2.out 2
              simp at e0_2 e1_2 e2_2
              go_wp2_with fail
              refine (HE1.out _).mono ?_
              rintro e w3 ⟨rfl, hb'⟩
              have HB3 : Hid (Bd (w.heap.size + 1) w.heap.size (Lib.byteCells (acc ++ [38])) w3) := HB2.out.below hb'
              have R3 : Hid (w3.heap[wr.heap.size]? = some (.cells #[.string n, .string v, .bool false] 45 (0, 0))) := (Kt.below hb' : Kt w.heap.size _ _) _ _ _ _ hpn (by decide) R2.out
              have HW3 : Hid (Below w.heap.size w w3) := HW2.out.trans (hb'.mono HW2.out.size)
              have HS3 : Hid (w.heap.size + 1 ≤ w3.heap.size) := Nat.le_trans HS2.out hb'.size
              clear hb'
              go_wp2_with fail
              refine (WriteString_bk _ _ _ _ _ HB3.out (by rw [cells_len]; have := HJ.out; have := hz3.out; (try simp only [List.length_append, List.length_cons, List.length_nil]); omega) HS3.out).mono ?_
              rintro e w4 ⟨rfl, hB', hF', hK'⟩
              have HB4 : Hid (Bd (w.heap.size + 1) w.heap.size (Lib.byteCells ((acc ++ [38]) ++ enc pn)) w4) := (by rw [cells_app, ← HY1.out]; exact hB' : Bd _ _ _ _)
              have R4 : Hid (w4.heap[wr.heap.size]? = some (.cells #[.string n, .string v, .bool false] 45 (0, 0))) := hK' _ _ _ _ hpn (by decide) R3.out
              have HW4 : Hid (Below w.heap.size w w4) := HW3.out.trans (hF'.below (n := w.heap.size) (Nat.le_succ _) (Nat.le_refl _))
              have HS4 : Hid (w.heap.size + 1 ≤ w4.heap.size) := Nat.le_trans HS3.out hF'.size
              clear hB' hF' hK'
              have e0_4 := Lib.cell_of_heap R4.out 0
              have e1_4 := Lib.cell_of_heap R4.out 1
              have e2_4 := Lib.cell_of_heap R4.out 2
              simp at e0_4 e1_4 e2_4
              have HTk : Hid (joinQ (t.take (k + 1)) = (acc ++ [38]) ++ enc pn) := (by rw [HT.out]; rw [if_neg hTk]; simp [txQ] : joinQ (t.take (k + 1)) = _)
              have HBf : Hid (Bd (w.heap.size + 1) w.heap.size (Lib.byteCells (joinQ (t.take (k + 1)))) w4) := (by rw [HTk.out]; exact HB4.out : Bd _ _ _ _)
              go_wp2
              go_roundw
              case rel => exact ⟨k + 1, by omega, by go_num, HAk, HBf, HW4, HS4⟩
              case measure => simp [intOf]; omega
        · have hve := nonempty_of hv0
          have hvl : pv ≠ [] := fun e => hv0 (by rw [hv, e]; rfl)
          have HBk : Hid (prqR t = ([], 54)) := HBad.out (by simp [okQ, hvl])
          clear hvl
          go_wp2
          go_ret2
          rw [HBk.out]
          exact ⟨rfl, HW1.out⟩
    · obtain rfl : k = t.length := by omega
      have HG : Hid (prqR t = (joinQ t, 0)) := prq_good t hA.out
      rw [List.take_length] at hB
      go_wp2_with fail
      refine (String_bd _ _ _ _ hB.out hS.out).mono ?_
      rintro e w2 ⟨rfl, hb2, _⟩
      go_wp2
      go_ret2
      rw [HG.out]
      exact ⟨rfl, hW.out.trans (hb2.mono (by omega))⟩

end Tg
end Go.Proofs.YtpoefoepmigbeaaDoor
