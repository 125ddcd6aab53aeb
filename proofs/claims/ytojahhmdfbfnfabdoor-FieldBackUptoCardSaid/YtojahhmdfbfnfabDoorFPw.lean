/-
  Print, and the document's.
-/
import Derived.Test.YtojahhmdfbfnfabDoorFPt
set_option linter.unusedVariables false
set_option linter.unusedSimpArgs false
namespace Go.Proofs.YtojahhmdfbfnfabDoor
open Go.RowKit Go.Shelf
namespace Fd
open Oc Tg

theorem sz_le : ∀ (t : List Fl) (k : Nat), k < t.length → szF (nth t k) ≤ sumF t
  | [], k, h => by simp at h
  | p :: t, 0, _ => by
    simp only [sumF, List.map_cons, List.sum_cons]
    show szF p ≤ _
    omega
  | p :: t, k + 1, h => by
    have := sz_le t k (by simpa using h)
    simp only [sumF, List.map_cons, List.sum_cons]
    show szF (nth t k) ≤ _
    simp only [sumF] at this
    omega
theorem printG_next (t : List Fl) (k : Nat) (h : k < t.length) (acc : List UInt8) (hz : chkZ (nth t k) = 0) : printG (t.drop k) acc = printG (t.drop (k + 1)) (acc ++ lineP (nth t k) ++ [13, 10]) := by
  rw [drop_nth t k h]
  show (if _ then _ else _) = _
  rw [if_pos hz]
theorem printG_bad (t : List Fl) (k : Nat) (h : k < t.length) (acc : List UInt8) (hz : chkZ (nth t k) ≠ 0) : printG (t.drop k) acc = ([], chkZ (nth t k)) := by
  rw [drop_nth t k h]
  show (if _ then _ else _) = _
  rw [if_neg hz]

set_option maxRecDepth 100000 in
set_option maxHeartbeats 2000000 in
theorem Print_any (v : Value) (t : List Fl) (hs : sumF t ≤ 1048576) (w : World) (hr : RdF v t w) (tab : Tab w) :
    Calls Tryd.prog 29 #[v] w fun e w' => e = .returned (.tuple #[.string (str (printT t).1), .int .i64 (printT t).2]) ∧ Below w.heap.size w w' := by
  have hlen := len_sumF t
  have HR : Hid (RdF v t w) := hr
  have HT : Hid (Tab w) := tab
  obtain ⟨a, c, rfl, _⟩ := hr
  clear tab
  by_cases h100 : 100 < t.length
  · have HP : Hid (printT t = ([], 65)) := by show _ = _; unfold printT; rw [if_pos h100]
    go_enter Tryd.func29, Tryd.ntmps29
    go_wp2
    go_ret2
    exact ⟨by rw [HP.out]; rfl, Below.refl _ _⟩
  · have HP : Hid (printT t = printG t []) := by show _ = _; unfold printT; rw [if_neg h100]
    have HBD : Hid (Bd (w.heap.size + 1) w.heap.size (Lib.byteCells []) (w.alloc (.cells #[.pointer none, .slice none 0 0] 94))) := Bd.new w (w.heap.size + 1)
    go_enter Tryd.func29, Tryd.ntmps29
    go_wp2
    go_loopw [14] (fun i wr => ∃ (k : Nat) (acc : List UInt8), k ≤ t.length ∧ i = .int .i64 k ∧ Hid (printT t = printG (t.drop k) acc) ∧ Hid (acc.length ≤ k * 1048600) ∧ Hid (Bd (w.heap.size + 1) w.heap.size (Lib.byteCells acc) wr) ∧ Hid (Below w.heap.size w wr) ∧ Hid (w.heap.size + 1 ≤ wr.heap.size)) (fun i _ => t.length - (intOf i).toNat)
    case atStart => exact ⟨0, [], Nat.zero_le _, rfl, HP, (by simp : _ ≤ _), HBD, (Below.refl _ w).alloc (Nat.le_refl _) _, (by simp : _ ≤ _)⟩
    case round =>
      obtain ⟨k, acc, hk, rfl, hst, hal, hB, hW, hS⟩ := hrel
      by_cases hlt : k < t.length
      · obtain ⟨a', c', e', hcs⟩ := HR.out.below hW.out
        injection e' with e1 _ e2
        subst e1 e2
        rcases hcs with h | ⟨g, o, rfl, hlc, hcell⟩
        · rw [h] at hlt; simp at hlt
        obtain ⟨p0, p1⟩ := hcell k hlt
        have hz := sz_le t k hlt
        have hll := lineP_len (nth t k)
        have NX : chkZ (nth t k) = 0 → Hid (printT t = printG (t.drop (k + 1)) (acc ++ lineP (nth t k) ++ [13, 10])) := fun h => hst.out.trans (printG_next t k hlt acc h)
        have BD : chkZ (nth t k) ≠ 0 → Hid (printT t = ([], chkZ (nth t k))) := fun h => hst.out.trans (printG_bad t k hlt acc h)
        have hp1 : (nth t k).1.length ≤ 1048576 := by unfold szF at hz; omega
        have hp2 : (nth t k).2.length ≤ 1048576 := by unfold szF at hz; omega
        have HPL : Hid (∀ w, Tab w → Calls Tryd.prog 59 #[.agg #[.string (str (nth t k).1), .string (str (nth t k).2)]] w fun e w' => e = .returned (.tuple #[.string (str (printL (nth t k)).1), .int .i64 (printL (nth t k)).2]) ∧ Below w.heap.size w w') := fun w tb => PrintLine_any (nth t k) (by omega) (by omega) w tb
        clear hcell hst
        generalize nth t k = p at *
        have hx : (lineP p).length ≤ 1048576 := by omega
        have hxs : (str (lineP p)).size ≤ 1048576 := by rw [str_size]; exact hx
        generalize str p.1 = N at *
        generalize str p.2 = V at *
        have hb1 : Below wr.heap.size wr (wr.alloc (.cells #[.string N, .string V] 56)) := (Below.refl _ wr).alloc (Nat.le_refl _) _
        have HBW : Hid (Below w.heap.size w (wr.alloc (.cells #[.string N, .string V] 56))) := bel_trans hW.out hb1
        have HB1 : Hid (Bd (w.heap.size + 1) w.heap.size (Lib.byteCells acc) (wr.alloc (.cells #[.string N, .string V] 56))) := hB.out.below hb1
        have HS1 : Hid (w.heap.size + 1 ≤ (wr.alloc (.cells #[.string N, .string V] 56)).heap.size) := Nat.le_trans hS.out hb1.size
        clear hb1 hz hll hp1 hp2
        by_cases hz0 : chkZ p = 0
        · have nx := NX hz0
          rw [show printL p = (lineP p, 0) by unfold printL; rw [if_pos hz0]] at HPL
          dsimp only at HPL
          clear NX BD hz0
          generalize hLP : lineP p = LP at *
          clear hLP
          go_wp2_with fail
          refine (HPL.out _ (HT.out.below HBW.out (Nat.le_refl _))).mono ?_
          rintro e w2 ⟨rfl, hb2⟩
          have HB2 : Hid (Bd (w.heap.size + 1) w.heap.size (Lib.byteCells acc) w2) := HB1.out.below hb2
          have HW2 : Hid (Below w.heap.size w w2) := bel_trans HBW.out hb2
          have HS2 : Hid (w.heap.size + 1 ≤ w2.heap.size) := Nat.le_trans HS1.out hb2.size
          clear hb2
          go_wp2_with fail
          refine (WriteString_bd _ _ _ _ _ HB2.out (by rw [cells_len]; have := hal.out; omega) HS2.out).mono ?_
          rintro e w3 ⟨rfl, hB3, hF3⟩
          have HB3 : Hid (Bd (w.heap.size + 1) w.heap.size (Lib.byteCells (acc ++ LP)) w3) := by
            show Bd _ _ _ _
            rw [cells_app, ← cells_str LP]
            exact hB3
          have HF3 : Hid (_) := hF3
          have HS3 : Hid (w.heap.size + 1 ≤ w3.heap.size) := Nat.le_trans HS2.out hF3.size
          clear hB3 hF3
          go_wp2_with fail
          refine (WriteString_bd _ _ _ _ _ HB3.out (by rw [cells_len, List.length_append]; have := hal.out; show _ + 2 ≤ _; omega) HS3.out).mono ?_
          rintro e w4 ⟨rfl, hB4, hF4⟩
          have HB4 : Hid (Bd (w.heap.size + 1) w.heap.size (Lib.byteCells (acc ++ LP ++ [13, 10])) w4) := by
            show Bd _ _ _ _
            rw [cells_app (acc ++ LP), ← cells_str [13, 10]]
            exact hB4
          have hF := HF3.out.trans hF4
          have HW4 : Hid (Below w.heap.size w w4) := HW2.out.trans (hF.below (by omega) (Nat.le_refl _))
          have HS4 : Hid (w.heap.size + 1 ≤ w4.heap.size) := Nat.le_trans HS2.out hF.size
          have HA4 : Hid ((acc ++ LP ++ [13, 10]).length ≤ (k + 1) * 1048600) := by show _ ≤ _; rw [List.length_append, List.length_append]; have := hal.out; simp; omega
          clear hB4 hF4 hF
          go_wp2
          go_roundw
          case rel => exact ⟨k + 1, acc ++ LP ++ [13, 10], by omega, by go_num, nx, HA4, HB4, HW4, HS4⟩
          case measure => simp [intOf]; omega
        · have bd := BD hz0
          rw [show printL p = ([], chkZ p) by unfold printL; rw [if_neg hz0]] at HPL
          dsimp only at HPL
          have hzq : (chkZ p != 0) = true := by simp [hz0]
          clear NX BD hz0
          generalize chkZ p = z at *
          go_wp2_with fail
          refine (HPL.out _ (HT.out.below HBW.out (Nat.le_refl _))).mono ?_
          rintro e w2 ⟨rfl, hb2⟩
          have HW2 : Hid (Below w.heap.size w w2) := bel_trans HBW.out hb2
          clear hb2
          go_wp2
          go_ret2
          exact ⟨by rw [bd.out]; rfl, HW2.out⟩
      · have HE : Hid (printT t = (acc, 0)) := by
          show _ = _
          rw [hst.out, List.drop_eq_nil_of_le (by omega)]
          rfl
        go_wp2_with fail
        refine (String_bd _ _ _ _ hB.out hS.out).mono ?_
        rintro e w2 ⟨rfl, hb2, _⟩
        have HW2 : Hid (Below w.heap.size w w2) := hW.out.trans (hb2.mono (by omega))
        clear hb2
        go_wp2
        go_ret2
        exact ⟨by rw [HE.out]; rfl, HW2.out⟩

end Fd
end Go.Proofs.YtojahhmdfbfnfabDoor
