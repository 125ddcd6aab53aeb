/- Several texts as one. -/
import Derived.Test.YtiabbppbmcnddaaGreatDoorMgS
import Derived.Test.YtiabbppbmcnddaaGreatDoorMgV
/-
  Print, and the document's.
-/
set_option linter.unusedVariables false
set_option linter.unusedSimpArgs false
namespace Go.Proofs.YtiabbppbmcnddaaGreatDoor
open Go.RowKit Go.Shelf
namespace Fd
open Oc Tg

theorem sz_le : ∀ (t : List Fl) (k : Nat), k < t.length → szF (nth t k) ≤ sumF t
  | [], k, h => by simp at h
  | p :: t, 0, _ => by
    simp only [sumF, List.map_cons, List.sum_cons]
    show szF p ≤ _
    omega
  | p :: t, k + 1, h => by
    have := sz_le t k (by simpa using h)
    simp only [sumF, List.map_cons, List.sum_cons]
    show szF (nth t k) ≤ _
    simp only [sumF] at this
    omega
theorem printG_next (t : List Fl) (k : Nat) (h : k < t.length) (acc : List UInt8) (hz : chkZ (nth t k) = 0) : printG (t.drop k) acc = printG (t.drop (k + 1)) (acc ++ lineP (nth t k) ++ [13, 10]) := by
  rw [drop_nth t k h]
  show (if _ then _ else _) = _
  rw [if_pos hz]
theorem printG_bad (t : List Fl) (k : Nat) (h : k < t.length) (acc : List UInt8) (hz : chkZ (nth t k) ≠ 0) : printG (t.drop k) acc = ([], chkZ (nth t k)) := by
  rw [drop_nth t k h]
  show (if _ then _ else _) = _
  rw [if_neg hz]

set_option maxRecDepth 100000 in
set_option maxHeartbeats 2000000 in
theorem Print_any (v : Value) (t : List Fl) (hs : sumF t ≤ 4000000) (w : World) (hr : RdF v t w) (tab : Tab w) :
    Calls Tryz.prog 44 #[v] w fun e w' => e = .returned (.tuple #[.string (str (printT t).1), .int .i64 (printT t).2]) ∧ Below w.heap.size w w' := by
  have hlen := len_sumF t
  have HR : Hid (RdF v t w) := hr
  have HT : Hid (Tab w) := tab
  obtain ⟨a, c, rfl, _⟩ := hr
  clear tab
  by_cases h100 : 100 < t.length
  · have HP : Hid (printT t = ([], 65)) := by show _ = _; unfold printT; rw [if_pos h100]
    go_enter Tryz.func44, Tryz.ntmps44
    go_wp2
    go_ret2
    exact ⟨by rw [HP.out]; rfl, Below.refl _ _⟩
  · have HP : Hid (printT t = printG t []) := by show _ = _; unfold printT; rw [if_neg h100]
    have HBD : Hid (Bd (w.heap.size + 1) w.heap.size (Lib.byteCells []) (w.alloc (.cells #[.pointer none, .slice none 0 0] 103))) := Bd.new w (w.heap.size + 1)
    go_enter Tryz.func44, Tryz.ntmps44
    go_wp2
    go_loopw [14] (fun i wr => ∃ (k : Nat) (acc : List UInt8), k ≤ t.length ∧ i = .int .i64 k ∧ Hid (printT t = printG (t.drop k) acc) ∧ Hid (acc.length ≤ k * 4000024) ∧ Hid (Bd (w.heap.size + 1) w.heap.size (Lib.byteCells acc) wr) ∧ Hid (Below w.heap.size w wr) ∧ Hid (w.heap.size + 1 ≤ wr.heap.size)) (fun i _ => t.length - (intOf i).toNat)
    case atStart => exact ⟨0, [], Nat.zero_le _, rfl, HP, (by simp : _ ≤ _), HBD, (Below.refl _ w).alloc (Nat.le_refl _) _, (by simp : _ ≤ _)⟩
    case round =>
      obtain ⟨k, acc, hk, rfl, hst, hal, hB, hW, hS⟩ := hrel
      by_cases hlt : k < t.length
      · obtain ⟨a', c', e', hcs⟩ := HR.out.below hW.out
        injection e' with e1 _ e2
        subst e1 e2
        rcases hcs with h | ⟨g, o, rfl, hlc, hcell⟩
        · rw [h] at hlt; simp at hlt
        obtain ⟨p0, p1⟩ := hcell k hlt
        have hz := sz_le t k hlt
        have hll := lineP_len (nth t k)
        have NX : chkZ (nth t k) = 0 → Hid (printT t = printG (t.drop (k + 1)) (acc ++ lineP (nth t k) ++ [13, 10])) := fun h => hst.out.trans (printG_next t k hlt acc h)
        have BD : chkZ (nth t k) ≠ 0 → Hid (printT t = ([], chkZ (nth t k))) := fun h => hst.out.trans (printG_bad t k hlt acc h)
        have hp1 : (nth t k).1.length ≤ 4000000 := by unfold szF at hz; omega
        have hp2 : (nth t k).2.length ≤ 4000000 := by unfold szF at hz; omega
        have HPL : Hid (∀ w, Tab w → Calls Tryz.prog 67 #[.agg #[.string (str (nth t k).1), .string (str (nth t k).2)]] w fun e w' => e = .returned (.tuple #[.string (str (printL (nth t k)).1), .int .i64 (printL (nth t k)).2]) ∧ Below w.heap.size w w') := fun w tb => PrintLine_any (nth t k) (by omega) (by omega) w tb
        clear hcell hst
        generalize nth t k = p at *
        have hx : (lineP p).length ≤ 4000000 := by omega
        have hxs : (str (lineP p)).size ≤ 4000000 := by rw [str_size]; exact hx
        generalize str p.1 = N at *
        generalize str p.2 = V at *
        have hb1 : Below wr.heap.size wr (wr.alloc (.cells #[.string N, .string V] 66)) := (Below.refl _ wr).alloc (Nat.le_refl _) _
        have HBW : Hid (Below w.heap.size w (wr.alloc (.cells #[.string N, .string V] 66))) := bel_trans hW.out hb1
        have HB1 : Hid (Bd (w.heap.size + 1) w.heap.size (Lib.byteCells acc) (wr.alloc (.cells #[.string N, .string V] 66))) := hB.out.below hb1
        have HS1 : Hid (w.heap.size + 1 ≤ (wr.alloc (.cells #[.string N, .string V] 66)).heap.size) := Nat.le_trans hS.out hb1.size
        clear hb1 hz hll hp1 hp2
        by_cases hz0 : chkZ p = 0
        · have nx := NX hz0
          rw [show printL p = (lineP p, 0) by unfold printL; rw [if_pos hz0]] at HPL
          dsimp only at HPL
          clear NX BD hz0
          generalize hLP : lineP p = LP at *
          clear hLP
          go_wp2_with fail
          refine (HPL.out _ (HT.out.below HBW.out (Nat.le_refl _))).mono ?_
          rintro e w2 ⟨rfl, hb2⟩
          have HB2 : Hid (Bd (w.heap.size + 1) w.heap.size (Lib.byteCells acc) w2) := HB1.out.below hb2
          have HW2 : Hid (Below w.heap.size w w2) := bel_trans HBW.out hb2
          have HS2 : Hid (w.heap.size + 1 ≤ w2.heap.size) := Nat.le_trans HS1.out hb2.size
          clear hb2
          go_wp2_with fail
          refine (WriteString_bd _ _ _ _ _ HB2.out (by rw [cells_len]; have := hal.out; omega) HS2.out).mono ?_
          rintro e w3 ⟨rfl, hB3, hF3⟩
          have HB3 : Hid (Bd (w.heap.size + 1) w.heap.size (Lib.byteCells (acc ++ LP)) w3) := by
            show Bd _ _ _ _
            rw [cells_app, ← cells_str LP]
            exact hB3
          have HF3 : Hid (_) := hF3
          have HS3 : Hid (w.heap.size + 1 ≤ w3.heap.size) := Nat.le_trans HS2.out hF3.size
          clear hB3 hF3
          go_wp2_with fail
          refine (WriteString_bd _ _ _ _ _ HB3.out (by rw [cells_len, List.length_append]; have := hal.out; show _ + 2 ≤ _; omega) HS3.out).mono ?_
          rintro e w4 ⟨rfl, hB4, hF4⟩
          have HB4 : Hid (Bd (w.heap.size + 1) w.heap.size (Lib.byteCells (acc ++ LP ++ [13, 10])) w4) := by
            show Bd _ _ _ _
            rw [cells_app (acc ++ LP), ← cells_str [13, 10]]
            exact hB4
          have hF := HF3.out.trans hF4
          have HW4 : Hid (Below w.heap.size w w4) := HW2.out.trans (hF.below (by omega) (Nat.le_refl _))
          have HS4 : Hid (w.heap.size + 1 ≤ w4.heap.size) := Nat.le_trans HS2.out hF.size
          have HA4 : Hid ((acc ++ LP ++ [13, 10]).length ≤ (k + 1) * 4000024) := by show _ ≤ _; rw [List.length_append, List.length_append]; have := hal.out; simp; omega
          clear hB4 hF4 hF
          go_wp2
          go_roundw
          case rel => exact ⟨k + 1, acc ++ LP ++ [13, 10], by omega, by go_num, nx, HA4, HB4, HW4, HS4⟩
          case measure => simp [intOf]; omega
        · have bd := BD hz0
          rw [show printL p = ([], chkZ p) by unfold printL; rw [if_neg hz0]] at HPL
          dsimp only at HPL
          have hzq : (chkZ p != 0) = true := by simp [hz0]
          clear NX BD hz0
          generalize chkZ p = z at *
          go_wp2_with fail
          refine (HPL.out _ (HT.out.below HBW.out (Nat.le_refl _))).mono ?_
          rintro e w2 ⟨rfl, hb2⟩
          have HW2 : Hid (Below w.heap.size w w2) := bel_trans HBW.out hb2
          clear hb2
          go_wp2
          go_ret2
          exact ⟨by rw [bd.out]; rfl, HW2.out⟩
      · have HE : Hid (printT t = (acc, 0)) := by
          show _ = _
          rw [hst.out, List.drop_eq_nil_of_le (by omega)]
          rfl
        go_wp2_with fail
        refine (String_bd _ _ _ _ hB.out hS.out).mono ?_
        rintro e w2 ⟨rfl, hb2, _⟩
        have HW2 : Hid (Below w.heap.size w w2) := hW.out.trans (hb2.mono (by omega))
        clear hb2
        go_wp2
        go_ret2
        exact ⟨by rw [HE.out]; rfl, HW2.out⟩

set_option maxRecDepth 100000 in
set_option maxHeartbeats 2000000 in
theorem rPrint_any (v : Value) (t : List Fl) (hs : sumF t ≤ 4000000) (w : World) (hr : RdF v t w) :
    Calls Tryz.prog 50 #[v] w fun e w' => e = .returned (.tuple #[.string (str (printT t).1), .int .i64 (printT t).2]) ∧ Below w.heap.size w w' := by
  have hlen := len_sumF t
  have HR : Hid (RdF v t w) := hr
  obtain ⟨a, c, rfl, _⟩ := hr
  by_cases h100 : 100 < t.length
  · have HP : Hid (printT t = ([], 65)) := by show _ = _; unfold printT; rw [if_pos h100]
    go_enter Tryz.func50, Tryz.ntmps50
    go_wp2
    go_ret2
    exact ⟨by rw [HP.out]; rfl, Below.refl _ _⟩
  · have HP : Hid (printT t = printG t []) := by show _ = _; unfold printT; rw [if_neg h100]
    go_enter Tryz.func50, Tryz.ntmps50
    go_wp2
    go_loopw [4, 14] (fun ov i wr => ∃ (k : Nat) (acc : List UInt8), k ≤ t.length ∧ ov = .string (str acc) ∧ i = .int .i64 k ∧ Hid (printT t = printG (t.drop k) acc) ∧ Hid (acc.length ≤ k * 4000024) ∧ Hid (Below w.heap.size w wr)) (fun _ i _ => t.length - (intOf i).toNat)
    case atStart => exact ⟨0, [], Nat.zero_le _, rfl, rfl, HP, (by simp : _ ≤ _), Below.refl _ _⟩
    case round =>
      obtain ⟨k, acc, hk, rfl, rfl, hst, hal, hW⟩ := hrel
      by_cases hlt : k < t.length
      · obtain ⟨a', c', e', hcs⟩ := HR.out.below hW.out
        injection e' with e1 _ e2
        subst e1 e2
        rcases hcs with h | ⟨g, o, rfl, hlc, hcell⟩
        · rw [h] at hlt; simp at hlt
        obtain ⟨p0, p1⟩ := hcell k hlt
        have hz := sz_le t k hlt
        have hll := lineP_len (nth t k)
        have NX : chkZ (nth t k) = 0 → Hid (printT t = printG (t.drop (k + 1)) (acc ++ lineP (nth t k) ++ [13, 10])) := fun h => hst.out.trans (printG_next t k hlt acc h)
        have BD : chkZ (nth t k) ≠ 0 → Hid (printT t = ([], chkZ (nth t k))) := fun h => hst.out.trans (printG_bad t k hlt acc h)
        have hp1 : (nth t k).1.length ≤ 4000000 := by unfold szF at hz; omega
        have hp2 : (nth t k).2.length ≤ 4000000 := by unfold szF at hz; omega
        have HPL : Hid (∀ w, Calls Tryz.prog 74 #[.agg #[.string (str (nth t k).1), .string (str (nth t k).2)]] w fun e w' => e = .returned (.tuple #[.string (str (printL (nth t k)).1), .int .i64 (printL (nth t k)).2]) ∧ Below w.heap.size w w') := fun w => rPrintLine_any (nth t k) (by omega) (by omega) w
        clear hcell hst
        generalize nth t k = p at *
        have hx : (lineP p).length ≤ 4000000 := by omega
        have hxs : (str (lineP p)).size ≤ 4000000 := by rw [str_size]; exact hx
        have has : (str acc).size ≤ 400002400 := by rw [str_size]; have := hal.out; omega
        have HEQ : Hid (str acc ++ (str (lineP p) ++ ⟨#[13, 10]⟩) = str (acc ++ lineP p ++ [13, 10])) := by
          show _ = _
          rw [List.append_assoc, ← str_app, ← str_app]
          rfl
        generalize str p.1 = N at *
        generalize str p.2 = V at *
        have hb1 : Below wr.heap.size wr (wr.alloc (.cells #[.string N, .string V] 80)) := (Below.refl _ wr).alloc (Nat.le_refl _) _
        have HBW : Hid (Below w.heap.size w (wr.alloc (.cells #[.string N, .string V] 80))) := bel_trans hW.out hb1
        clear hb1 hz hll hp1 hp2
        by_cases hz0 : chkZ p = 0
        · have nx := NX hz0
          rw [show printL p = (lineP p, 0) by unfold printL; rw [if_pos hz0]] at HPL
          dsimp only at HPL
          clear NX BD hz0
          have HA4 : Hid ((acc ++ lineP p ++ [13, 10]).length ≤ (k + 1) * 4000024) := by show _ ≤ _; rw [List.length_append, List.length_append]; have := hal.out; simp; omega
          generalize hLP : str (lineP p) = LP at *
          generalize hAC : str acc = AC at *
          clear hLP hAC
          go_wp2_with fail
          refine (HPL.out _).mono ?_
          rintro e w2 ⟨rfl, hb2⟩
          have HW2 : Hid (Below w.heap.size w w2) := bel_trans HBW.out hb2
          clear hb2
          go_wp2
          go_roundw
          case rel => exact ⟨k + 1, acc ++ lineP p ++ [13, 10], by omega, by rw [HEQ.out], by go_num, nx, HA4, HW2⟩
          case measure => simp [intOf]; omega
        · have bd := BD hz0
          rw [show printL p = ([], chkZ p) by unfold printL; rw [if_neg hz0]] at HPL
          dsimp only at HPL
          have hzq : (chkZ p != 0) = true := by simp [hz0]
          clear NX BD hz0
          generalize chkZ p = z at *
          go_wp2_with fail
          refine (HPL.out _).mono ?_
          rintro e w2 ⟨rfl, hb2⟩
          have HW2 : Hid (Below w.heap.size w w2) := bel_trans HBW.out hb2
          clear hb2
          go_wp2
          go_ret2
          exact ⟨by rw [bd.out]; rfl, HW2.out⟩
      · have HE : Hid (printT t = (acc, 0)) := by
          show _ = _
          rw [hst.out, List.drop_eq_nil_of_le (by omega)]
          rfl
        go_wp2
        go_ret2
        exact ⟨by rw [HE.out]; rfl, hW.out⟩

end Fd
end Go.Proofs.YtiabbppbmcnddaaGreatDoor

/-
  What is printed is read back, plain.
-/
set_option linter.unusedVariables false
set_option linter.unusedSimpArgs false
namespace Go.Proofs.YtiabbppbmcnddaaGreatDoor
open Go.RowKit Go.Shelf
namespace Fd
open Oc Tg

def textOf (t : List Fl) : List UInt8 := t.flatMap fun p => lineP p ++ [13, 10]
theorem tok_plain {c : UInt8} (h : tokB c = true) : c ≠ 58 ∧ c ≠ 13 ∧ blankB c = false := by
  have hn : ∀ d : UInt8, tokB d = false → c ≠ d := fun d hd e => by rw [e, hd] at h; cases h
  refine ⟨hn 58 (by decide +kernel), hn 13 (by decide +kernel), ?_⟩
  cases hb : blankB c with
  | false => rfl
  | true =>
    exfalso
    unfold blankB blankI at hb
    have := of_decide_eq_true hb
    rcases this with h1 | h1
    · exact hn 32 (by decide +kernel) (UInt8.toNat_inj.1 (by show _ = 32; omega))
    · exact hn 9 (by decide +kernel) (UInt8.toNat_inj.1 (by show _ = 9; omega))
theorem field_13 {c : UInt8} (h : fieldB c = true) : c ≠ 13 := fun e => by rw [e] at h; revert h; decide +kernel
theorem cut_at {a r : List UInt8} (h : ∀ c ∈ a, c ≠ 58) : cutA 58 (a ++ 58 :: r) = a ∧ cutB 58 (a ++ 58 :: r) = r ∧ has 58 (a ++ 58 :: r) = true := by
  have hp : ∀ x ∈ a, (fun c : UInt8 => c != 58) x = true := fun x hx => by simpa using h x hx
  refine ⟨?_, ?_, ?_⟩
  · unfold cutA
    rw [List.takeWhile_append_of_pos hp]
    simp
  · unfold cutB
    rw [List.dropWhile_append_of_pos hp]
    simp
  · unfold has
    simp
theorem parse_line {p : Fl} (h1 : isName p.1 = true) (h2 : isValue p.2 = true) : parseL (lineP p) = (p, 0, 0) := by
  obtain ⟨n, v⟩ := p
  dsimp only at h1 h2
  have hn := h1
  unfold isName isTok at hn
  simp only [Bool.and_eq_true, List.all_eq_true] at hn
  obtain ⟨⟨hne, hall⟩, _⟩ := hn
  have hv := h2
  unfold isValue at hv
  simp only [Bool.and_eq_true, decide_eq_true_eq] at hv
  obtain ⟨⟨hf, h8⟩, htr⟩ := hv
  obtain ⟨r, hr, hfr, htrr⟩ : ∃ r, lineP (n, v) = n ++ 58 :: r ∧ isFld r = true ∧ trim r = v := by
    unfold lineP
    by_cases h0 : v = []
    · subst h0
      exact ⟨[], by simp, rfl, rfl⟩
    · refine ⟨32 :: v, by simp [h0], ?_, ?_⟩
      · have hf2 := hf
        unfold isFld at hf2 ⊢
        rw [List.all_cons, hf2, show fieldB 32 = true by decide +kernel]
        rfl
      · unfold trim at htr ⊢
        rw [trimL_cons, show blankB 32 = true by decide +kernel, if_pos rfl]
        exact htr
  obtain ⟨e1, e2, e3⟩ := cut_at (a := n) (r := r) (fun c hc => (tok_plain (hall c hc)).1)
  rw [hr]
  have hb : blank0 (n ++ 58 :: r) = false := by
    cases n with
    | nil => simp at hne
    | cons c n => exact (tok_plain (hall c (by simp))).2.2
  have h := pl_F hb e3 (by rw [e1]; exact h1) (by rw [e2]; exact hfr) (by rw [e2, htrr]; exact h8)
  rw [h, e1, e2, htrr]
theorem line_13 {p : Fl} (h1 : isName p.1 = true) (h2 : isValue p.2 = true) : ∀ c ∈ lineP p, c ≠ 13 := by
  obtain ⟨n, v⟩ := p
  dsimp only at h1 h2
  have hn := h1
  unfold isName isTok at hn
  simp only [Bool.and_eq_true, List.all_eq_true] at hn
  have hv := h2
  unfold isValue isFld at hv
  simp only [Bool.and_eq_true, List.all_eq_true] at hv
  intro c hc
  unfold lineP at hc
  dsimp only at hc
  have key : c ∈ n ∨ c = 58 ∨ c = 32 ∨ c ∈ v := by
    split at hc
    · simp at hc; rcases hc with h | h
      · exact .inl h
      · exact .inr (.inl h)
    · simp at hc; rcases hc with h | h | h | h
      · exact .inl h
      · exact .inr (.inl h)
      · exact .inr (.inr (.inl h))
      · exact .inr (.inr (.inr h))
  rcases key with h | rfl | rfl | h
  · exact (tok_plain (hn.1.2 c h)).2.1
  · decide
  · decide
  · exact field_13 (hv.1.1 c h)
theorem index_crlf (a r : List UInt8) (h : ∀ c ∈ a, c ≠ 13) : Lib.index (a ++ [13, 10] ++ r) [13, 10] = (a.length : Int) := by
  refine Lib.index_first (by simp) ?_ (fun j hj => ?_)
  · unfold Lib.occAt
    rw [List.append_assoc, List.drop_left]
    rfl
  · rw [occ2 _ _ (by simp; omega)]
    have : (a ++ [13, 10] ++ r).getD j 0 = a[j] := by
      rw [List.append_assoc, List.getD_eq_getElem?_getD, List.getElem?_append_left hj, List.getElem?_eq_getElem hj]
      rfl
    rw [this]
    have := h a[j] (List.getElem_mem hj)
    simp [this]
theorem text_back : ∀ (t : List Fl) (f at_ : Nat) (acc : List Fl), (∀ p ∈ t, isName p.1 = true ∧ isValue p.2 = true) → acc.length + t.length ≤ 100 → (textOf t).length < f → parseT f (textOf t) at_ acc = (acc ++ t, 0, 0)
  | [], f, at_, acc, _, _, hf => by
    cases f with
    | zero => simp [textOf] at hf
    | succ f => rw [parseT_succ, if_pos (show textOf [] = [] from rfl)]; simp
  | p :: t, f, at_, acc, hr, hl, hf => by
    have ht : textOf (p :: t) = lineP p ++ [13, 10] ++ textOf t := by simp [textOf]
    obtain ⟨r1, r2⟩ := hr p (by simp)
    have hi := index_crlf (lineP p) (textOf t) (line_13 r1 r2)
    cases f with
    | zero => omega
    | succ f =>
      rw [ht] at hf ⊢
      rw [parseT_succ, if_neg (by simp), hi, if_neg (by omega), if_neg (by simp at hl; omega)]
      have hx : (lineP p ++ [13, 10] ++ textOf t).take (lineP p).length = lineP p := by rw [List.append_assoc, List.take_left]
      have hd : (lineP p ++ [13, 10] ++ textOf t).drop ((lineP p).length + 2) = textOf t := by
        rw [show (lineP p).length + 2 = (lineP p ++ [13, 10]).length by simp, List.drop_left]
      rw [show (((lineP p).length : Int)).toNat = (lineP p).length by omega, hx, hd, parse_line r1 r2]
      dsimp only
      rw [if_pos rfl, text_back t f _ _ (fun q hq => hr q (by simp [hq])) (by simp at hl ⊢; omega) (by simp at hf; omega)]
      simp
theorem chk_right {p : Fl} (h1 : isName p.1 = true) (h2 : isValue p.2 = true) : chkZ p = 0 := by unfold chkZ; rw [h1, h2]; rfl
theorem print_right : ∀ (t : List Fl) (acc : List UInt8), (∀ p ∈ t, isName p.1 = true ∧ isValue p.2 = true) → printG t acc = (acc ++ textOf t, 0)
  | [], acc, _ => by simp [printG, textOf]
  | p :: t, acc, hr => by
    obtain ⟨r1, r2⟩ := hr p (by simp)
    unfold printG
    rw [if_pos (chk_right r1 r2), print_right t _ (fun q hq => hr q (by simp [hq]))]
    simp [textOf]
theorem back_all {t : List Fl} (hr : ∀ p ∈ t, isName p.1 = true ∧ isValue p.2 = true) (hl : t.length ≤ 100) : printT t = (textOf t, 0) ∧ parseText (textOf t) = (t, 0, 0) := by
  refine ⟨?_, ?_⟩
  · unfold printT
    rw [if_neg (by omega), print_right t [] hr]
    simp
  · unfold parseText
    rw [text_back t _ 0 [] hr (by simpa using hl) (by omega)]
    simp
theorem text_len : ∀ t : List Fl, (textOf t).length ≤ 2 * sumF t
  | [] => by simp [textOf]
  | p :: t => by
    have := text_len t
    have h2 := lineP_len p
    rw [show textOf (p :: t) = lineP p ++ [13, 10] ++ textOf t by simp [textOf]]
    simp only [sumF, List.map_cons, List.sum_cons] at this ⊢
    have h3 : 3 ≤ szF p := by unfold szF; omega
    simp
    omega

end Fd
end Go.Proofs.YtiabbppbmcnddaaGreatDoor

/-
  message: keepField, endHead.
-/
set_option linter.unusedVariables false
set_option linter.unusedSimpArgs false
set_option maxRecDepth 100000
namespace Go.Proofs.YtiabbppbmcnddaaGreatDoor
open Go.RowKit Go.Shelf
namespace Ms
open Oc Tg _root_.Go.Proofs.YtiabbppbmcnddaaGreatDoor.Fd _root_.Go.Proofs.YtiabbppbmcnddaaGreatDoor.Ck

/-- The fields have turned. -/
theorem IsH.adds {T : Nat} {ex : List Value} {w w6 : World} {D g m cp : Nat} {s : HS} {vl vf : Value} {l' : List Fl} (hT : TOk T) (H : IsH T ex w D s vl vf) (ho : OwnF 66 0 (.slice (some ⟨g, 0, none⟩) m cp) l' w6) (hb : But vf.ownBlock.toList w w6) (hg : vf.ownBlock = some g ∨ w.heap.size ≤ g) :
    IsH T ex (w6.setCell ⟨D, 11, none⟩ (.slice (some ⟨g, 0, none⟩) m cp)) D { s with fs := l' } vl (.slice (some ⟨g, 0, none⟩) m cp) ∧ Goes (ftH D vl vf) w (ftH D vl (.slice (some ⟨g, 0, none⟩) m cp)) (w6.setCell ⟨D, 11, none⟩ (.slice (some ⟨g, 0, none⟩) m cp)) := by
  have hD6 : Blk T w6 D (lcH s vl vf ex) := H.str.but hb (fun e => by
    simp at e
    exact H.str.ne H.fs hT.2 e rfl)
  have hA := hD6.set 11 (.slice (some ⟨g, 0, none⟩) m cp)
  have hb2 := setD (But.refl [D] w6) 11 (.slice (some ⟨g, 0, none⟩) m cp)
  have hl6 : Own 0 vl s.line w6 := hb.owns H.line (fun k hk e => ne_rows H.line H.fs (by decide) hk (by simpa using e))
  refine ⟨⟨hA, hD6.keep hl6 hT.1 hb2, hD6.keep ho hT.2 hb2⟩, goesH ?_ (fun k h => .inl h) ?_⟩
  · exact (hb.mono (fun x hx => by simp at hx; simp [ftH, hx])).trans (ftHd hb2 _ _)
  · intro k hk
    have e : g = k := by simpa [Value.ownBlock] using hk
    subst e
    exact hg
theorem HdS.lt {T : Nat} {ex : List Value} {w : World} {D : Nat} {s : HS} {bs : List Nat} (h : HdS T ex w D s bs) : D < w.heap.size := by
  obtain ⟨vl, vf, H, _⟩ := h
  exact H.str.lt
/-- Something is wrong at a place. -/
theorem HdS.refuse {T : Nat} (hT : TOk T) {ex : List Value} {w : World} {D : Nat} {s : HS} {bs : List Nat} (h : HdS T ex w D s bs) (a e : Int) :
    Calls Tryz.prog 111 #[.pointer (some ⟨D, 0, none⟩), .int .i64 a, .int .i64 e] w fun x w' => x = .returned (.int .i64 e) ∧ HdS T ex w' D { s with wrong := a } bs ∧ Goes bs w bs w' := by
  obtain ⟨vl, vf, H, rfl⟩ := h
  refine (refuse_raw H.str ⟨_, rfl⟩ a e).mono ?_
  rintro x w' ⟨rfl, rfl⟩
  have hb := setD (But.refl [D] w) 3 (.int .i64 a)
  exact ⟨rfl, ⟨vl, vf, H.build (s' := { s with wrong := a }) hT hb (H.str.set 3 _) H.line rfl, rfl⟩, goesH (ftHd hb _ _) (fun g h => .inl h) (fun g h => .inl h)⟩

def hField (s : HS) (l : List UInt8) (a : Nat) : HS × Int :=
  if s.fs.length = 100 then ({ s with wrong := (a : Int) }, 65)
  else if (parseL l).2.2 ≠ 0 then ({ s with wrong := (a : Int) + ((parseL l).2.1 : Int) }, (parseL l).2.2)
  else ({ s with fs := s.fs ++ [(parseL l).1] }, 0)

set_option maxHeartbeats 4000000 in
theorem keepField_any {T : Nat} (hT : TOk T) {ex : List Value} {w0 w : World} {D : Nat} {s : HS} {bs : List Nat} (HB : Base w0 w bs) (H : HdS T ex w D s bs) (l : List UInt8) (hl : l.length ≤ 4000000000) (a : Nat) (ha : a ≤ 4000000000) (hfs : s.fs.length ≤ 100) :
    Calls Tryz.prog 141 #[.pointer (some ⟨D, 0, none⟩), .string (str l), .int .i64 (a : Int)] w fun e w' => e = .returned (.int .i64 (hField s l a).2) ∧ ∃ bs', HdS T ex w' D (hField s l a).1 bs' ∧ Goes bs w bs' w' := by
  have HHB : Hid (Base w0 w bs) := HB
  have HDD : Hid (HdS T ex w D s bs) := H
  have HTT : Hid (TOk T) := hT
  have HP : Hid (Calls Tryz.prog 156 #[.string (str l)] w fun e w' => e = .returned (lineV (parseL l)) ∧ Below w.heap.size w w') := by
    have h := ParseLine_any (str l) (by rw [str_size]; exact hl) w HB.at
    rw [str_list] at h
    exact h
  have hpl : (parseL l).2.1 ≤ 5000000000 := by
    have := parseL_le l
    omega
  have HK : Hid (hField s l a = if s.fs.length = 100 then ({ s with wrong := (a : Int) }, 65) else if (parseL l).2.2 ≠ 0 then ({ s with wrong := (a : Int) + ((parseL l).2.1 : Int) }, (parseL l).2.2) else ({ s with fs := s.fs ++ [(parseL l).1] }, 0)) := rfl
  unfold lineV at HP
  generalize parseL l = q at *
  obtain ⟨⟨p1, p2⟩, pl, pe⟩ := q
  simp only at HP HK hpl
  generalize hField s l a = R at *
  generalize str l = L at *
  obtain ⟨n1, hn1⟩ : ∃ n1, n1 = str p1 := ⟨_, rfl⟩
  obtain ⟨n2, hn2⟩ : ∃ n2, n2 = str p2 := ⟨_, rfl⟩
  rw [← hn1, ← hn2] at HP
  have HN1 : Hid (n1 = str p1) := hn1
  have HN2 : Hid (n2 = str p2) := hn2
  clear hn1 hn2 hl HB
  obtain ⟨vl, vf, HI, hbs⟩ := H
  obtain ⟨va, vc, rfl⟩ := ownF_form HI.fs
  have HBS : Hid (bs = ftH D vl (.slice va s.fs.length vc)) := hbs
  have HI0 : Hid (IsH T ex w D s vl (.slice va s.fs.length vc)) := HI
  have c11 : w.cell? ⟨D, 11, none⟩ = some (.slice va s.fs.length vc) := HI.str.cell 11 rfl
  clear HI hbs hT
  by_cases h100 : s.fs.length = 100
  · have hq : ((s.fs.length : Int) == 100) = true := by rw [h100]; rfl
    have HQ : Hid (R = ({ s with wrong := (a : Int) }, 65)) := (by rw [HK.out, if_pos h100] : _ = _)
    clear h100
    go_enter Tryz.func141, Tryz.ntmps141
    go_wp2_with fail
    refine (HDD.out.refuse HTT.out _ _).mono ?_
    rintro e w1 ⟨rfl, hd1, hg1⟩
    have HD1 : Hid (HdS T ex w1 D { s with wrong := (a : Int) } bs) := hd1
    have HG1 : Hid (Goes bs w bs w1) := hg1
    clear hd1 hg1
    go_wp2
    go_ret
    rw [HQ.out]
    exact ⟨rfl, bs, HD1.out, HG1.out⟩
  · have hq : ((s.fs.length : Int) == 100) = false := by simp; omega
    have hfl : s.fs.length + 1 ≤ 2147483648 := by omega
    have HK2 : Hid (R = if pe ≠ 0 then ({ s with wrong := (a : Int) + (pl : Int) }, pe) else ({ s with fs := s.fs ++ [(p1, p2)] }, 0)) := (by rw [HK.out, if_neg h100] : _ = _)
    clear h100 hfs
    go_enter Tryz.func141, Tryz.ntmps141
    go_wp2_with fail
    refine HP.out.mono ?_
    rintro e w1 ⟨rfl, hb1⟩
    have HD1 : Hid (HdS T ex w1 D s bs) := HDD.out.below hb1
    have HG1 : Hid (Goes bs w bs w1) := Goes.below hb1
    have HI1 : Hid (IsH T ex w1 D s vl (.slice va s.fs.length vc)) := HI0.out.below hb1
    clear hb1 HDD HP c11 HI0
    have hBA : Below w1.heap.size w1 (w1.alloc (.cells #[.string n1, .string n2] 66)) := (Below.refl _ w1).alloc (Nat.le_refl _) _
    have HDA : Hid (HdS T ex (w1.alloc (.cells #[.string n1, .string n2] 66)) D s bs) := HD1.out.below hBA
    have HGA : Hid (Goes bs w bs (w1.alloc (.cells #[.string n1, .string n2] 66))) := HG1.out.trans (Goes.below hBA)
    have HIA : Hid (IsH T ex (w1.alloc (.cells #[.string n1, .string n2] 66)) D s vl (.slice va s.fs.length vc)) := HI1.out.below hBA
    have HRA : Hid ((w1.alloc (.cells #[.string n1, .string n2] 66)).heap[w1.heap.size]? = some (.cells #[.string n1, .string n2] 66 (0, 0))) := heap_alloc_new _ _
    have HDlt : Hid (D < w1.heap.size) := HD1.out.lt
    clear hBA
    by_cases he : pe = 0
    · subst he
      have HQ : Hid (R = ({ s with fs := s.fs ++ [(p1, p2)] }, 0)) := (by rw [HK2.out, if_neg (by simp)] : _ = _)
      go_wp2_with fail
      obtain ⟨w3, hw3⟩ : ∃ w3, w3 = w1.alloc (.cells #[.string n1, .string n2] 66) := ⟨_, rfl⟩
      rw [← hw3] at HDA HGA HIA HRA ⊢
      generalize hBz : w1.heap.size = B at *
      clear hw3 hBz
      have hBlt : B < w3.heap.size := (Array.getElem?_eq_some_iff.1 HRA.out).1
      have hDlt : D < w3.heap.size := HDA.out.lt
      have c11 : w3.cell? ⟨D, 11, none⟩ = some (.slice va s.fs.length vc) := HIA.out.str.cell 11 rfl
      have cf : ∀ i, w3.frozen? ⟨D, i, none⟩ = false := HIA.out.str.free
      have b0 : w3.cell? ⟨B, 0, none⟩ = some (.string n1) := by rw [cell_of_row w3 B _ _ _ _ HRA.out]; rfl
      have b1 : w3.cell? ⟨B, 1, none⟩ = some (.string n2) := by rw [cell_of_row w3 B _ _ _ _ HRA.out]; rfl
      have HOD : Hid (OwnF 66 0 (.slice va s.fs.length vc) s.fs w3.drew) := (But.refl [] w3).drew.owns HIA.out.fs (fun _ _ e => by cases e)
      have HSD : Hid (Blk T w3.drew D (lcH s vl (.slice va s.fs.length vc) ex)) := HIA.out.str.but (But.refl [] w3).drew (fun e => by cases e)
      have q1 : ¬ D = w3.heap.size := by omega
      have q2 : ¬ w3.heap.size = D := by omega
      have q3 : ¬ B = w3.heap.size := by omega
      have q4 : ¬ w3.heap.size = B := by omega
      have d10 : w3.drew.cell? ⟨D, 11, none⟩ = some (.slice va s.fs.length vc) := c11
      have d0 : w3.drew.cell? ⟨B, 0, none⟩ = some (.string n1) := b0
      have d1 : w3.drew.cell? ⟨B, 1, none⟩ = some (.string n2) := b1
      have a10 : (w3.alloc (.cells #[.string n1, .string n2] 66)).cell? ⟨D, 11, none⟩ = some (.slice va s.fs.length vc) := ((But.refl [] w3).alloc _).cell c11 (fun e => by cases e)
      generalize hm : s.fs.length = m at *
      have HMM : Hid (s.fs.length = m) := hm
      clear hm
      go_region_law (refine step_appF rfl (.tmp 42) (.tmp 44) rfl (.slice va m vc) s.fs w3.drew (p1, p2) n1 n2 HN1.out HN2.out (by simp [Act.eval, Act.put]) HOD.out (by simp [Act.eval, Act.put]) (by have := HMM.out; omega) ?_; intro g6 c6' w6 ho6 hb6 hg6; rw [HMM.out]; have S6 : Hid (Blk T w6 D _) := HSD.out.but hb6.out (fun e => HSD.out.ne HOD.out HTT.out.2 (by simpa using e) rfl); have e11 := S6.out.cell 11 rfl; have ef := S6.out.free 11)
      all_goals
        have P := IsH.adds HTT.out HIA.out (l' := s.fs ++ [(p1, p2)]) (m := m + 1) (by have := ho6.out; rw [HMM.out] at this; exact this) ((But.refl _ w3).drew.trans hb6.out) hg6.out
        obtain ⟨w7, hw7⟩ : ∃ w7, w7 = w6.setCell ⟨D, 11, none⟩ (.slice (some ⟨g6, 0, none⟩) (m + 1) c6') := ⟨_, rfl⟩
        rw [← hw7] at P ⊢
        clear hw7
        have HIF : Hid (IsH T ex w7 D { s with fs := s.fs ++ [(p1, p2)] } vl (.slice (some ⟨g6, 0, none⟩) (m + 1) c6')) := P.1
        have HGF : Hid (Goes bs w (ftH D vl (.slice (some ⟨g6, 0, none⟩) (m + 1) c6')) w7) := by
          have h2 := HGA.out
          rw [HBS.out] at h2 ⊢
          exact h2.trans P.2
        clear P ho6 hb6 hg6 S6 e11 ef
        go_wp2
        go_ret
        rw [HQ.out]
        exact ⟨rfl, _, ⟨_, _, HIF.out, rfl⟩, HGF.out⟩
    · have he1 : (pe != 0) = true := by simp [he]
      have HQ : Hid (R = ({ s with wrong := (a : Int) + (pl : Int) }, pe)) := (by rw [HK2.out, if_pos he] : _ = _)
      clear he
      have ht : (-9223372036854775808 : Int) ≤ (a : Int) + (pl : Int) ∧ (a : Int) + (pl : Int) ≤ 9223372036854775807 := by omega
      go_wp2_with fail
      refine (HDA.out.refuse HTT.out _ _).mono ?_
      rintro e w3 ⟨rfl, hd3, hg3⟩
      have HD3 : Hid (HdS T ex w3 D { s with wrong := (a : Int) + (pl : Int) } bs) := hd3
      have HG3 : Hid (Goes bs w bs w3) := HGA.out.trans hg3
      clear hd3 hg3
      go_wp2
      go_ret
      rw [HQ.out]
      exact ⟨rfl, bs, HD3.out, HG3.out⟩

end Ms
end Go.Proofs.YtiabbppbmcnddaaGreatDoor
