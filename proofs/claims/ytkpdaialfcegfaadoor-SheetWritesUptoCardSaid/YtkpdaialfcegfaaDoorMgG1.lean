/- Several texts as one. -/
import Derived.Test.YtkpdaialfcegfaaDoorMgE1
import Derived.Test.YtkpdaialfcegfaaDoorMgF1
/-
  check, PrintLine, Print; the document's.
-/
set_option linter.unusedVariables false
set_option linter.unusedSimpArgs false
namespace Go.Proofs.YtkpdaialfcegfaaDoor
open Go.RowKit Go.Shelf
namespace Fd
open Oc Tg

/-- What is not right of a field. -/
theorem empty_str {l : List UInt8} (h : l = []) : (str l).toList.isEmpty = true := empty_of (by rw [str_size, h]; rfl)
theorem nonempty_str {l : List UInt8} (h : l ≠ []) : (str l).toList.isEmpty = false := by
  rw [ByteArray.toList_eq, str_list]
  cases l with
  | nil => exact absurd rfl h
  | cons _ _ => rfl
def chkZ (p : Fl) : Int := if isName p.1 then if isValue p.2 then 0 else 61 else 60
def lineP (p : Fl) : List UInt8 := if p.2 = [] then p.1 ++ [58] else p.1 ++ [58] ++ [32] ++ p.2
def printL (p : Fl) : List UInt8 × Int := if chkZ p = 0 then (lineP p, 0) else ([], chkZ p)
def printG : List Fl → List UInt8 → List UInt8 × Int
  | [], acc => (acc, 0)
  | p :: t, acc => if chkZ p = 0 then printG t (acc ++ lineP p ++ [13, 10]) else ([], chkZ p)
def printT (t : List Fl) : List UInt8 × Int := if 100 < t.length then ([], 65) else printG t []
theorem chk_cases (p : Fl) : (chkZ p = 0 ∧ isName p.1 = true ∧ isValue p.2 = true) ∨ (chkZ p = 61 ∧ isName p.1 = true ∧ isValue p.2 = false) ∨ (chkZ p = 60 ∧ isName p.1 = false) := by
  unfold chkZ
  cases h1 : isName p.1 with
  | false => exact .inr (.inr ⟨rfl, rfl⟩)
  | true =>
    cases h2 : isValue p.2 with
    | false => exact .inr (.inl ⟨rfl, rfl, rfl⟩)
    | true => exact .inl ⟨rfl, rfl, rfl⟩
theorem drop_nth (t : List Fl) (k : Nat) (h : k < t.length) : t.drop k = nth t k :: t.drop (k + 1) := by
  rw [List.drop_eq_getElem_cons h]
  unfold nth
  rw [List.getD_eq_getElem?_getD, List.getElem?_eq_getElem h]
  rfl
theorem lineP_len (p : Fl) : (lineP p).length ≤ szF p := by
  unfold lineP szF
  split
  · simp; omega
  · simp; omega
theorem str_app (a b : List UInt8) : str a ++ str b = str (a ++ b) := by
  apply eq_list
  rw [ByteArray.data_append, Array.toList_append, str_list, str_list, str_list]
theorem join_str (a b : ByteArray) : (a ++ b) = str (a.data.toList ++ b.data.toList) := by
  conv => lhs; rw [← str_self a, ← str_self b]
  rw [str_app]

set_option maxRecDepth 100000 in
set_option maxHeartbeats 1000000 in
theorem check_any (p : Fl) (h1 : p.1.length ≤ maxLen) (h2 : p.2.length ≤ maxLen) (w : World) (t : Tab w) :
    Calls Tryd.prog 137 #[.agg #[.string (str p.1), .string (str p.2)]] w fun e w' => e = .returned (.int .i64 (chkZ p)) ∧ Below w.heap.size w w' := by
  obtain ⟨pn, pv⟩ := p
  dsimp only at h1 h2 ⊢
  have hb1 : Below w.heap.size w (w.alloc (.cells #[.string (str pn), .string (str pv)] 128)) := (Below.refl _ w).alloc (Nat.le_refl _) _
  have HN : Hid (Calls Tryd.prog 150 #[.string (str pn)] (w.alloc (.cells #[.string (str pn), .string (str pv)] 128)) fun e w' => e = .returned (.bool (isName pn)) ∧ Below (w.alloc (.cells #[.string (str pn), .string (str pv)] 128)).heap.size (w.alloc (.cells #[.string (str pn), .string (str pv)] 128)) w') := by
    have h := IsName_any (str pn) (by rw [str_size]; exact h1) (w.alloc (.cells #[.string (str pn), .string (str pv)] 128)) (t.below hb1 (Nat.le_refl _))
    rw [str_list] at h
    exact h
  have HV : Hid (∀ w, Calls Tryd.prog 151 #[.string (str pv)] w fun e w' => e = .returned (.bool (isValue pv)) ∧ Below w.heap.size w w') := fun w => by
    have h := IsValue_any (str pv) (by rw [str_size]; exact h2) w
    rw [str_list] at h
    exact h
  have HB1 : Hid (Below _ _ _) := hb1
  have HC : Hid (_) := chk_cases (pn, pv)
  generalize chkZ (pn, pv) = z at *
  generalize str pn = N at *
  generalize str pv = V at *
  dsimp only at HC
  generalize isName pn = b1 at *
  generalize isValue pv = b2 at *
  clear hb1 t h1 h2
  rcases HC.out with ⟨rfl, rfl, rfl⟩ | ⟨rfl, rfl, rfl⟩ | ⟨rfl, rfl⟩
  all_goals clear HC
  · go_enter Tryd.func137, Tryd.ntmps137
    go_wp2_with fail
    refine HN.out.mono ?_
    rintro e w2 ⟨rfl, hb2⟩
    have c1 : w2.cell? ⟨w.heap.size, 1, none⟩ = some (.string V) := by rw [hb2.cell (by simp)]; simp
    have HB2 : Hid (Below w.heap.size w w2) := bel_trans HB1.out hb2
    clear hb2
    go_wp2_with fail
    refine (HV.out _).mono ?_
    rintro e w3 ⟨rfl, hb3⟩
    have HB3 : Hid (Below w.heap.size w w3) := bel_trans HB2.out hb3
    clear hb3
    go_wp2
    go_ret
    exact ⟨rfl, HB3.out⟩
  · go_enter Tryd.func137, Tryd.ntmps137
    go_wp2_with fail
    refine HN.out.mono ?_
    rintro e w2 ⟨rfl, hb2⟩
    have c1 : w2.cell? ⟨w.heap.size, 1, none⟩ = some (.string V) := by rw [hb2.cell (by simp)]; simp
    have HB2 : Hid (Below w.heap.size w w2) := bel_trans HB1.out hb2
    clear hb2
    go_wp2_with fail
    refine (HV.out _).mono ?_
    rintro e w3 ⟨rfl, hb3⟩
    have HB3 : Hid (Below w.heap.size w w3) := bel_trans HB2.out hb3
    clear hb3
    go_wp2
    go_ret
    exact ⟨rfl, HB3.out⟩
  · go_enter Tryd.func137, Tryd.ntmps137
    go_wp2_with fail
    refine HN.out.mono ?_
    rintro e w2 ⟨rfl, hb2⟩
    have HB2 : Hid (Below w.heap.size w w2) := bel_trans HB1.out hb2
    clear hb2
    go_wp2
    go_ret
    exact ⟨rfl, HB2.out⟩

set_option maxRecDepth 100000 in
set_option maxHeartbeats 1000000 in
theorem PrintLine_any (p : Fl) (h1 : p.1.length ≤ 4000000) (h2 : p.2.length ≤ 4000000) (w : World) (t : Tab w) :
    Calls Tryd.prog 120 #[.agg #[.string (str p.1), .string (str p.2)]] w fun e w' => e = .returned (.tuple #[.string (str (printL p).1), .int .i64 (printL p).2]) ∧ Below w.heap.size w w' := by
  obtain ⟨pn, pv⟩ := p
  dsimp only at h1 h2 ⊢
  have hb1 : Below w.heap.size w (w.alloc (.cells #[.string (str pn), .string (str pv)] 128)) := (Below.refl _ w).alloc (Nat.le_refl _) _
  have HC : Hid (Calls Tryd.prog 137 #[.agg #[.string (str pn), .string (str pv)]] (w.alloc (.cells #[.string (str pn), .string (str pv)] 128)) fun e w' => e = .returned (.int .i64 (chkZ (pn, pv))) ∧ Below (w.alloc (.cells #[.string (str pn), .string (str pv)] 128)).heap.size (w.alloc (.cells #[.string (str pn), .string (str pv)] 128)) w') := check_any (pn, pv) (by unfold maxLen; dsimp only; omega) (by unfold maxLen; dsimp only; omega) _ (t.below hb1 (Nat.le_refl _))
  clear t
  have HB1 : Hid (Below _ _ _) := hb1
  have hn : (str pn).size ≤ 4000000 := by rw [str_size]; exact h1
  have hv : (str pv).size ≤ 4000000 := by rw [str_size]; exact h2
  have E1 : pv = [] → Hid (str (lineP (pn, pv)) = str pn ++ ⟨#[58]⟩) := fun h => by
    show _ = _
    unfold lineP
    rw [if_pos h, ← str_app]
    rfl
  have E2 : pv ≠ [] → Hid (str (lineP (pn, pv)) = str pn ++ ⟨#[58]⟩ ++ ⟨#[32]⟩ ++ str pv) := fun h => by
    show _ = _
    unfold lineP
    rw [if_neg h, ← str_app, ← str_app, ← str_app]
    rfl
  have X1 : pv = [] → (str pv).toList.isEmpty = true := fun h => empty_str h
  have X2 : pv ≠ [] → (str pv).toList.isEmpty = false := fun h => nonempty_str h
  unfold printL
  rcases chk_cases (pn, pv) with ⟨hz, hin, hiv⟩ | ⟨hz, hin, hiv⟩ | ⟨hz, hin⟩
  · dsimp only at hin hiv
    rw [hz] at HC
    rw [if_pos hz]
    dsimp only
    clear hz hin hiv
    by_cases hv0 : pv = []
    · have e1 := E1 hv0
      have x1 := X1 hv0
      clear E1 E2 X1 X2 h1 h2 hb1 hv0
      generalize hL : str (lineP (pn, pv)) = L at *
      clear hL
      generalize str pn = N at *
      generalize str pv = V at *
      go_enter Tryd.func120, Tryd.ntmps120
      go_wp2_with fail
      refine HC.out.mono ?_
      rintro e w2 ⟨rfl, hb2⟩
      have c0 : w2.cell? ⟨w.heap.size, 0, none⟩ = some (.string N) := by rw [hb2.cell (by simp)]; simp
      have c1 : w2.cell? ⟨w.heap.size, 1, none⟩ = some (.string V) := by rw [hb2.cell (by simp)]; simp
      have HB9 : Hid (Below w.heap.size w w2) := bel_trans HB1.out hb2
      clear hb2
      go_wp2
      go_ret2
      exact ⟨by rw [e1.out]; rfl, HB9.out⟩
    · have e2 := E2 hv0
      have x2 := X2 hv0
      clear E1 E2 X1 X2 h1 h2 hb1 hv0
      generalize hL : str (lineP (pn, pv)) = L at *
      clear hL
      generalize str pn = N at *
      generalize str pv = V at *
      go_enter Tryd.func120, Tryd.ntmps120
      go_wp2_with fail
      refine HC.out.mono ?_
      rintro e w2 ⟨rfl, hb2⟩
      have c0 : w2.cell? ⟨w.heap.size, 0, none⟩ = some (.string N) := by rw [hb2.cell (by simp)]; simp
      have c1 : w2.cell? ⟨w.heap.size, 1, none⟩ = some (.string V) := by rw [hb2.cell (by simp)]; simp
      have HB9 : Hid (Below w.heap.size w w2) := bel_trans HB1.out hb2
      clear hb2
      go_wp2
      go_ret2
      exact ⟨by rw [e2.out]; rfl, HB9.out⟩
  · dsimp only at hin hiv
    rw [hz] at HC
    rw [hz, if_neg (by decide)]
    dsimp only
    clear hz hin E1 E2 X1 X2 h1 h2 hb1 hiv
    generalize str pn = N at *
    generalize str pv = V at *
    go_enter Tryd.func120, Tryd.ntmps120
    go_wp2_with fail
    refine HC.out.mono ?_
    rintro e w2 ⟨rfl, hb2⟩
    have c0 : w2.cell? ⟨w.heap.size, 0, none⟩ = some (.string N) := by rw [hb2.cell (by simp)]; simp
    have c1 : w2.cell? ⟨w.heap.size, 1, none⟩ = some (.string V) := by rw [hb2.cell (by simp)]; simp
    have HB9 : Hid (Below w.heap.size w w2) := bel_trans HB1.out hb2
    clear hb2
    go_wp2
    go_ret2
    exact ⟨rfl, HB9.out⟩
  · dsimp only at hin
    rw [hz] at HC
    rw [hz, if_neg (by decide)]
    dsimp only
    clear hz hin E1 E2 X1 X2 h1 h2 hb1
    generalize str pn = N at *
    generalize str pv = V at *
    go_enter Tryd.func120, Tryd.ntmps120
    go_wp2_with fail
    refine HC.out.mono ?_
    rintro e w2 ⟨rfl, hb2⟩
    have c0 : w2.cell? ⟨w.heap.size, 0, none⟩ = some (.string N) := by rw [hb2.cell (by simp)]; simp
    have c1 : w2.cell? ⟨w.heap.size, 1, none⟩ = some (.string V) := by rw [hb2.cell (by simp)]; simp
    have HB9 : Hid (Below w.heap.size w w2) := bel_trans HB1.out hb2
    clear hb2
    go_wp2
    go_ret2
    exact ⟨rfl, HB9.out⟩

end Fd
end Go.Proofs.YtkpdaialfcegfaaDoor

/-
  Print, and the document's.
-/
set_option linter.unusedVariables false
set_option linter.unusedSimpArgs false
namespace Go.Proofs.YtkpdaialfcegfaaDoor
open Go.RowKit Go.Shelf
namespace Fd
open Oc Tg

theorem sz_le : ∀ (t : List Fl) (k : Nat), k < t.length → szF (nth t k) ≤ sumF t
  | [], k, h => by simp at h
  | p :: t, 0, _ => by
    simp only [sumF, List.map_cons, List.sum_cons]
    show szF p ≤ _
    omega
  | p :: t, k + 1, h => by
    have := sz_le t k (by simpa using h)
    simp only [sumF, List.map_cons, List.sum_cons]
    show szF (nth t k) ≤ _
    simp only [sumF] at this
    omega
theorem printG_next (t : List Fl) (k : Nat) (h : k < t.length) (acc : List UInt8) (hz : chkZ (nth t k) = 0) : printG (t.drop k) acc = printG (t.drop (k + 1)) (acc ++ lineP (nth t k) ++ [13, 10]) := by
  rw [drop_nth t k h]
  show (if _ then _ else _) = _
  rw [if_pos hz]
theorem printG_bad (t : List Fl) (k : Nat) (h : k < t.length) (acc : List UInt8) (hz : chkZ (nth t k) ≠ 0) : printG (t.drop k) acc = ([], chkZ (nth t k)) := by
  rw [drop_nth t k h]
  show (if _ then _ else _) = _
  rw [if_neg hz]

set_option maxRecDepth 100000 in
set_option maxHeartbeats 2000000 in
theorem Print_any (v : Value) (t : List Fl) (hs : sumF t ≤ 4000000) (w : World) (hr : RdF v t w) (tab : Tab w) :
    Calls Tryd.prog 94 #[v] w fun e w' => e = .returned (.tuple #[.string (str (printT t).1), .int .i64 (printT t).2]) ∧ Below w.heap.size w w' := by
  have hlen := len_sumF t
  have HR : Hid (RdF v t w) := hr
  have HT : Hid (Tab w) := tab
  obtain ⟨a, c, rfl, _⟩ := hr
  clear tab
  by_cases h100 : 100 < t.length
  · have HP : Hid (printT t = ([], 65)) := by show _ = _; unfold printT; rw [if_pos h100]
    go_enter Tryd.func94, Tryd.ntmps94
    go_wp2
    go_ret2
    exact ⟨by rw [HP.out]; rfl, Below.refl _ _⟩
  · have HP : Hid (printT t = printG t []) := by show _ = _; unfold printT; rw [if_neg h100]
    have HBD : Hid (Bd (w.heap.size + 1) w.heap.size (Lib.byteCells []) (w.alloc (.cells #[.pointer none, .slice none 0 0] 80))) := Bd.new w (w.heap.size + 1)
    go_enter Tryd.func94, Tryd.ntmps94
    go_wp2
    go_loopw [14] (fun i wr => ∃ (k : Nat) (acc : List UInt8), k ≤ t.length ∧ i = .int .i64 k ∧ Hid (printT t = printG (t.drop k) acc) ∧ Hid (acc.length ≤ k * 4000024) ∧ Hid (Bd (w.heap.size + 1) w.heap.size (Lib.byteCells acc) wr) ∧ Hid (Below w.heap.size w wr) ∧ Hid (w.heap.size + 1 ≤ wr.heap.size)) (fun i _ => t.length - (intOf i).toNat)
    case atStart => exact ⟨0, [], Nat.zero_le _, rfl, HP, (by simp : _ ≤ _), HBD, (Below.refl _ w).alloc (Nat.le_refl _) _, (by simp : _ ≤ _)⟩
    case round =>
      obtain ⟨k, acc, hk, rfl, hst, hal, hB, hW, hS⟩ := hrel
      by_cases hlt : k < t.length
      · obtain ⟨a', c', e', hcs⟩ := HR.out.below hW.out
        injection e' with e1 _ e2
        subst e1 e2
        rcases hcs with h | ⟨g, o, rfl, hlc, hcell⟩
        · rw [h] at hlt; simp at hlt
        obtain ⟨p0, p1⟩ := hcell k hlt
        have hz := sz_le t k hlt
        have hll := lineP_len (nth t k)
        have NX : chkZ (nth t k) = 0 → Hid (printT t = printG (t.drop (k + 1)) (acc ++ lineP (nth t k) ++ [13, 10])) := fun h => hst.out.trans (printG_next t k hlt acc h)
        have BD : chkZ (nth t k) ≠ 0 → Hid (printT t = ([], chkZ (nth t k))) := fun h => hst.out.trans (printG_bad t k hlt acc h)
        have hp1 : (nth t k).1.length ≤ 4000000 := by unfold szF at hz; omega
        have hp2 : (nth t k).2.length ≤ 4000000 := by unfold szF at hz; omega
        have HPL : Hid (∀ w, Tab w → Calls Tryd.prog 120 #[.agg #[.string (str (nth t k).1), .string (str (nth t k).2)]] w fun e w' => e = .returned (.tuple #[.string (str (printL (nth t k)).1), .int .i64 (printL (nth t k)).2]) ∧ Below w.heap.size w w') := fun w tb => PrintLine_any (nth t k) (by omega) (by omega) w tb
        clear hcell hst
        generalize nth t k = p at *
        have hx : (lineP p).length ≤ 4000000 := by omega
        have hxs : (str (lineP p)).size ≤ 4000000 := by rw [str_size]; exact hx
        generalize str p.1 = N at *
        generalize str p.2 = V at *
        have hb1 : Below wr.heap.size wr (wr.alloc (.cells #[.string N, .string V] 128)) := (Below.refl _ wr).alloc (Nat.le_refl _) _
        have HBW : Hid (Below w.heap.size w (wr.alloc (.cells #[.string N, .string V] 128))) := bel_trans hW.out hb1
        have HB1 : Hid (Bd (w.heap.size + 1) w.heap.size (Lib.byteCells acc) (wr.alloc (.cells #[.string N, .string V] 128))) := hB.out.below hb1
        have HS1 : Hid (w.heap.size + 1 ≤ (wr.alloc (.cells #[.string N, .string V] 128)).heap.size) := Nat.le_trans hS.out hb1.size
        clear hb1 hz hll hp1 hp2
        by_cases hz0 : chkZ p = 0
        · have nx := NX hz0
          rw [show printL p = (lineP p, 0) by unfold printL; rw [if_pos hz0]] at HPL
          dsimp only at HPL
          clear NX BD hz0
          generalize hLP : lineP p = LP at *
          clear hLP
          go_wp2_with fail
          refine (HPL.out _ (HT.out.below HBW.out (Nat.le_refl _))).mono ?_
          rintro e w2 ⟨rfl, hb2⟩
          have HB2 : Hid (Bd (w.heap.size + 1) w.heap.size (Lib.byteCells acc) w2) := HB1.out.below hb2
          have HW2 : Hid (Below w.heap.size w w2) := bel_trans HBW.out hb2
          have HS2 : Hid (w.heap.size + 1 ≤ w2.heap.size) := Nat.le_trans HS1.out hb2.size
          clear hb2
          go_wp2_with fail
          refine (WriteString_bd _ _ _ _ _ HB2.out (by rw [cells_len]; have := hal.out; omega) HS2.out).mono ?_
          rintro e w3 ⟨rfl, hB3, hF3⟩
          have HB3 : Hid (Bd (w.heap.size + 1) w.heap.size (Lib.byteCells (acc ++ LP)) w3) := by
            show Bd _ _ _ _
            rw [cells_app, ← cells_str LP]
            exact hB3
          have HF3 : Hid (_) := hF3
          have HS3 : Hid (w.heap.size + 1 ≤ w3.heap.size) := Nat.le_trans HS2.out hF3.size
          clear hB3 hF3
          go_wp2_with fail
          refine (WriteString_bd _ _ _ _ _ HB3.out (by rw [cells_len, List.length_append]; have := hal.out; show _ + 2 ≤ _; omega) HS3.out).mono ?_
          rintro e w4 ⟨rfl, hB4, hF4⟩
          have HB4 : Hid (Bd (w.heap.size + 1) w.heap.size (Lib.byteCells (acc ++ LP ++ [13, 10])) w4) := by
            show Bd _ _ _ _
            rw [cells_app (acc ++ LP), ← cells_str [13, 10]]
            exact hB4
          have hF := HF3.out.trans hF4
          have HW4 : Hid (Below w.heap.size w w4) := HW2.out.trans (hF.below (by omega) (Nat.le_refl _))
          have HS4 : Hid (w.heap.size + 1 ≤ w4.heap.size) := Nat.le_trans HS2.out hF.size
          have HA4 : Hid ((acc ++ LP ++ [13, 10]).length ≤ (k + 1) * 4000024) := by show _ ≤ _; rw [List.length_append, List.length_append]; have := hal.out; simp; omega
          clear hB4 hF4 hF
          go_wp2
          go_roundw
          case rel => exact ⟨k + 1, acc ++ LP ++ [13, 10], by omega, by go_num, nx, HA4, HB4, HW4, HS4⟩
          case measure => simp [intOf]; omega
        · have bd := BD hz0
          rw [show printL p = ([], chkZ p) by unfold printL; rw [if_neg hz0]] at HPL
          dsimp only at HPL
          have hzq : (chkZ p != 0) = true := by simp [hz0]
          clear NX BD hz0
          generalize chkZ p = z at *
          go_wp2_with fail
          refine (HPL.out _ (HT.out.below HBW.out (Nat.le_refl _))).mono ?_
          rintro e w2 ⟨rfl, hb2⟩
          have HW2 : Hid (Below w.heap.size w w2) := bel_trans HBW.out hb2
          clear hb2
          go_wp2
          go_ret2
          exact ⟨by rw [bd.out]; rfl, HW2.out⟩
      · have HE : Hid (printT t = (acc, 0)) := by
          show _ = _
          rw [hst.out, List.drop_eq_nil_of_le (by omega)]
          rfl
        go_wp2_with fail
        refine (String_bd _ _ _ _ hB.out hS.out).mono ?_
        rintro e w2 ⟨rfl, hb2, _⟩
        have HW2 : Hid (Below w.heap.size w w2) := hW.out.trans (hb2.mono (by omega))
        clear hb2
        go_wp2
        go_ret2
        exact ⟨by rw [HE.out]; rfl, HW2.out⟩

end Fd
end Go.Proofs.YtkpdaialfcegfaaDoor
