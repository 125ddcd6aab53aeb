/- Several texts as one. -/
import Derived.Test.YtkpdaialfcegfaaDoorMgG1
import Derived.Test.YtkpdaialfcegfaaDoorMgN
import Derived.Test.YtkpdaialfcegfaaDoorMgH1
/-
  sheet: parts as a body, plain.
-/
set_option linter.unusedVariables false
set_option linter.unusedSimpArgs false
namespace Go.Proofs.YtkpdaialfcegfaaDoor
namespace Wr
open Oc Tg Pt

def CD : List UInt8 := [67, 111, 110, 116, 101, 110, 116, 45, 68, 105, 115, 112, 111, 115, 105, 116, 105, 111, 110]
def CT : List UInt8 := [67, 111, 110, 116, 101, 110, 116, 45, 84, 121, 112, 101]
def K1 : List UInt8 := [102, 111, 114, 109, 45, 100, 97, 116, 97, 59, 32, 110, 97, 109, 101, 61]
def K2 : List UInt8 := [59, 32, 102, 105, 108, 101, 110, 97, 109, 101, 61]
/-- What a part's disposition says. -/
def valR (p : P5) : List UInt8 := if p.h then K1 ++ qText p.n ++ (K2 ++ qText p.f) else K1 ++ qText p.n
def pass (p : P5) : Bool := isFld p.n && (isFld p.f && (p.h || decide (p.f = [])))
def okPt (p : P5) : Bool := pass p && (Fd.isValue (valR p) && (decide (p.m = []) || Fd.isValue p.m))
def headR (p : P5) : List UInt8 := CD ++ [58, 32] ++ valR p ++ [13, 10] ++ (if p.m = [] then [] else CT ++ [58, 32] ++ p.m ++ [13, 10])
def flds (p : P5) : List Fd.Fl := if p.m = [] then [(CD, valR p)] else [(CD, valR p), (CT, p.m)]
def partR (b : List UInt8) (p : P5) : List UInt8 := (45 :: 45 :: b) ++ [13, 10] ++ headR p ++ [13, 10] ++ p.b ++ [13, 10]
def bodyR (b : List UInt8) (t : List P5) : List UInt8 := t.flatMap (partR b)
def endR (b : List UInt8) : List UInt8 := (45 :: 45 :: b) ++ [45, 45] ++ [13, 10]

theorem fld_q (l : List UInt8) (h : isFld l = true) : isFld (qText l) = true := by
  have hb : ∀ l : List UInt8, l.all fieldB = true → (qBody l).all fieldB = true := by
    intro l
    induction l with
    | nil => intro _; rfl
    | cons c t ih =>
      intro h
      rw [List.all_cons, Bool.and_eq_true] at h
      have e : qBody (c :: t) = qByte c ++ qBody t := rfl
      rw [e, List.all_append, ih h.2]
      unfold qByte
      split
      · rw [List.all_cons, List.all_cons, h.1]; decide +kernel
      · rw [List.all_cons, h.1]; rfl
  unfold isFld qText at *
  rw [List.all_cons, List.all_append, hb l h]
  decide +kernel
theorem val_fld (p : P5) (h : pass p = true) : isFld (valR p) = true := by
  unfold pass at h
  rw [Bool.and_eq_true, Bool.and_eq_true] at h
  have h1 := fld_q p.n h.1
  have h2 := fld_q p.f h.2.1
  unfold valR isFld at *
  split
  · rw [List.all_append, List.all_append, List.all_append, h1, h2]; decide +kernel
  · rw [List.all_append, h1]; decide +kernel
theorem trim_ends (x y : UInt8) (t : List UInt8) (hx : blankB x = false) (hy : blankB y = false) : trim (x :: (t ++ [y])) = x :: (t ++ [y]) := by
  unfold trim
  have e1 : trimL (x :: (t ++ [y])) = x :: (t ++ [y]) := by rw [trimL_cons, hx]; rfl
  rw [e1, ← List.cons_append, trimR_snoc, hy]
  rfl
theorem val_trim (p : P5) : trim (valR p) = valR p := by
  have e : ∃ t, valR p = 102 :: (t ++ [34]) := by
    unfold valR qText K1
    split
    · exact ⟨[111, 114, 109, 45, 100, 97, 116, 97, 59, 32, 110, 97, 109, 101, 61] ++ 34 :: (qBody p.n ++ [34]) ++ (K2 ++ 34 :: qBody p.f), by simp⟩
    · exact ⟨[111, 114, 109, 45, 100, 97, 116, 97, 59, 32, 110, 97, 109, 101, 61] ++ 34 :: qBody p.n, by simp⟩
  obtain ⟨t, e⟩ := e
  rw [e]
  exact trim_ends 102 34 t (by decide +kernel) (by decide +kernel)
theorem val_ok (p : P5) (h : pass p = true) : Fd.isValue (valR p) = decide ((valR p).length ≤ 8192) := by
  unfold Fd.isValue
  rw [val_fld p h, val_trim p]
  simp
theorem med_ok (p : P5) : (decide (p.m = []) || Fd.isValue p.m) = Fd.isValue p.m := by
  by_cases h : p.m = []
  · rw [h]; decide +kernel
  · rw [decide_eq_false h]; rfl
theorem val_ne (p : P5) : valR p ≠ [] := by
  unfold valR K1
  split <;> simp
theorem print_flds (p : P5) : (okPt p = true → pass p = true → Fd.printT (flds p) = (headR p, 0)) ∧ (okPt p = false → pass p = true → (Fd.printT (flds p)).2 ≠ 0) := by
  have hCD : Fd.isName CD = true := by decide +kernel
  have hCT : Fd.isName CT = true := by decide +kernel
  have hc1 : Fd.chkZ (CD, valR p) = if Fd.isValue (valR p) then 0 else 61 := by unfold Fd.chkZ; rw [hCD]; rfl
  have hc2 : Fd.chkZ (CT, p.m) = if Fd.isValue p.m then 0 else 61 := by unfold Fd.chkZ; rw [hCT]; rfl
  have l1 : Fd.lineP (CD, valR p) = CD ++ [58] ++ [32] ++ valR p := by unfold Fd.lineP; rw [if_neg (val_ne p)]
  unfold okPt flds
  by_cases hm : p.m = []
  · rw [if_pos hm, decide_eq_true hm]
    have e : Fd.printT [(CD, valR p)] = if Fd.chkZ (CD, valR p) = 0 then ([] ++ Fd.lineP (CD, valR p) ++ [13, 10], 0) else ([], Fd.chkZ (CD, valR p)) := rfl
    rw [e, hc1, l1]
    cases Fd.isValue (valR p) with
    | true =>
      refine ⟨fun _ _ => ?_, fun h hp => by rw [hp] at h; simp at h⟩
      unfold headR
      rw [if_pos rfl, if_pos rfl, if_pos hm]
      simp
    | false => exact ⟨fun h _ => (by simp at h), fun _ _ => (by simp)⟩
  · rw [if_neg hm, decide_eq_false hm]
    have l2 : Fd.lineP (CT, p.m) = CT ++ [58] ++ [32] ++ p.m := by unfold Fd.lineP; rw [if_neg hm]
    have e : Fd.printT [(CD, valR p), (CT, p.m)] = if Fd.chkZ (CD, valR p) = 0 then (if Fd.chkZ (CT, p.m) = 0 then ([] ++ Fd.lineP (CD, valR p) ++ [13, 10] ++ Fd.lineP (CT, p.m) ++ [13, 10], 0) else ([], Fd.chkZ (CT, p.m))) else ([], Fd.chkZ (CD, valR p)) := rfl
    rw [e, hc1, hc2, l1, l2]
    cases Fd.isValue (valR p) with
    | true =>
      cases Fd.isValue p.m with
      | true =>
        refine ⟨fun _ _ => ?_, fun h hp => by rw [hp] at h; simp at h⟩
        unfold headR
        rw [if_pos rfl, if_pos rfl, if_pos rfl, if_neg hm]
        simp
      | false => exact ⟨fun h _ => (by simp at h), fun _ _ => (by simp)⟩
    | false => exact ⟨fun h _ => (by simp at h), fun _ _ => (by simp)⟩
theorem qText_len (l : List UInt8) : (qText l).length ≤ 2 * l.length + 2 := by
  unfold qText
  have := qBody_le l
  rw [List.length_cons, List.length_append]
  simp
  omega
theorem val_len (p : P5) : (valR p).length ≤ 2 * p.n.length + 2 * p.f.length + 40 := by
  have h1 := qText_len p.n
  have h2 := qText_len p.f
  unfold valR K1 K2
  split
  · simp; omega
  · simp; omega
theorem sum_flds (p : P5) (hp : szT p ≤ 1048576) : Fd.sumF (flds p) ≤ 4000000 := by
  have := val_len p
  unfold szT at hp
  unfold flds
  split
  · simp [Fd.sumF, Fd.szF, CD]; omega
  · simp [Fd.sumF, Fd.szF, CD, CT]; omega
theorem head_len (p : P5) : (headR p).length ≤ 2 * p.n.length + 2 * p.f.length + p.m.length + 100 := by
  have := val_len p
  unfold headR CD CT
  split
  · simp; omega
  · simp; omega
theorem part_len (b : List UInt8) (p : P5) : (partR b p).length ≤ b.length + 3 * szT p + 120 := by
  have := head_len p
  unfold partR szT
  simp
  omega
theorem body_len (b : List UInt8) (t : List P5) : (bodyR b t).length ≤ t.length * (b.length + 120) + 3 * sumT t := by
  induction t with
  | nil => simp [bodyR]
  | cons p t ih =>
    have e : bodyR b (p :: t) = partR b p ++ bodyR b t := rfl
    have e2 : sumT (p :: t) = szT p + sumT t := by unfold sumT; simp
    have := part_len b p
    rw [e, List.length_append, e2, List.length_cons, Nat.succ_mul]
    omega
theorem body_snoc (b : List UInt8) (t : List P5) (p : P5) : bodyR b (t ++ [p]) = bodyR b t ++ partR b p := by unfold bodyR; rw [List.flatMap_append]; simp
/-- What Print answers, where the boundary serves and there are parts. -/
def prtR (b : List UInt8) (t : List P5) : List UInt8 × Int := if t.all okPt then (bodyR b t ++ endR b, 0) else ([], 152)
theorem prt_bad (b : List UInt8) (t : List P5) (k : Nat) (hk : k < t.length) (h : okPt (nthT t k) = false) : prtR b t = ([], 152) := by
  unfold prtR
  have : t.all okPt = false := by
    rw [List.all_eq_false]
    refine ⟨nthT t k, ?_, by simp [h]⟩
    unfold nthT
    rw [List.getD_eq_getElem?_getD, List.getElem?_eq_getElem hk]
    exact List.getElem_mem hk
  rw [this]; rfl

end Wr
end Go.Proofs.YtkpdaialfcegfaaDoor

/-
  sheet.printHead (written by mkwrb.py).
-/
set_option linter.unusedVariables false
set_option linter.unusedSimpArgs false
namespace Go.Proofs.YtkpdaialfcegfaaDoor
open Go.RowKit Go.Shelf
namespace Wr
open Oc Tg Pt

theorem cells_new (w : World) (T : Nat) (p : P5) : CellT (w.alloc (.cells #[.string (str p.n), .string (str p.f), .string (str p.m), .string (str p.b), .bool p.h] T)) w.heap.size 0 p := by
  have e := heap_alloc_new w (.cells #[.string (str p.n), .string (str p.f), .string (str p.m), .string (str p.b), .bool p.h] T)
  exact ⟨by rw [Lib.cell_of_heap e]; rfl, by rw [Lib.cell_of_heap e]; rfl, by rw [Lib.cell_of_heap e]; rfl, by rw [Lib.cell_of_heap e]; rfl, by rw [Lib.cell_of_heap e]; rfl⟩
theorem emp_dec (l : List UInt8) : (str l).toList.isEmpty = decide (l = []) := by
  rw [ByteArray.toList_eq, str_list, Bool.eq_iff_iff, decide_eq_true_iff]
  simp
theorem cat2 (a b : List UInt8) : str a ++ str b = str (a ++ b) := Fd.str_app a b
theorem ownF_one (B : Nat) (w : World) (a b : ByteArray) (p : Fd.Fl) (h1 : a = str p.1) (h2 : b = str p.2) (hB : B ≤ w.heap.size) : Fd.OwnF 128 B (.slice (some ⟨w.heap.size, 0, none⟩) 1 1) [p] (w.alloc (.cells #[.string a, .string b] 128)) := by
  subst h1 h2
  exact ⟨by simp [Fd.encF, Fd.encF1], .inr ⟨w.heap.size, 1, #[.string (str p.1), .string (str p.2)], rfl, hB, heap_alloc_new w _, by simp, by decide, by simp, by simp [Fd.encF, Fd.encF1]⟩⟩

set_option maxRecDepth 100000 in
set_option maxHeartbeats 4000000 in
theorem printHead_any (p : P5) (hp : szT p ≤ 1048576) (w : World) (ht : Tab w) :
    Calls Tryd.prog 53 #[.agg #[.string (str p.n), .string (str p.f), .string (str p.m), .string (str p.b), .bool p.h]] w fun e w' => ∃ X, e = .returned (.tuple #[.string X, .bool (okPt p)]) ∧ (okPt p = true → X = str (headR p)) ∧ Below w.heap.size w w' := by
  have hsf := sum_flds p hp
  have hpf := print_flds p
  unfold szT at hp
  have HQ1 : Hid (∀ W, Calls Tryd.prog 93 #[.string (str p.n)] W fun e w' => e = .returned (.tuple #[.string (str (quoteR p.n).1), .int .i64 (quoteR p.n).2]) ∧ Below W.heap.size W w') := fun W => by
    have := Quote_any (str p.n) (by rw [str_size]; omega) W
    rw [str_list] at this
    exact this
  have HQ2 : Hid (∀ W, Calls Tryd.prog 93 #[.string (str p.f)] W fun e w' => e = .returned (.tuple #[.string (str (quoteR p.f).1), .int .i64 (quoteR p.f).2]) ∧ Below W.heap.size W w') := fun W => by
    have := Quote_any (str p.f) (by rw [str_size]; omega) W
    rw [str_list] at this
    exact this
  have HC : Hid (CellT (w.alloc (.cells #[.string (str p.n), .string (str p.f), .string (str p.m), .string (str p.b), .bool p.h] 71)) w.heap.size 0 p) := cells_new w _ p
  have HB1 : Hid (Below w.heap.size w (w.alloc (.cells #[.string (str p.n), .string (str p.f), .string (str p.m), .string (str p.b), .bool p.h] 71))) := (Below.refl _ w).alloc (Nat.le_refl _) _
  have HZ1 : Hid ((w.alloc (.cells #[.string (str p.n), .string (str p.f), .string (str p.m), .string (str p.b), .bool p.h] 71)).heap.size = w.heap.size + 1) := (by simp : _ = _)
  have HTab : Hid (Tab w) := ht
  have HPs : Hid (pass p = (isFld p.n && (isFld p.f && (p.h || decide (p.f = []))))) := (rfl : _ = _)
  have HOk : Hid (pass p = false → okPt p = false) := fun h => by unfold okPt; rw [h]; rfl
  have HPr : Hid (∀ v W, Fd.RdF v (flds p) W → Tab W → Calls Tryd.prog 94 #[v] W fun e w' => e = .returned (.tuple #[.string (str (Fd.printT (flds p)).1), .int .i64 (Fd.printT (flds p)).2]) ∧ Below W.heap.size W w') := fun v W h1 h2 => Fd.Print_any v (flds p) hsf W h1 h2
  have hqn := qText_len p.n
  have hqf := qText_len p.f
  have hvl := val_len p
  have HYes : Hid (okPt p = true → pass p = true → Fd.printT (flds p) = (headR p, 0)) := hpf.1
  have HNo : Hid (okPt p = false → pass p = true → (Fd.printT (flds p)).2 ≠ 0) := hpf.2
  clear ht hsf hpf
  cases hn : isFld p.n with
  | false =>
    have hq : quoteR p.n = ([], 13) := by unfold quoteR; rw [hn]; rfl
    rw [hq] at HQ1
    have HV : Hid (okPt p = false) := HOk.out (by rw [HPs.out, hn]; rfl)
    rw [HV.out]
    clear hq hn HPs HOk HPr HYes HNo
    generalize quoteR p.f = QF at *
    obtain ⟨QF1, QF2⟩ := QF
    dsimp only at HQ1 HQ2
    obtain ⟨w1, hw1⟩ : ∃ w1, w1 = w.alloc (.cells #[.string (str p.n), .string (str p.f), .string (str p.m), .string (str p.b), .bool p.h] 71) := ⟨_, rfl⟩
    rw [← hw1] at HC HB1 HZ1
    obtain ⟨d0, d1, d2, d3, d4⟩ := HC.out
    have d1' : w1.cell? ⟨w.heap.size, 1, none⟩ = some (.string (str p.f)) := d1
    have d2' : w1.cell? ⟨w.heap.size, 2, none⟩ = some (.string (str p.m)) := d2
    have d4' : w1.cell? ⟨w.heap.size, 4, none⟩ = some (.bool p.h) := d4
    clear d1 d2 d3 d4 HC
    generalize str p.f = PF at *
    generalize str p.m = PM at *
    generalize str p.n = PN at *
    generalize str p.b = PB at *
    generalize p.h = PH at *
    have hg1 : w.heap.size < w1.heap.size := by rw [HZ1.out]; exact Nat.lt_succ_self _
    go_enter Tryd.func53, Tryd.ntmps53
    go_wp2_with fail
    rw [← hw1]
    clear hw1
    refine (HQ1.out _).mono ?_
    rintro e w2 ⟨rfl, hb2⟩
    have HB2 : Hid (Below w.heap.size w w2) := HB1.out.trans (hb2.mono HB1.out.size)
    have f1 : w2.cell? ⟨w.heap.size, 1, none⟩ = some (.string PF) := (hb2.cell (p := ⟨w.heap.size, 1, none⟩) hg1).trans d1'
    have f2 : w2.cell? ⟨w.heap.size, 2, none⟩ = some (.string PM) := (hb2.cell (p := ⟨w.heap.size, 2, none⟩) hg1).trans d2'
    have f4 : w2.cell? ⟨w.heap.size, 4, none⟩ = some (.bool PH) := (hb2.cell (p := ⟨w.heap.size, 4, none⟩) hg1).trans d4'
    have hg2 : w.heap.size < w2.heap.size := Nat.lt_of_lt_of_le hg1 hb2.size
    clear hb2 d0 d1' d2' d4'
    go_wp2_with fail
    refine (HQ2.out _).mono ?_
    rintro e w3 ⟨rfl, hb3⟩
    have HB3 : Hid (Below w.heap.size w w3) := HB2.out.trans (hb3.mono HB2.out.size)
    have g1 : w3.cell? ⟨w.heap.size, 1, none⟩ = some (.string PF) := (hb3.cell (p := ⟨w.heap.size, 1, none⟩) hg2).trans f1
    have g2 : w3.cell? ⟨w.heap.size, 2, none⟩ = some (.string PM) := (hb3.cell (p := ⟨w.heap.size, 2, none⟩) hg2).trans f2
    have g4 : w3.cell? ⟨w.heap.size, 4, none⟩ = some (.bool PH) := (hb3.cell (p := ⟨w.heap.size, 4, none⟩) hg2).trans f4
    have hg3 : w.heap.size < w3.heap.size := Nat.lt_of_lt_of_le hg2 hb3.size
    clear hb3 f1 f2 f4
    go_wp2
    go_ret2
    exact ⟨_, rfl, (fun h => by cases h), HB3.out⟩
  | true =>
    have hq : quoteR p.n = (qText p.n, 0) := by unfold quoteR; rw [hn]; rfl
    rw [hq] at HQ1
    cases hf : isFld p.f with
    | false =>
      have hq2 : quoteR p.f = ([], 13) := by unfold quoteR; rw [hf]; rfl
      rw [hq2] at HQ2
      have HV : Hid (okPt p = false) := HOk.out (by rw [HPs.out, hn, hf]; rfl)
      rw [HV.out]
      clear hq hq2 hn hf HPs HOk HPr HYes HNo
      dsimp only at HQ1 HQ2
      obtain ⟨w1, hw1⟩ : ∃ w1, w1 = w.alloc (.cells #[.string (str p.n), .string (str p.f), .string (str p.m), .string (str p.b), .bool p.h] 71) := ⟨_, rfl⟩
      rw [← hw1] at HC HB1 HZ1
      obtain ⟨d0, d1, d2, d3, d4⟩ := HC.out
      have d1' : w1.cell? ⟨w.heap.size, 1, none⟩ = some (.string (str p.f)) := d1
      have d2' : w1.cell? ⟨w.heap.size, 2, none⟩ = some (.string (str p.m)) := d2
      have d4' : w1.cell? ⟨w.heap.size, 4, none⟩ = some (.bool p.h) := d4
      clear d1 d2 d3 d4 HC
      generalize str p.f = PF at *
      generalize str p.m = PM at *
      generalize str p.n = PN at *
      generalize str p.b = PB at *
      generalize p.h = PH at *
      have hg1 : w.heap.size < w1.heap.size := by rw [HZ1.out]; exact Nat.lt_succ_self _
      go_enter Tryd.func53, Tryd.ntmps53
      go_wp2_with fail
      rw [← hw1]
      clear hw1
      refine (HQ1.out _).mono ?_
      rintro e w2 ⟨rfl, hb2⟩
      have HB2 : Hid (Below w.heap.size w w2) := HB1.out.trans (hb2.mono HB1.out.size)
      have f1 : w2.cell? ⟨w.heap.size, 1, none⟩ = some (.string PF) := (hb2.cell (p := ⟨w.heap.size, 1, none⟩) hg1).trans d1'
      have f2 : w2.cell? ⟨w.heap.size, 2, none⟩ = some (.string PM) := (hb2.cell (p := ⟨w.heap.size, 2, none⟩) hg1).trans d2'
      have f4 : w2.cell? ⟨w.heap.size, 4, none⟩ = some (.bool PH) := (hb2.cell (p := ⟨w.heap.size, 4, none⟩) hg1).trans d4'
      have hg2 : w.heap.size < w2.heap.size := Nat.lt_of_lt_of_le hg1 hb2.size
      clear hb2 d0 d1' d2' d4'
      go_wp2_with fail
      refine (HQ2.out _).mono ?_
      rintro e w3 ⟨rfl, hb3⟩
      have HB3 : Hid (Below w.heap.size w w3) := HB2.out.trans (hb3.mono HB2.out.size)
      have g1 : w3.cell? ⟨w.heap.size, 1, none⟩ = some (.string PF) := (hb3.cell (p := ⟨w.heap.size, 1, none⟩) hg2).trans f1
      have g2 : w3.cell? ⟨w.heap.size, 2, none⟩ = some (.string PM) := (hb3.cell (p := ⟨w.heap.size, 2, none⟩) hg2).trans f2
      have g4 : w3.cell? ⟨w.heap.size, 4, none⟩ = some (.bool PH) := (hb3.cell (p := ⟨w.heap.size, 4, none⟩) hg2).trans f4
      have hg3 : w.heap.size < w3.heap.size := Nat.lt_of_lt_of_le hg2 hb3.size
      clear hb3 f1 f2 f4
      go_wp2
      go_ret2
      exact ⟨_, rfl, (fun h => by cases h), HB3.out⟩
    | true =>
      have hq2 : quoteR p.f = (qText p.f, 0) := by unfold quoteR; rw [hf]; rfl
      rw [hq2] at HQ2
      dsimp only at HQ1 HQ2
      have zq1 : (str (qText p.n)).size ≤ 2097154 := by rw [str_size]; omega
      have zq2 : (str (qText p.f)).size ≤ 2097154 := by rw [str_size]; omega
      have HEf : Hid ((str p.f).toList.isEmpty = decide (p.f = [])) := emp_dec p.f
      have HEm : Hid ((str p.m).toList.isEmpty = decide (p.m = [])) := emp_dec p.m
      have HPs2 : Hid (pass p = (p.h || decide (p.f = []))) := (by rw [HPs.out, hn, hf]; rfl : _ = _)
      have HV1 : Hid (p.h = true → str K1 ++ str (qText p.n) ++ (str K2 ++ str (qText p.f)) = str (valR p)) := fun h => by unfold valR; rw [if_pos h, cat2, cat2, cat2]
      have HV0 : Hid (p.h = false → str K1 ++ str (qText p.n) = str (valR p)) := fun h => by unfold valR; rw [if_neg (by rw [h]; simp), cat2]
      have hvz : (str (valR p)).size ≤ 4000000 := by rw [str_size]; omega
      have HFl1 : Hid (p.m = [] → flds p = [(CD, valR p)]) := fun h => by unfold flds; rw [if_pos h]
      have HFl2 : Hid (p.m ≠ [] → flds p = [(CD, valR p), (CT, p.m)]) := fun h => by unfold flds; rw [if_neg h]
      clear hq hq2 hn hf HPs
      generalize hp1 : p.h = ph at *
      cases ph with
      | false =>
        by_cases hfe : p.f = []
        · have HPs3 : Hid (pass p = true) := (by rw [HPs2.out, decide_eq_true hfe]; rfl : _ = _)
          have hfe' : (str p.f).toList.isEmpty = true := by rw [HEf.out, decide_eq_true hfe]
          have HVV : Hid (str K1 ++ str (qText p.n) = str (valR p)) := HV0.out rfl
          clear HPs2 HOk HV1 HV0 hfe
          obtain ⟨w1, hw1⟩ : ∃ w1, w1 = w.alloc (.cells #[.string (str p.n), .string (str p.f), .string (str p.m), .string (str p.b), .bool false] 71) := ⟨_, rfl⟩
          rw [← hw1] at HC HB1 HZ1
          obtain ⟨d0, d1, d2, d3, d4⟩ := HC.out
          have d1' : w1.cell? ⟨w.heap.size, 1, none⟩ = some (.string (str p.f)) := d1
          have d2' : w1.cell? ⟨w.heap.size, 2, none⟩ = some (.string (str p.m)) := d2
          have d4' : w1.cell? ⟨w.heap.size, 4, none⟩ = some (.bool false) := by rw [← hp1]; exact d4
          clear d1 d2 d3 d4 HC
          generalize hPM : str p.m = PM at *
          generalize str p.f = PF at *
          generalize str p.n = PN at *
          generalize str p.b = PB at *

          have hg1 : w.heap.size < w1.heap.size := by rw [HZ1.out]; exact Nat.lt_succ_self _
          go_enter Tryd.func53, Tryd.ntmps53
          go_wp2_with fail
          rw [← hw1]
          clear hw1
          refine (HQ1.out _).mono ?_
          rintro e w2 ⟨rfl, hb2⟩
          have HB2 : Hid (Below w.heap.size w w2) := HB1.out.trans (hb2.mono HB1.out.size)
          have f1 : w2.cell? ⟨w.heap.size, 1, none⟩ = some (.string PF) := (hb2.cell (p := ⟨w.heap.size, 1, none⟩) hg1).trans d1'
          have f2 : w2.cell? ⟨w.heap.size, 2, none⟩ = some (.string PM) := (hb2.cell (p := ⟨w.heap.size, 2, none⟩) hg1).trans d2'
          have f4 : w2.cell? ⟨w.heap.size, 4, none⟩ = some (.bool false) := (hb2.cell (p := ⟨w.heap.size, 4, none⟩) hg1).trans d4'
          have hg2 : w.heap.size < w2.heap.size := Nat.lt_of_lt_of_le hg1 hb2.size
          clear hb2 d0 d1' d2' d4'
          go_wp2_with fail
          refine (HQ2.out _).mono ?_
          rintro e w3 ⟨rfl, hb3⟩
          have HB3 : Hid (Below w.heap.size w w3) := HB2.out.trans (hb3.mono HB2.out.size)
          have g1 : w3.cell? ⟨w.heap.size, 1, none⟩ = some (.string PF) := (hb3.cell (p := ⟨w.heap.size, 1, none⟩) hg2).trans f1
          have g2 : w3.cell? ⟨w.heap.size, 2, none⟩ = some (.string PM) := (hb3.cell (p := ⟨w.heap.size, 2, none⟩) hg2).trans f2
          have g4 : w3.cell? ⟨w.heap.size, 4, none⟩ = some (.bool false) := (hb3.cell (p := ⟨w.heap.size, 4, none⟩) hg2).trans f4
          have hg3 : w.heap.size < w3.heap.size := Nat.lt_of_lt_of_le hg2 hb3.size
          clear hb3 f1 f2 f4
          generalize hVS : str (valR p) = VS at *
          have HVS : Hid (VS = str (valR p)) := hVS.symm
          generalize hKN : str (qText p.n) = QN at *
          generalize hKF : str (qText p.f) = QF at *
          clear hVS hKN hKF
          have hmd : Hid (PM = str p.m) := hPM.symm
          clear hPM
          have HCD : Hid ((⟨#[67, 111, 110, 116, 101, 110, 116, 45, 68, 105, 115, 112, 111, 115, 105, 116, 105, 111, 110]⟩ : ByteArray) = str CD) := (rfl : _ = _)
          have HCT : Hid ((⟨#[67, 111, 110, 116, 101, 110, 116, 45, 84, 121, 112, 101]⟩ : ByteArray) = str CT) := (rfl : _ = _)
          have hk1 : str K1 = (⟨#[102, 111, 114, 109, 45, 100, 97, 116, 97, 59, 32, 110, 97, 109, 101, 61]⟩ : ByteArray) := rfl
          have hk2 : str K2 = (⟨#[59, 32, 102, 105, 108, 101, 110, 97, 109, 101, 61]⟩ : ByteArray) := rfl
          have HVV2 : Hid ((⟨#[102, 111, 114, 109, 45, 100, 97, 116, 97, 59, 32, 110, 97, 109, 101, 61]⟩ : ByteArray) ++ QN = VS) := HVV.out
          have hq1 : 16 + QN.size ≤ 9223372036854775807 := by omega
          have hq2 : 11 + QF.size ≤ 9223372036854775807 := by omega
          have hq3 : 16 + QN.size + (11 + QF.size) ≤ 9223372036854775807 := by omega
          have hz3 : w.heap.size + 1 ≤ w3.heap.size := hg3
          have HO4 : Hid (Fd.OwnF 128 (w.heap.size + 1) (.slice (some ⟨w3.heap.size, 0, none⟩) 1 1) [(CD, valR p)] (w3.alloc (.cells #[.string ⟨#[67, 111, 110, 116, 101, 110, 116, 45, 68, 105, 115, 112, 111, 115, 105, 116, 105, 111, 110]⟩, .string VS] 128))) := ownF_one _ w3 _ _ (CD, valR p) HCD.out HVS.out hz3
          have HB4 : Hid (Below w.heap.size w (w3.alloc (.cells #[.string ⟨#[67, 111, 110, 116, 101, 110, 116, 45, 68, 105, 115, 112, 111, 115, 105, 116, 105, 111, 110]⟩, .string VS] 128))) := HB3.out.alloc HB3.out.size _
          have HZ4 : Hid (w.heap.size + 1 ≤ (w3.alloc (.cells #[.string ⟨#[67, 111, 110, 116, 101, 110, 116, 45, 68, 105, 115, 112, 111, 115, 105, 116, 105, 111, 110]⟩, .string VS] 128)).heap.size) := (by simp; omega : _ ≤ _)
          by_cases hme : p.m = []
          · have hme' : PM.toList.isEmpty = true := by rw [HEm.out, decide_eq_true hme]
            rw [HFl1.out hme] at HPr HYes HNo
            have HRd : Hid (Fd.RdF (.slice (some ⟨w3.heap.size, 0, none⟩) 1 1) [(CD, valR p)] (w3.alloc (.cells #[.string ⟨#[67, 111, 110, 116, 101, 110, 116, 45, 68, 105, 115, 112, 111, 115, 105, 116, 105, 111, 110]⟩, .string VS] 128))) := Fd.OwnF.rd HO4.out
            go_wp2_with fail
            rw [HVV2.out]
            refine (HPr.out _ _ HRd.out (HTab.out.below HB4.out (Nat.le_refl _))).mono ?_
            rintro e w5 ⟨rfl, hb5⟩
            have HB5 : Hid (Below w.heap.size w w5) := HB4.out.trans (hb5.mono HB4.out.size)
            clear hb5
            cases hok : okPt p with
            | true =>
              have hpr := HYes.out hok HPs3.out
              rw [hpr]
              dsimp only
              have HX : Hid (str (headR p) = str (headR p)) := (rfl : _ = _)
              go_wp2
              go_ret2
              first | exact ⟨_, rfl, (fun _ => rfl), HB5.out⟩ | exact ⟨_, rfl, rfl, HB5.out⟩ | exact ⟨_, rfl, HB5.out⟩ | exact ⟨⟨_, rfl⟩, HB5.out⟩
            | false =>
              have hpr := HNo.out hok HPs3.out
              generalize Fd.printT _ = PT at *
              obtain ⟨PT1, PT2⟩ := PT
              dsimp only at hpr ⊢
              have hpr' : (PT2 == 0) = false := by simpa using hpr
              go_wp2
              go_ret2
              first | exact ⟨_, rfl, (fun h => by cases h), HB5.out⟩ | exact ⟨_, rfl, HB5.out⟩ | exact ⟨⟨_, rfl⟩, HB5.out⟩
          · have hme' : PM.toList.isEmpty = false := by rw [HEm.out, decide_eq_false hme]
            rw [HFl2.out hme] at HPr HYes HNo
            have g2b : (w3.alloc (.cells #[.string ⟨#[67, 111, 110, 116, 101, 110, 116, 45, 68, 105, 115, 112, 111, 115, 105, 116, 105, 111, 110]⟩, .string VS] 128)).cell? ⟨w.heap.size, 2, none⟩ = some (.string PM) := (((Below.refl _ w3).alloc (Nat.le_refl _) _).cell (p := ⟨w.heap.size, 2, none⟩) hg3).trans g2
            go_wp2_with (at_builtin; rw [HVV2.out]; go_must (refine Fd.wp_appF 128 129 Fd.infoF Tryd.underlying129 rfl (.tmp 53) (.tmp 57) rfl (w.heap.size + 1) _ [(CD, valR p)] _ (CT, p.m) _ _ HCT.out hmd.out rfl HO4.out _ rfl (by simp) (by simp) HZ4.out ?_); intro v6 w6 ho6 hb6; have HR6 : Hid (Fd.RdF v6 [(CD, valR p), (CT, p.m)] w6) := Fd.OwnF.rd ho6; have HB6 : Hid (Below w.heap.size w w6) := HB4.out.trans (hb6.mono (Nat.le_succ _)); clear ho6 hb6)
            refine (HPr.out _ _ HR6.out (HTab.out.below HB6.out (Nat.le_refl _))).mono ?_
            rintro e w5 ⟨rfl, hb5⟩
            have HB5 : Hid (Below w.heap.size w w5) := HB6.out.trans (hb5.mono HB6.out.size)
            clear hb5
            cases hok : okPt p with
            | true =>
              have hpr := HYes.out hok HPs3.out
              rw [hpr]
              dsimp only
              have HX : Hid (str (headR p) = str (headR p)) := (rfl : _ = _)
              go_wp2
              go_ret2
              first | exact ⟨_, rfl, (fun _ => rfl), HB5.out⟩ | exact ⟨_, rfl, rfl, HB5.out⟩ | exact ⟨_, rfl, HB5.out⟩ | exact ⟨⟨_, rfl⟩, HB5.out⟩
            | false =>
              have hpr := HNo.out hok HPs3.out
              generalize Fd.printT _ = PT at *
              obtain ⟨PT1, PT2⟩ := PT
              dsimp only at hpr ⊢
              have hpr' : (PT2 == 0) = false := by simpa using hpr
              go_wp2
              go_ret2
              first | exact ⟨_, rfl, (fun h => by cases h), HB5.out⟩ | exact ⟨_, rfl, HB5.out⟩ | exact ⟨⟨_, rfl⟩, HB5.out⟩
        · have HV : Hid (okPt p = false) := HOk.out (by rw [HPs2.out, decide_eq_false hfe]; rfl)
          have hfe' : (str p.f).toList.isEmpty = false := by rw [HEf.out, decide_eq_false hfe]
          rw [HV.out]
          clear HPs2 HOk HPr HYes HNo HFl1 HFl2 HV1 HV0 hfe
          obtain ⟨w1, hw1⟩ : ∃ w1, w1 = w.alloc (.cells #[.string (str p.n), .string (str p.f), .string (str p.m), .string (str p.b), .bool false] 71) := ⟨_, rfl⟩
          rw [← hw1] at HC HB1 HZ1
          obtain ⟨d0, d1, d2, d3, d4⟩ := HC.out
          have d1' : w1.cell? ⟨w.heap.size, 1, none⟩ = some (.string (str p.f)) := d1
          have d2' : w1.cell? ⟨w.heap.size, 2, none⟩ = some (.string (str p.m)) := d2
          have d4' : w1.cell? ⟨w.heap.size, 4, none⟩ = some (.bool false) := by rw [← hp1]; exact d4
          clear d1 d2 d3 d4 HC
          generalize str p.f = PF at *
          generalize str p.m = PM at *
          generalize str p.n = PN at *
          generalize str p.b = PB at *

          have hg1 : w.heap.size < w1.heap.size := by rw [HZ1.out]; exact Nat.lt_succ_self _
          go_enter Tryd.func53, Tryd.ntmps53
          go_wp2_with fail
          rw [← hw1]
          clear hw1
          refine (HQ1.out _).mono ?_
          rintro e w2 ⟨rfl, hb2⟩
          have HB2 : Hid (Below w.heap.size w w2) := HB1.out.trans (hb2.mono HB1.out.size)
          have f1 : w2.cell? ⟨w.heap.size, 1, none⟩ = some (.string PF) := (hb2.cell (p := ⟨w.heap.size, 1, none⟩) hg1).trans d1'
          have f2 : w2.cell? ⟨w.heap.size, 2, none⟩ = some (.string PM) := (hb2.cell (p := ⟨w.heap.size, 2, none⟩) hg1).trans d2'
          have f4 : w2.cell? ⟨w.heap.size, 4, none⟩ = some (.bool false) := (hb2.cell (p := ⟨w.heap.size, 4, none⟩) hg1).trans d4'
          have hg2 : w.heap.size < w2.heap.size := Nat.lt_of_lt_of_le hg1 hb2.size
          clear hb2 d0 d1' d2' d4'
          go_wp2_with fail
          refine (HQ2.out _).mono ?_
          rintro e w3 ⟨rfl, hb3⟩
          have HB3 : Hid (Below w.heap.size w w3) := HB2.out.trans (hb3.mono HB2.out.size)
          have g1 : w3.cell? ⟨w.heap.size, 1, none⟩ = some (.string PF) := (hb3.cell (p := ⟨w.heap.size, 1, none⟩) hg2).trans f1
          have g2 : w3.cell? ⟨w.heap.size, 2, none⟩ = some (.string PM) := (hb3.cell (p := ⟨w.heap.size, 2, none⟩) hg2).trans f2
          have g4 : w3.cell? ⟨w.heap.size, 4, none⟩ = some (.bool false) := (hb3.cell (p := ⟨w.heap.size, 4, none⟩) hg2).trans f4
          have hg3 : w.heap.size < w3.heap.size := Nat.lt_of_lt_of_le hg2 hb3.size
          clear hb3 f1 f2 f4
          go_wp2
          go_ret2
          exact ⟨_, rfl, (fun h => by cases h), HB3.out⟩
      | true =>
        have HPs3 : Hid (pass p = true) := (by rw [HPs2.out]; rfl : _ = _)
        have HVV : Hid (str K1 ++ str (qText p.n) ++ (str K2 ++ str (qText p.f)) = str (valR p)) := HV1.out rfl
        clear HPs2 HOk HV1 HV0
        obtain ⟨w1, hw1⟩ : ∃ w1, w1 = w.alloc (.cells #[.string (str p.n), .string (str p.f), .string (str p.m), .string (str p.b), .bool true] 71) := ⟨_, rfl⟩
        rw [← hw1] at HC HB1 HZ1
        obtain ⟨d0, d1, d2, d3, d4⟩ := HC.out
        have d1' : w1.cell? ⟨w.heap.size, 1, none⟩ = some (.string (str p.f)) := d1
        have d2' : w1.cell? ⟨w.heap.size, 2, none⟩ = some (.string (str p.m)) := d2
        have d4' : w1.cell? ⟨w.heap.size, 4, none⟩ = some (.bool true) := by rw [← hp1]; exact d4
        clear d1 d2 d3 d4 HC
        generalize hPM : str p.m = PM at *
        generalize str p.f = PF at *
        generalize str p.n = PN at *
        generalize str p.b = PB at *

        have hg1 : w.heap.size < w1.heap.size := by rw [HZ1.out]; exact Nat.lt_succ_self _
        go_enter Tryd.func53, Tryd.ntmps53
        go_wp2_with fail
        rw [← hw1]
        clear hw1
        refine (HQ1.out _).mono ?_
        rintro e w2 ⟨rfl, hb2⟩
        have HB2 : Hid (Below w.heap.size w w2) := HB1.out.trans (hb2.mono HB1.out.size)
        have f1 : w2.cell? ⟨w.heap.size, 1, none⟩ = some (.string PF) := (hb2.cell (p := ⟨w.heap.size, 1, none⟩) hg1).trans d1'
        have f2 : w2.cell? ⟨w.heap.size, 2, none⟩ = some (.string PM) := (hb2.cell (p := ⟨w.heap.size, 2, none⟩) hg1).trans d2'
        have f4 : w2.cell? ⟨w.heap.size, 4, none⟩ = some (.bool true) := (hb2.cell (p := ⟨w.heap.size, 4, none⟩) hg1).trans d4'
        have hg2 : w.heap.size < w2.heap.size := Nat.lt_of_lt_of_le hg1 hb2.size
        clear hb2 d0 d1' d2' d4'
        go_wp2_with fail
        refine (HQ2.out _).mono ?_
        rintro e w3 ⟨rfl, hb3⟩
        have HB3 : Hid (Below w.heap.size w w3) := HB2.out.trans (hb3.mono HB2.out.size)
        have g1 : w3.cell? ⟨w.heap.size, 1, none⟩ = some (.string PF) := (hb3.cell (p := ⟨w.heap.size, 1, none⟩) hg2).trans f1
        have g2 : w3.cell? ⟨w.heap.size, 2, none⟩ = some (.string PM) := (hb3.cell (p := ⟨w.heap.size, 2, none⟩) hg2).trans f2
        have g4 : w3.cell? ⟨w.heap.size, 4, none⟩ = some (.bool true) := (hb3.cell (p := ⟨w.heap.size, 4, none⟩) hg2).trans f4
        have hg3 : w.heap.size < w3.heap.size := Nat.lt_of_lt_of_le hg2 hb3.size
        clear hb3 f1 f2 f4
        generalize hVS : str (valR p) = VS at *
        have HVS : Hid (VS = str (valR p)) := hVS.symm
        generalize hKN : str (qText p.n) = QN at *
        generalize hKF : str (qText p.f) = QF at *
        clear hVS hKN hKF
        have hmd : Hid (PM = str p.m) := hPM.symm
        clear hPM
        have HCD : Hid ((⟨#[67, 111, 110, 116, 101, 110, 116, 45, 68, 105, 115, 112, 111, 115, 105, 116, 105, 111, 110]⟩ : ByteArray) = str CD) := (rfl : _ = _)
        have HCT : Hid ((⟨#[67, 111, 110, 116, 101, 110, 116, 45, 84, 121, 112, 101]⟩ : ByteArray) = str CT) := (rfl : _ = _)
        have hk1 : str K1 = (⟨#[102, 111, 114, 109, 45, 100, 97, 116, 97, 59, 32, 110, 97, 109, 101, 61]⟩ : ByteArray) := rfl
        have hk2 : str K2 = (⟨#[59, 32, 102, 105, 108, 101, 110, 97, 109, 101, 61]⟩ : ByteArray) := rfl
        have HVV2 : Hid ((⟨#[102, 111, 114, 109, 45, 100, 97, 116, 97, 59, 32, 110, 97, 109, 101, 61]⟩ : ByteArray) ++ QN ++ ((⟨#[59, 32, 102, 105, 108, 101, 110, 97, 109, 101, 61]⟩ : ByteArray) ++ QF) = VS) := HVV.out
        have hq1 : 16 + QN.size ≤ 9223372036854775807 := by omega
        have hq2 : 11 + QF.size ≤ 9223372036854775807 := by omega
        have hq3 : 16 + QN.size + (11 + QF.size) ≤ 9223372036854775807 := by omega
        have hz3 : w.heap.size + 1 ≤ w3.heap.size := hg3
        have HO4 : Hid (Fd.OwnF 128 (w.heap.size + 1) (.slice (some ⟨w3.heap.size, 0, none⟩) 1 1) [(CD, valR p)] (w3.alloc (.cells #[.string ⟨#[67, 111, 110, 116, 101, 110, 116, 45, 68, 105, 115, 112, 111, 115, 105, 116, 105, 111, 110]⟩, .string VS] 128))) := ownF_one _ w3 _ _ (CD, valR p) HCD.out HVS.out hz3
        have HB4 : Hid (Below w.heap.size w (w3.alloc (.cells #[.string ⟨#[67, 111, 110, 116, 101, 110, 116, 45, 68, 105, 115, 112, 111, 115, 105, 116, 105, 111, 110]⟩, .string VS] 128))) := HB3.out.alloc HB3.out.size _
        have HZ4 : Hid (w.heap.size + 1 ≤ (w3.alloc (.cells #[.string ⟨#[67, 111, 110, 116, 101, 110, 116, 45, 68, 105, 115, 112, 111, 115, 105, 116, 105, 111, 110]⟩, .string VS] 128)).heap.size) := (by simp; omega : _ ≤ _)
        by_cases hme : p.m = []
        · have hme' : PM.toList.isEmpty = true := by rw [HEm.out, decide_eq_true hme]
          rw [HFl1.out hme] at HPr HYes HNo
          have HRd : Hid (Fd.RdF (.slice (some ⟨w3.heap.size, 0, none⟩) 1 1) [(CD, valR p)] (w3.alloc (.cells #[.string ⟨#[67, 111, 110, 116, 101, 110, 116, 45, 68, 105, 115, 112, 111, 115, 105, 116, 105, 111, 110]⟩, .string VS] 128))) := Fd.OwnF.rd HO4.out
          go_wp2_with fail
          rw [HVV2.out]
          refine (HPr.out _ _ HRd.out (HTab.out.below HB4.out (Nat.le_refl _))).mono ?_
          rintro e w5 ⟨rfl, hb5⟩
          have HB5 : Hid (Below w.heap.size w w5) := HB4.out.trans (hb5.mono HB4.out.size)
          clear hb5
          cases hok : okPt p with
          | true =>
            have hpr := HYes.out hok HPs3.out
            rw [hpr]
            dsimp only
            have HX : Hid (str (headR p) = str (headR p)) := (rfl : _ = _)
            go_wp2
            go_ret2
            first | exact ⟨_, rfl, (fun _ => rfl), HB5.out⟩ | exact ⟨_, rfl, rfl, HB5.out⟩ | exact ⟨_, rfl, HB5.out⟩ | exact ⟨⟨_, rfl⟩, HB5.out⟩
          | false =>
            have hpr := HNo.out hok HPs3.out
            generalize Fd.printT _ = PT at *
            obtain ⟨PT1, PT2⟩ := PT
            dsimp only at hpr ⊢
            have hpr' : (PT2 == 0) = false := by simpa using hpr
            go_wp2
            go_ret2
            first | exact ⟨_, rfl, (fun h => by cases h), HB5.out⟩ | exact ⟨_, rfl, HB5.out⟩ | exact ⟨⟨_, rfl⟩, HB5.out⟩
        · have hme' : PM.toList.isEmpty = false := by rw [HEm.out, decide_eq_false hme]
          rw [HFl2.out hme] at HPr HYes HNo
          have g2b : (w3.alloc (.cells #[.string ⟨#[67, 111, 110, 116, 101, 110, 116, 45, 68, 105, 115, 112, 111, 115, 105, 116, 105, 111, 110]⟩, .string VS] 128)).cell? ⟨w.heap.size, 2, none⟩ = some (.string PM) := (((Below.refl _ w3).alloc (Nat.le_refl _) _).cell (p := ⟨w.heap.size, 2, none⟩) hg3).trans g2
          go_wp2_with (at_builtin; rw [HVV2.out]; go_must (refine Fd.wp_appF 128 129 Fd.infoF Tryd.underlying129 rfl (.tmp 53) (.tmp 57) rfl (w.heap.size + 1) _ [(CD, valR p)] _ (CT, p.m) _ _ HCT.out hmd.out rfl HO4.out _ rfl (by simp) (by simp) HZ4.out ?_); intro v6 w6 ho6 hb6; have HR6 : Hid (Fd.RdF v6 [(CD, valR p), (CT, p.m)] w6) := Fd.OwnF.rd ho6; have HB6 : Hid (Below w.heap.size w w6) := HB4.out.trans (hb6.mono (Nat.le_succ _)); clear ho6 hb6)
          refine (HPr.out _ _ HR6.out (HTab.out.below HB6.out (Nat.le_refl _))).mono ?_
          rintro e w5 ⟨rfl, hb5⟩
          have HB5 : Hid (Below w.heap.size w w5) := HB6.out.trans (hb5.mono HB6.out.size)
          clear hb5
          cases hok : okPt p with
          | true =>
            have hpr := HYes.out hok HPs3.out
            rw [hpr]
            dsimp only
            have HX : Hid (str (headR p) = str (headR p)) := (rfl : _ = _)
            go_wp2
            go_ret2
            first | exact ⟨_, rfl, (fun _ => rfl), HB5.out⟩ | exact ⟨_, rfl, rfl, HB5.out⟩ | exact ⟨_, rfl, HB5.out⟩ | exact ⟨⟨_, rfl⟩, HB5.out⟩
          | false =>
            have hpr := HNo.out hok HPs3.out
            generalize Fd.printT _ = PT at *
            obtain ⟨PT1, PT2⟩ := PT
            dsimp only at hpr ⊢
            have hpr' : (PT2 == 0) = false := by simpa using hpr
            go_wp2
            go_ret2
            first | exact ⟨_, rfl, (fun h => by cases h), HB5.out⟩ | exact ⟨_, rfl, HB5.out⟩ | exact ⟨⟨_, rfl⟩, HB5.out⟩

end Wr
end Go.Proofs.YtkpdaialfcegfaaDoor
