/- Several texts as one. -/
import Derived.Test.YtndglpjkmgcdpaaGreatDoorMgV
import Derived.Test.YtndglpjkmgcdpaaGreatDoorMgM
import Derived.Test.YtndglpjkmgcdpaaGreatDoorMgH
import Derived.Test.YtndglpjkmgcdpaaGreatDoorMgK
/-
  Print, and the document's.
-/
set_option linter.unusedVariables false
set_option linter.unusedSimpArgs false
namespace Go.Proofs.YtndglpjkmgcdpaaGreatDoor
open Go.RowKit Go.Shelf
namespace Fd
open Oc Tg

theorem sz_le : ∀ (t : List Fl) (k : Nat), k < t.length → szF (nth t k) ≤ sumF t
  | [], k, h => by simp at h
  | p :: t, 0, _ => by
    simp only [sumF, List.map_cons, List.sum_cons]
    show szF p ≤ _
    omega
  | p :: t, k + 1, h => by
    have := sz_le t k (by simpa using h)
    simp only [sumF, List.map_cons, List.sum_cons]
    show szF (nth t k) ≤ _
    simp only [sumF] at this
    omega
theorem printG_next (t : List Fl) (k : Nat) (h : k < t.length) (acc : List UInt8) (hz : chkZ (nth t k) = 0) : printG (t.drop k) acc = printG (t.drop (k + 1)) (acc ++ lineP (nth t k) ++ [13, 10]) := by
  rw [drop_nth t k h]
  show (if _ then _ else _) = _
  rw [if_pos hz]
theorem printG_bad (t : List Fl) (k : Nat) (h : k < t.length) (acc : List UInt8) (hz : chkZ (nth t k) ≠ 0) : printG (t.drop k) acc = ([], chkZ (nth t k)) := by
  rw [drop_nth t k h]
  show (if _ then _ else _) = _
  rw [if_neg hz]

set_option maxRecDepth 100000 in
set_option maxHeartbeats 2000000 in
theorem Print_any (v : Value) (t : List Fl) (hs : sumF t ≤ 4000000) (w : World) (hr : RdF v t w) (tab : Tab w) :
    Calls Tryz.prog 44 #[v] w fun e w' => e = .returned (.tuple #[.string (str (printT t).1), .int .i64 (printT t).2]) ∧ Below w.heap.size w w' := by
  have hlen := len_sumF t
  have HR : Hid (RdF v t w) := hr
  have HT : Hid (Tab w) := tab
  obtain ⟨a, c, rfl, _⟩ := hr
  clear tab
  by_cases h100 : 100 < t.length
  · have HP : Hid (printT t = ([], 65)) := by show _ = _; unfold printT; rw [if_pos h100]
    go_enter Tryz.func44, Tryz.ntmps44
    go_wp2
    go_ret2
    exact ⟨by rw [HP.out]; rfl, Below.refl _ _⟩
  · have HP : Hid (printT t = printG t []) := by show _ = _; unfold printT; rw [if_neg h100]
    have HBD : Hid (Bd (w.heap.size + 1) w.heap.size (Lib.byteCells []) (w.alloc (.cells #[.pointer none, .slice none 0 0] 57))) := Bd.new w (w.heap.size + 1)
    go_enter Tryz.func44, Tryz.ntmps44
    go_wp2
    go_loopw [14] (fun i wr => ∃ (k : Nat) (acc : List UInt8), k ≤ t.length ∧ i = .int .i64 k ∧ Hid (printT t = printG (t.drop k) acc) ∧ Hid (acc.length ≤ k * 4000024) ∧ Hid (Bd (w.heap.size + 1) w.heap.size (Lib.byteCells acc) wr) ∧ Hid (Below w.heap.size w wr) ∧ Hid (w.heap.size + 1 ≤ wr.heap.size)) (fun i _ => t.length - (intOf i).toNat)
    case atStart => exact ⟨0, [], Nat.zero_le _, rfl, HP, (by simp : _ ≤ _), HBD, (Below.refl _ w).alloc (Nat.le_refl _) _, (by simp : _ ≤ _)⟩
    case round =>
      obtain ⟨k, acc, hk, rfl, hst, hal, hB, hW, hS⟩ := hrel
      by_cases hlt : k < t.length
      · obtain ⟨a', c', e', hcs⟩ := HR.out.below hW.out
        injection e' with e1 _ e2
        subst e1 e2
        rcases hcs with h | ⟨g, o, rfl, hlc, hcell⟩
        · rw [h] at hlt; simp at hlt
        obtain ⟨p0, p1⟩ := hcell k hlt
        have hz := sz_le t k hlt
        have hll := lineP_len (nth t k)
        have NX : chkZ (nth t k) = 0 → Hid (printT t = printG (t.drop (k + 1)) (acc ++ lineP (nth t k) ++ [13, 10])) := fun h => hst.out.trans (printG_next t k hlt acc h)
        have BD : chkZ (nth t k) ≠ 0 → Hid (printT t = ([], chkZ (nth t k))) := fun h => hst.out.trans (printG_bad t k hlt acc h)
        have hp1 : (nth t k).1.length ≤ 4000000 := by unfold szF at hz; omega
        have hp2 : (nth t k).2.length ≤ 4000000 := by unfold szF at hz; omega
        have HPL : Hid (∀ w, Tab w → Calls Tryz.prog 70 #[.agg #[.string (str (nth t k).1), .string (str (nth t k).2)]] w fun e w' => e = .returned (.tuple #[.string (str (printL (nth t k)).1), .int .i64 (printL (nth t k)).2]) ∧ Below w.heap.size w w') := fun w tb => PrintLine_any (nth t k) (by omega) (by omega) w tb
        clear hcell hst
        generalize nth t k = p at *
        have hx : (lineP p).length ≤ 4000000 := by omega
        have hxs : (str (lineP p)).size ≤ 4000000 := by rw [str_size]; exact hx
        generalize str p.1 = N at *
        generalize str p.2 = V at *
        have hb1 : Below wr.heap.size wr (wr.alloc (.cells #[.string N, .string V] 92)) := (Below.refl _ wr).alloc (Nat.le_refl _) _
        have HBW : Hid (Below w.heap.size w (wr.alloc (.cells #[.string N, .string V] 92))) := bel_trans hW.out hb1
        have HB1 : Hid (Bd (w.heap.size + 1) w.heap.size (Lib.byteCells acc) (wr.alloc (.cells #[.string N, .string V] 92))) := hB.out.below hb1
        have HS1 : Hid (w.heap.size + 1 ≤ (wr.alloc (.cells #[.string N, .string V] 92)).heap.size) := Nat.le_trans hS.out hb1.size
        clear hb1 hz hll hp1 hp2
        by_cases hz0 : chkZ p = 0
        · have nx := NX hz0
          rw [show printL p = (lineP p, 0) by unfold printL; rw [if_pos hz0]] at HPL
          dsimp only at HPL
          clear NX BD hz0
          generalize hLP : lineP p = LP at *
          clear hLP
          go_wp2_with fail
          refine (HPL.out _ (HT.out.below HBW.out (Nat.le_refl _))).mono ?_
          rintro e w2 ⟨rfl, hb2⟩
          have HB2 : Hid (Bd (w.heap.size + 1) w.heap.size (Lib.byteCells acc) w2) := HB1.out.below hb2
          have HW2 : Hid (Below w.heap.size w w2) := bel_trans HBW.out hb2
          have HS2 : Hid (w.heap.size + 1 ≤ w2.heap.size) := Nat.le_trans HS1.out hb2.size
          clear hb2
          go_wp2_with fail
          refine (WriteString_bd _ _ _ _ _ HB2.out (by rw [cells_len]; have := hal.out; omega) HS2.out).mono ?_
          rintro e w3 ⟨rfl, hB3, hF3⟩
          have HB3 : Hid (Bd (w.heap.size + 1) w.heap.size (Lib.byteCells (acc ++ LP)) w3) := by
            show Bd _ _ _ _
            rw [cells_app, ← cells_str LP]
            exact hB3
          have HF3 : Hid (_) := hF3
          have HS3 : Hid (w.heap.size + 1 ≤ w3.heap.size) := Nat.le_trans HS2.out hF3.size
          clear hB3 hF3
          go_wp2_with fail
          refine (WriteString_bd _ _ _ _ _ HB3.out (by rw [cells_len, List.length_append]; have := hal.out; show _ + 2 ≤ _; omega) HS3.out).mono ?_
          rintro e w4 ⟨rfl, hB4, hF4⟩
          have HB4 : Hid (Bd (w.heap.size + 1) w.heap.size (Lib.byteCells (acc ++ LP ++ [13, 10])) w4) := by
            show Bd _ _ _ _
            rw [cells_app (acc ++ LP), ← cells_str [13, 10]]
            exact hB4
          have hF := HF3.out.trans hF4
          have HW4 : Hid (Below w.heap.size w w4) := HW2.out.trans (hF.below (by omega) (Nat.le_refl _))
          have HS4 : Hid (w.heap.size + 1 ≤ w4.heap.size) := Nat.le_trans HS2.out hF.size
          have HA4 : Hid ((acc ++ LP ++ [13, 10]).length ≤ (k + 1) * 4000024) := by show _ ≤ _; rw [List.length_append, List.length_append]; have := hal.out; simp; omega
          clear hB4 hF4 hF
          go_wp2
          go_roundw
          case rel => exact ⟨k + 1, acc ++ LP ++ [13, 10], by omega, by go_num, nx, HA4, HB4, HW4, HS4⟩
          case measure => simp [intOf]; omega
        · have bd := BD hz0
          rw [show printL p = ([], chkZ p) by unfold printL; rw [if_neg hz0]] at HPL
          dsimp only at HPL
          have hzq : (chkZ p != 0) = true := by simp [hz0]
          clear NX BD hz0
          generalize chkZ p = z at *
          go_wp2_with fail
          refine (HPL.out _ (HT.out.below HBW.out (Nat.le_refl _))).mono ?_
          rintro e w2 ⟨rfl, hb2⟩
          have HW2 : Hid (Below w.heap.size w w2) := bel_trans HBW.out hb2
          clear hb2
          go_wp2
          go_ret2
          exact ⟨by rw [bd.out]; rfl, HW2.out⟩
      · have HE : Hid (printT t = (acc, 0)) := by
          show _ = _
          rw [hst.out, List.drop_eq_nil_of_le (by omega)]
          rfl
        go_wp2_with fail
        refine (String_bd _ _ _ _ hB.out hS.out).mono ?_
        rintro e w2 ⟨rfl, hb2, _⟩
        have HW2 : Hid (Below w.heap.size w w2) := hW.out.trans (hb2.mono (by omega))
        clear hb2
        go_wp2
        go_ret2
        exact ⟨by rw [HE.out]; rfl, HW2.out⟩

end Fd
end Go.Proofs.YtndglpjkmgcdpaaGreatDoor

/-
  sheet: parts as a body, plain.
-/
set_option linter.unusedVariables false
set_option linter.unusedSimpArgs false
namespace Go.Proofs.YtndglpjkmgcdpaaGreatDoor
namespace Wr
open Oc Tg Pt

def CD : List UInt8 := [67, 111, 110, 116, 101, 110, 116, 45, 68, 105, 115, 112, 111, 115, 105, 116, 105, 111, 110]
def CT : List UInt8 := [67, 111, 110, 116, 101, 110, 116, 45, 84, 121, 112, 101]
def K1 : List UInt8 := [102, 111, 114, 109, 45, 100, 97, 116, 97, 59, 32, 110, 97, 109, 101, 61]
def K2 : List UInt8 := [59, 32, 102, 105, 108, 101, 110, 97, 109, 101, 61]
/-- What a part's disposition says. -/
def valR (p : P5) : List UInt8 := if p.h then K1 ++ qText p.n ++ (K2 ++ qText p.f) else K1 ++ qText p.n
def pass (p : P5) : Bool := isFld p.n && (isFld p.f && (p.h || decide (p.f = [])))
def okPt (p : P5) : Bool := pass p && (Fd.isValue (valR p) && (decide (p.m = []) || Fd.isValue p.m))
def headR (p : P5) : List UInt8 := CD ++ [58, 32] ++ valR p ++ [13, 10] ++ (if p.m = [] then [] else CT ++ [58, 32] ++ p.m ++ [13, 10])
def flds (p : P5) : List Fd.Fl := if p.m = [] then [(CD, valR p)] else [(CD, valR p), (CT, p.m)]
def partR (b : List UInt8) (p : P5) : List UInt8 := (45 :: 45 :: b) ++ [13, 10] ++ headR p ++ [13, 10] ++ p.b ++ [13, 10]
def bodyR (b : List UInt8) (t : List P5) : List UInt8 := t.flatMap (partR b)
def endR (b : List UInt8) : List UInt8 := (45 :: 45 :: b) ++ [45, 45] ++ [13, 10]

theorem fld_q (l : List UInt8) (h : isFld l = true) : isFld (qText l) = true := by
  have hb : ∀ l : List UInt8, l.all fieldB = true → (qBody l).all fieldB = true := by
    intro l
    induction l with
    | nil => intro _; rfl
    | cons c t ih =>
      intro h
      rw [List.all_cons, Bool.and_eq_true] at h
      have e : qBody (c :: t) = qByte c ++ qBody t := rfl
      rw [e, List.all_append, ih h.2]
      unfold qByte
      split
      · rw [List.all_cons, List.all_cons, h.1]; decide +kernel
      · rw [List.all_cons, h.1]; rfl
  unfold isFld qText at *
  rw [List.all_cons, List.all_append, hb l h]
  decide +kernel
theorem val_fld (p : P5) (h : pass p = true) : isFld (valR p) = true := by
  unfold pass at h
  rw [Bool.and_eq_true, Bool.and_eq_true] at h
  have h1 := fld_q p.n h.1
  have h2 := fld_q p.f h.2.1
  unfold valR isFld at *
  split
  · rw [List.all_append, List.all_append, List.all_append, h1, h2]; decide +kernel
  · rw [List.all_append, h1]; decide +kernel
theorem trim_ends (x y : UInt8) (t : List UInt8) (hx : blankB x = false) (hy : blankB y = false) : trim (x :: (t ++ [y])) = x :: (t ++ [y]) := by
  unfold trim
  have e1 : trimL (x :: (t ++ [y])) = x :: (t ++ [y]) := by rw [trimL_cons, hx]; rfl
  rw [e1, ← List.cons_append, trimR_snoc, hy]
  rfl
theorem val_trim (p : P5) : trim (valR p) = valR p := by
  have e : ∃ t, valR p = 102 :: (t ++ [34]) := by
    unfold valR qText K1
    split
    · exact ⟨[111, 114, 109, 45, 100, 97, 116, 97, 59, 32, 110, 97, 109, 101, 61] ++ 34 :: (qBody p.n ++ [34]) ++ (K2 ++ 34 :: qBody p.f), by simp⟩
    · exact ⟨[111, 114, 109, 45, 100, 97, 116, 97, 59, 32, 110, 97, 109, 101, 61] ++ 34 :: qBody p.n, by simp⟩
  obtain ⟨t, e⟩ := e
  rw [e]
  exact trim_ends 102 34 t (by decide +kernel) (by decide +kernel)
theorem val_ok (p : P5) (h : pass p = true) : Fd.isValue (valR p) = decide ((valR p).length ≤ 8192) := by
  unfold Fd.isValue
  rw [val_fld p h, val_trim p]
  simp
theorem med_ok (p : P5) : (decide (p.m = []) || Fd.isValue p.m) = Fd.isValue p.m := by
  by_cases h : p.m = []
  · rw [h]; decide +kernel
  · rw [decide_eq_false h]; rfl
theorem val_ne (p : P5) : valR p ≠ [] := by
  unfold valR K1
  split <;> simp
theorem print_flds (p : P5) : (okPt p = true → pass p = true → Fd.printT (flds p) = (headR p, 0)) ∧ (okPt p = false → pass p = true → (Fd.printT (flds p)).2 ≠ 0) := by
  have hCD : Fd.isName CD = true := by decide +kernel
  have hCT : Fd.isName CT = true := by decide +kernel
  have hc1 : Fd.chkZ (CD, valR p) = if Fd.isValue (valR p) then 0 else 61 := by unfold Fd.chkZ; rw [hCD]; rfl
  have hc2 : Fd.chkZ (CT, p.m) = if Fd.isValue p.m then 0 else 61 := by unfold Fd.chkZ; rw [hCT]; rfl
  have l1 : Fd.lineP (CD, valR p) = CD ++ [58] ++ [32] ++ valR p := by unfold Fd.lineP; rw [if_neg (val_ne p)]
  unfold okPt flds
  by_cases hm : p.m = []
  · rw [if_pos hm, decide_eq_true hm]
    have e : Fd.printT [(CD, valR p)] = if Fd.chkZ (CD, valR p) = 0 then ([] ++ Fd.lineP (CD, valR p) ++ [13, 10], 0) else ([], Fd.chkZ (CD, valR p)) := rfl
    rw [e, hc1, l1]
    cases Fd.isValue (valR p) with
    | true =>
      refine ⟨fun _ _ => ?_, fun h hp => by rw [hp] at h; simp at h⟩
      unfold headR
      rw [if_pos rfl, if_pos rfl, if_pos hm]
      simp
    | false => exact ⟨fun h _ => (by simp at h), fun _ _ => (by simp)⟩
  · rw [if_neg hm, decide_eq_false hm]
    have l2 : Fd.lineP (CT, p.m) = CT ++ [58] ++ [32] ++ p.m := by unfold Fd.lineP; rw [if_neg hm]
    have e : Fd.printT [(CD, valR p), (CT, p.m)] = if Fd.chkZ (CD, valR p) = 0 then (if Fd.chkZ (CT, p.m) = 0 then ([] ++ Fd.lineP (CD, valR p) ++ [13, 10] ++ Fd.lineP (CT, p.m) ++ [13, 10], 0) else ([], Fd.chkZ (CT, p.m))) else ([], Fd.chkZ (CD, valR p)) := rfl
    rw [e, hc1, hc2, l1, l2]
    cases Fd.isValue (valR p) with
    | true =>
      cases Fd.isValue p.m with
      | true =>
        refine ⟨fun _ _ => ?_, fun h hp => by rw [hp] at h; simp at h⟩
        unfold headR
        rw [if_pos rfl, if_pos rfl, if_pos rfl, if_neg hm]
        simp
      | false => exact ⟨fun h _ => (by simp at h), fun _ _ => (by simp)⟩
    | false => exact ⟨fun h _ => (by simp at h), fun _ _ => (by simp)⟩
theorem qText_len (l : List UInt8) : (qText l).length ≤ 2 * l.length + 2 := by
  unfold qText
  have := qBody_le l
  rw [List.length_cons, List.length_append]
  simp
  omega
theorem val_len (p : P5) : (valR p).length ≤ 2 * p.n.length + 2 * p.f.length + 40 := by
  have h1 := qText_len p.n
  have h2 := qText_len p.f
  unfold valR K1 K2
  split
  · simp; omega
  · simp; omega
theorem sum_flds (p : P5) (hp : szT p ≤ 1048576) : Fd.sumF (flds p) ≤ 4000000 := by
  have := val_len p
  unfold szT at hp
  unfold flds
  split
  · simp [Fd.sumF, Fd.szF, CD]; omega
  · simp [Fd.sumF, Fd.szF, CD, CT]; omega
theorem head_len (p : P5) : (headR p).length ≤ 2 * p.n.length + 2 * p.f.length + p.m.length + 100 := by
  have := val_len p
  unfold headR CD CT
  split
  · simp; omega
  · simp; omega
theorem part_len (b : List UInt8) (p : P5) : (partR b p).length ≤ b.length + 3 * szT p + 120 := by
  have := head_len p
  unfold partR szT
  simp
  omega
theorem body_len (b : List UInt8) (t : List P5) : (bodyR b t).length ≤ t.length * (b.length + 120) + 3 * sumT t := by
  induction t with
  | nil => simp [bodyR]
  | cons p t ih =>
    have e : bodyR b (p :: t) = partR b p ++ bodyR b t := rfl
    have e2 : sumT (p :: t) = szT p + sumT t := by unfold sumT; simp
    have := part_len b p
    rw [e, List.length_append, e2, List.length_cons, Nat.succ_mul]
    omega
theorem body_snoc (b : List UInt8) (t : List P5) (p : P5) : bodyR b (t ++ [p]) = bodyR b t ++ partR b p := by unfold bodyR; rw [List.flatMap_append]; simp
/-- What Print answers, where the boundary serves and there are parts. -/
def prtR (b : List UInt8) (t : List P5) : List UInt8 × Int := if t.all okPt then (bodyR b t ++ endR b, 0) else ([], 152)
theorem prt_bad (b : List UInt8) (t : List P5) (k : Nat) (hk : k < t.length) (h : okPt (nthT t k) = false) : prtR b t = ([], 152) := by
  unfold prtR
  have : t.all okPt = false := by
    rw [List.all_eq_false]
    refine ⟨nthT t k, ?_, by simp [h]⟩
    unfold nthT
    rw [List.getD_eq_getElem?_getD, List.getElem?_eq_getElem hk]
    exact List.getElem_mem hk
  rw [this]; rfl

end Wr
end Go.Proofs.YtndglpjkmgcdpaaGreatDoor

/-
  What is printed is read back, plain.
-/
set_option linter.unusedVariables false
set_option linter.unusedSimpArgs false
namespace Go.Proofs.YtndglpjkmgcdpaaGreatDoor
open Go.RowKit Go.Shelf
namespace Fd
open Oc Tg

def textOf (t : List Fl) : List UInt8 := t.flatMap fun p => lineP p ++ [13, 10]
theorem tok_plain {c : UInt8} (h : tokB c = true) : c ≠ 58 ∧ c ≠ 13 ∧ blankB c = false := by
  have hn : ∀ d : UInt8, tokB d = false → c ≠ d := fun d hd e => by rw [e, hd] at h; cases h
  refine ⟨hn 58 (by decide +kernel), hn 13 (by decide +kernel), ?_⟩
  cases hb : blankB c with
  | false => rfl
  | true =>
    exfalso
    unfold blankB blankI at hb
    have := of_decide_eq_true hb
    rcases this with h1 | h1
    · exact hn 32 (by decide +kernel) (UInt8.toNat_inj.1 (by show _ = 32; omega))
    · exact hn 9 (by decide +kernel) (UInt8.toNat_inj.1 (by show _ = 9; omega))
theorem field_13 {c : UInt8} (h : fieldB c = true) : c ≠ 13 := fun e => by rw [e] at h; revert h; decide +kernel
theorem cut_at {a r : List UInt8} (h : ∀ c ∈ a, c ≠ 58) : cutA 58 (a ++ 58 :: r) = a ∧ cutB 58 (a ++ 58 :: r) = r ∧ has 58 (a ++ 58 :: r) = true := by
  have hp : ∀ x ∈ a, (fun c : UInt8 => c != 58) x = true := fun x hx => by simpa using h x hx
  refine ⟨?_, ?_, ?_⟩
  · unfold cutA
    rw [List.takeWhile_append_of_pos hp]
    simp
  · unfold cutB
    rw [List.dropWhile_append_of_pos hp]
    simp
  · unfold has
    simp
theorem pl_F9 {l : List UInt8} (hb : blank0 l = false) (hh : has 58 l = true) (hn : isName (cutA 58 l) = true) (hf : isFld (cutB 58 l) = true) (h8 : (trim (cutB 58 l)).length ≤ 8192) : parseL l = ((cutA 58 l, trim (cutB 58 l)), 0, 0) := by
  unfold parseL
  rw [hb, hh, hn, hf, if_pos h8]
  rfl
theorem parse_line {p : Fl} (h1 : isName p.1 = true) (h2 : isValue p.2 = true) : parseL (lineP p) = (p, 0, 0) := by
  obtain ⟨n, v⟩ := p
  dsimp only at h1 h2
  have hn := h1
  unfold isName isTok at hn
  simp only [Bool.and_eq_true, List.all_eq_true] at hn
  obtain ⟨⟨hne, hall⟩, _⟩ := hn
  have hv := h2
  unfold isValue at hv
  simp only [Bool.and_eq_true, decide_eq_true_eq] at hv
  obtain ⟨⟨hf, h8⟩, htr⟩ := hv
  obtain ⟨r, hr, hfr, htrr⟩ : ∃ r, lineP (n, v) = n ++ 58 :: r ∧ isFld r = true ∧ trim r = v := by
    unfold lineP
    by_cases h0 : v = []
    · subst h0
      exact ⟨[], by simp, rfl, rfl⟩
    · refine ⟨32 :: v, by simp [h0], ?_, ?_⟩
      · have hf2 := hf
        unfold isFld at hf2 ⊢
        rw [List.all_cons, hf2, show fieldB 32 = true by decide +kernel]
        rfl
      · unfold trim at htr ⊢
        rw [trimL_cons, show blankB 32 = true by decide +kernel, if_pos rfl]
        exact htr
  obtain ⟨e1, e2, e3⟩ := cut_at (a := n) (r := r) (fun c hc => (tok_plain (hall c hc)).1)
  rw [hr]
  have hb : blank0 (n ++ 58 :: r) = false := by
    cases n with
    | nil => simp at hne
    | cons c n => exact (tok_plain (hall c (by simp))).2.2
  have h := pl_F9 hb e3 (by rw [e1]; exact h1) (by rw [e2]; exact hfr) (by rw [e2, htrr]; exact h8)
  rw [h, e1, e2, htrr]
theorem line_13 {p : Fl} (h1 : isName p.1 = true) (h2 : isValue p.2 = true) : ∀ c ∈ lineP p, c ≠ 13 := by
  obtain ⟨n, v⟩ := p
  dsimp only at h1 h2
  have hn := h1
  unfold isName isTok at hn
  simp only [Bool.and_eq_true, List.all_eq_true] at hn
  have hv := h2
  unfold isValue isFld at hv
  simp only [Bool.and_eq_true, List.all_eq_true] at hv
  intro c hc
  unfold lineP at hc
  dsimp only at hc
  have key : c ∈ n ∨ c = 58 ∨ c = 32 ∨ c ∈ v := by
    split at hc
    · simp at hc; rcases hc with h | h
      · exact .inl h
      · exact .inr (.inl h)
    · simp at hc; rcases hc with h | h | h | h
      · exact .inl h
      · exact .inr (.inl h)
      · exact .inr (.inr (.inl h))
      · exact .inr (.inr (.inr h))
  rcases key with h | rfl | rfl | h
  · exact (tok_plain (hn.1.2 c h)).2.1
  · decide
  · decide
  · exact field_13 (hv.1.1 c h)
theorem index_crlf (a r : List UInt8) (h : ∀ c ∈ a, c ≠ 13) : Lib.index (a ++ [13, 10] ++ r) [13, 10] = (a.length : Int) := by
  refine Lib.index_first (by simp) ?_ (fun j hj => ?_)
  · unfold Lib.occAt
    rw [List.append_assoc, List.drop_left]
    rfl
  · cases ho : Lib.occAt (a ++ [13, 10] ++ r) [13, 10] j with
    | false => rfl
    | true =>
      exfalso
      unfold Lib.occAt at ho
      obtain ⟨t, ht⟩ := List.isPrefixOf_iff_prefix.1 ho
      have := congrArg (fun y : List UInt8 => y[0]?) ht
      simp only [List.getElem?_drop, Nat.add_zero] at this
      rw [List.append_assoc, List.getElem?_append_left hj] at this
      exact h 13 (List.mem_of_getElem? (this.symm.trans rfl)) rfl

end Fd
end Go.Proofs.YtndglpjkmgcdpaaGreatDoor

/-
  The document's blanks, signs, Params.
-/
set_option linter.unusedVariables false
set_option linter.unusedSimpArgs false
namespace Go.Proofs.YtndglpjkmgcdpaaGreatDoor
open Go.RowKit Go.Shelf
namespace Oc

theorem drop_getD (l : List UInt8) (a j : Nat) : (l.drop a).getD j 0 = l.getD (a + j) 0 := by
  rw [List.getD_eq_getElem?_getD, List.getD_eq_getElem?_getD, List.getElem?_drop]
theorem ext_take (s : ByteArray) (i n : Nat) : s.extract i (i + n) = str ((s.data.toList.drop i).take n) := by
  apply eq_list
  rw [str_list, Lib.extract_data, show i + n - i = n by omega]

set_option maxRecDepth 100000 in
set_option maxHeartbeats 1000000 in
theorem blanks_any (s : ByteArray) (hs : s.size ≤ 134217728) (a : Nat) (ha : a ≤ s.size) (w : World) :
    Calls Tryz.prog 116 #[.string s, .int .i64 (a : Int)] w fun e w' => e = .returned (.int .i64 (bl (s.data.toList.drop a))) ∧ w' = w := by
  have HL : Hid ((s.data.toList.drop a).length = s.size - a) := (by simp : (s.data.toList.drop a).length = s.size - a)
  go_enter Tryz.func116, Tryz.ntmps116
  go_wp2
  go_loop [5] (fun nv => ∃ k : Nat, k ≤ s.size - a ∧ nv = .int .i64 k ∧ Hid (∀ j, j < k → blankB ((s.data.toList.drop a).getD j 0) = true)) (fun nv => s.size - a - (intOf nv).toNat)
  case atStart => exact ⟨0, Nat.zero_le _, rfl, (fun j hj => by omega : ∀ j, j < 0 → _)⟩
  case round =>
    obtain ⟨k, hk, rfl, hall⟩ := hrel
    by_cases hlt : k < s.size - a
    · have hlt2 : a + k < s.size := by omega
      have hby : ((s[a + k].toNat : Nat) : Int) = byt s (a + k) := byt_at s (a + k) hlt2
      obtain ⟨b0, b1⟩ := byt_bd s (a + k)
      have HC : Hid (blankB ((s.data.toList.drop a).getD k 0) = blankI (byt s (a + k))) := (by rw [drop_getD]; rfl : blankB _ = _)
      cases hb : blankI (byt s (a + k)) with
      | true =>
        have HA : Hid (∀ j, j < k + 1 → blankB ((s.data.toList.drop a).getD j 0) = true) := by
          intro j hj
          by_cases hjk : j = k
          · subst hjk; rw [HC.out]; exact hb
          · exact hall.out j (by omega)
        go_wp2_with (go_at_call 49; refine (IsBlank_any _ (by omega) (by omega) _).mono ?_; rintro e w' ⟨rfl, rfl⟩)
        go_round
        case rel => exact ⟨k + 1, by omega, by go_num, HA⟩
        case measure => simp [intOf]; omega
      | false =>
        have HN : Hid (bl (s.data.toList.drop a) = k) := tw_stop blankB 0 _ k (by rw [HL.out]; exact hlt) hall.out (by rw [HC.out]; exact hb)
        go_wp2_with (go_at_call 49; refine (IsBlank_any _ (by omega) (by omega) _).mono ?_; rintro e w' ⟨rfl, rfl⟩)
        go_ret
        exact ⟨ret_int (by rw [HN.out]), rfl⟩
    · have HN : Hid (bl (s.data.toList.drop a) = k) := (tw_all blankB 0 _ (fun j hj => hall.out j (by rw [HL.out] at hj; omega))).trans (by rw [HL.out]; omega)
      have hge : ¬ ((a : Int) + (k : Int) < (s.size : Int)) := by omega
      go_wp2
      go_ret
      exact ⟨ret_int (by rw [HN.out]), rfl⟩

set_option maxRecDepth 100000 in
set_option maxHeartbeats 1000000 in
theorem signs_any (s : ByteArray) (hs : s.size ≤ 134217728) (a : Nat) (ha : a ≤ s.size) (w : World) :
    Calls Tryz.prog 117 #[.string s, .int .i64 (a : Int)] w fun e w' => e = .returned (.int .i64 (tokLen (s.data.toList.drop a))) ∧ w' = w := by
  have HL : Hid ((s.data.toList.drop a).length = s.size - a) := (by simp : (s.data.toList.drop a).length = s.size - a)
  go_enter Tryz.func117, Tryz.ntmps117
  go_wp2
  go_loop [5] (fun nv => ∃ k : Nat, k ≤ s.size - a ∧ nv = .int .i64 k ∧ Hid (∀ j, j < k → tokB ((s.data.toList.drop a).getD j 0) = true)) (fun nv => s.size - a - (intOf nv).toNat)
  case atStart => exact ⟨0, Nat.zero_le _, rfl, (fun j hj => by omega : ∀ j, j < 0 → _)⟩
  case round =>
    obtain ⟨k, hk, rfl, hall⟩ := hrel
    by_cases hlt : k < s.size - a
    · have hlt2 : a + k < s.size := by omega
      have hby : ((s[a + k].toNat : Nat) : Int) = byt s (a + k) := byt_at s (a + k) hlt2
      obtain ⟨b0, b1⟩ := byt_bd s (a + k)
      have HC : Hid (tokB ((s.data.toList.drop a).getD k 0) = tokI (byt s (a + k))) := (by rw [drop_getD]; rfl : tokB _ = _)
      cases hb : tokI (byt s (a + k)) with
      | true =>
        have HA : Hid (∀ j, j < k + 1 → tokB ((s.data.toList.drop a).getD j 0) = true) := by
          intro j hj
          by_cases hjk : j = k
          · subst hjk; rw [HC.out]; exact hb
          · exact hall.out j (by omega)
        go_wp2_with (go_at_call 94; refine (IsSign_any _ (by omega) (by omega) _).mono ?_; rintro e w' ⟨rfl, rfl⟩)
        go_round
        case rel => exact ⟨k + 1, by omega, by go_num, HA⟩
        case measure => simp [intOf]; omega
      | false =>
        have HN : Hid (tokLen (s.data.toList.drop a) = k) := tw_stop tokB 0 _ k (by rw [HL.out]; exact hlt) hall.out (by rw [HC.out]; exact hb)
        go_wp2_with (go_at_call 94; refine (IsSign_any _ (by omega) (by omega) _).mono ?_; rintro e w' ⟨rfl, rfl⟩)
        go_ret
        exact ⟨ret_int (by rw [HN.out]), rfl⟩
    · have HN : Hid (tokLen (s.data.toList.drop a) = k) := (tw_all tokB 0 _ (fun j hj => hall.out j (by rw [HL.out] at hj; omega))).trans (by rw [HL.out]; omega)
      have hge : ¬ ((a : Int) + (k : Int) < (s.size : Int)) := by omega
      go_wp2
      go_ret
      exact ⟨ret_int (by rw [HN.out]), rfl⟩

end Oc
end Go.Proofs.YtndglpjkmgcdpaaGreatDoor
