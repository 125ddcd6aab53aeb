/- Several texts as one. -/
import Derived.Test.YtnhkkemphjblhaaDoorMgN
import Derived.Test.YtnhkkemphjblhaaDoorMgB
import Derived.Test.YtnhkkemphjblhaaDoorMgG
import Derived.BigQuiet
import Derived.Deep.QuietTactic
import Derived.Deep.RegionHeld3
import Derived.Laws.EntriesVeiled
import Derived.Test.YtnhkkemphjblhaaDoorMgK
import Derived.Test.YtnhkkemphjblhaaDoorMgJ
import Derived.Lib.CountLaws
import Derived.Lib.SplitLaws
/-
  The choice of a coding: qualityOf, likingOfCoding, best, ChooseCoding; the document's.
-/
set_option linter.unusedVariables false
set_option linter.unusedSimpArgs false
namespace Go.Proofs.YtnhkkemphjblhaaDoor
open Go.RowKit Go.Shelf
namespace Ac
open Oc Tg

/-- Is the word this one, without regard to case? -/
def alW (s : List UInt8) (p : Wt) : Bool := decide (lowS (str p.1) = lowS (str s))
def qof (t : List Wt) (s : List UInt8) : Option Int := (t.find? (alW s)).map Prod.snd
theorem nthW_get {t : List Wt} {k : Nat} (hk : k < t.length) : nthW t k = t[k] := by
  unfold nthW
  rw [List.getD_eq_getElem?_getD, List.getElem?_eq_getElem hk]
  rfl
theorem find_at {f : Wt → Bool} {t : List Wt} {k : Nat} (hk : k < t.length) (h1 : f (nthW t k) = true) (h2 : ∀ j, j < k → f (nthW t j) = false) : t.find? f = some (nthW t k) := by
  rw [List.find?_eq_some_iff_getElem]
  refine ⟨h1, k, hk, (nthW_get hk).symm, fun j hj => ?_⟩
  have := h2 j hj
  rw [nthW_get (by omega)] at this
  simpa using this
theorem find_none {f : Wt → Bool} {t : List Wt} (h2 : ∀ j, j < t.length → f (nthW t j) = false) : t.find? f = none := by
  rw [List.find?_eq_none]
  intro x hx
  obtain ⟨j, hj, rfl⟩ := List.mem_iff_getElem.1 hx
  have := h2 j hj
  rw [nthW_get hj] at this
  simpa using this
theorem qof_at {t : List Wt} {s : List UInt8} {k : Nat} (hk : k < t.length) (h1 : alW s (nthW t k) = true) (h2 : ∀ j, j < k → alW s (nthW t j) = false) : qof t s = some (nthW t k).2 := by
  unfold qof
  rw [find_at hk h1 h2]
  rfl
theorem qof_none {t : List Wt} {s : List UInt8} (h2 : ∀ j, j < t.length → alW s (nthW t j) = false) : qof t s = none := by
  unfold qof
  rw [find_none h2]
  rfl
theorem snoc_false {f : Nat → Bool} {k : Nat} (h : ∀ j, j < k → f j = false) (hk : f k = false) : ∀ j, j < k + 1 → f j = false := fun j hj => by
  rcases Nat.lt_succ_iff_lt_or_eq.1 hj with h' | rfl
  · exact h j h'
  · exact hk
def identL : List UInt8 := [105, 100, 101, 110, 116, 105, 116, 121]
def likC (t : List Wt) (s : List UInt8) : Int := match qof t s with
  | some q => q
  | none => match qof t [42] with
    | some q => q
    | none => if lowS (str s) = lowS (str identL) then 1 else 0
def likG (g : Bool) (t : List Wt) (s : List UInt8) : Int := if g then likC t s else 1000
/-- The first of the greatest above 0. -/
def bst (f : Nat → Int) : Nat → Int × Int
  | 0 => (-1, 0)
  | k + 1 => if (bst f k).2 < f k then ((k : Int), f k) else bst f k
theorem bst_in (f : Nat → Int) (hf : ∀ k, inI (f k)) : ∀ k, inI (bst f k).2 ∧ -1 ≤ (bst f k).1 ∧ (bst f k).1 < (k : Int) + 1
  | 0 => by unfold bst inI; omega
  | k + 1 => by
    have ih := bst_in f hf k
    unfold bst
    by_cases h : (bst f k).2 < f k
    · rw [if_pos h]
      exact ⟨hf k, by show -1 ≤ (k : Int); omega, by show (k : Int) < ((k + 1 : Nat) : Int) + 1; omega⟩
    · rw [if_neg h]
      refine ⟨ih.1, ih.2.1, ?_⟩
      have := ih.2.2
      show (bst f k).1 < ((k + 1 : Nat) : Int) + 1
      omega
theorem bst_yes {f : Nat → Int} {k : Nat} (h : (bst f k).2 < f k) : bst f (k + 1) = ((k : Int), f k) := by
  show (if (bst f k).2 < f k then ((k : Int), f k) else bst f k) = _
  rw [if_pos h]
theorem bst_no {f : Nat → Int} {k : Nat} (h : ¬ (bst f k).2 < f k) : bst f (k + 1) = bst f k := by
  show (if (bst f k).2 < f k then ((k : Int), f k) else bst f k) = _
  rw [if_neg h]

set_option maxRecDepth 100000 in
set_option maxHeartbeats 2000000 in
theorem qualityOf_any (v : Value) (t : List Wt) (s : List UInt8) (hs : s.length ≤ 1048576) (hM : EachW 1048576 t) (hl : t.length ≤ 16777216) (w : World) (hrd : RdW v t w) :
    Calls Tryd.prog 53 #[v, .string (str s)] w fun e w' => e = .returned (.tuple #[.int .i64 ((qof t s).getD 0), .bool (qof t s).isSome]) ∧ Below w.heap.size w w' := by
  have HR : Hid (RdW v t w) := hrd
  have HM : Hid (EachW 1048576 t) := hM
  obtain ⟨a, c, rfl, _⟩ := hrd
  clear hM
  go_enter Tryd.func53, Tryd.ntmps53
  go_wp2
  go_loopw [10] (fun i wr => ∃ k : Nat, k ≤ t.length ∧ i = .int .i64 k ∧ Hid (∀ j, j < k → alW s (nthW t j) = false) ∧ Hid (Below w.heap.size w wr)) (fun i _ => t.length - (intOf i).toNat)
  case atStart => exact ⟨0, Nat.zero_le _, rfl, (fun j hj => absurd hj (Nat.not_lt_zero _) : ∀ j, j < 0 → _), Below.refl _ _⟩
  case round =>
    obtain ⟨k, hk, rfl, hall, hbl⟩ := hrel
    have hsz := hbl.out.size
    by_cases hlt : k < t.length
    · obtain ⟨a', c', e', hcs⟩ := HR.out.below hbl.out
      injection e' with e1 _ e2
      subst e1 e2
      rcases hcs with h | ⟨g, o, rfl, hlc, hcell⟩
      · rw [h] at hlt; simp at hlt
      obtain ⟨p0, p1⟩ := hcell k hlt
      have hEk := HM.out.at hlt
      have hb1 : Below wr.heap.size wr (wr.alloc (.cells #[.string (str (nthW t k).1), .int .i64 (nthW t k).2] 66)) := (Below.refl _ wr).alloc (Nat.le_refl _) _
      have HB1 : Hid (Below w.heap.size w (wr.alloc (.cells #[.string (str (nthW t k).1), .int .i64 (nthW t k).2] 66))) := bel_trans hbl.out hb1
      have HC : Hid (∀ W, Calls Tryd.prog 51 #[.string (str (nthW t k).1), .string (str s)] W fun e w' => e = .returned (.bool (alW s (nthW t k))) ∧ Below (World.heap W).size W w') := fun W => Same_any _ _ (by rw [str_size]; unfold maxLen; omega) (by rw [str_size]; unfold maxLen; omega) W
      have TT : alW s (nthW t k) = true → Hid (qof t s = some (nthW t k).2) := fun h => qof_at hlt h hall.out
      have FF : alW s (nthW t k) = false → Hid (∀ j, j < k + 1 → alW s (nthW t j) = false) := fun h => snoc_false (f := fun j => alW s (nthW t j)) hall.out h
      clear hcell hb1 hEk hall
      generalize alW s (nthW t k) = b at HC TT FF
      generalize str (nthW t k).1 = N at *
      generalize (nthW t k).2 = q at *
      cases b with
      | true =>
        have tt := TT rfl
        clear TT FF
        go_wp2_with fail
        refine (HC.out _).mono ?_
        rintro e w2 ⟨rfl, hb2⟩
        have c1 : w2.cell? ⟨wr.heap.size, 1, none⟩ = some (.int .i64 q) := by rw [hb2.cell (by simp)]; simp
        have HB2 : Hid (Below w.heap.size w w2) := bel_trans HB1.out hb2
        clear hb2
        go_wp2
        go_ret2
        refine ⟨?_, HB2.out⟩
        rw [tt.out]
        rfl
      | false =>
        have ff := FF rfl
        clear TT FF
        go_wp2_with fail
        refine (HC.out _).mono ?_
        rintro e w2 ⟨rfl, hb2⟩
        have HB2 : Hid (Below w.heap.size w w2) := bel_trans HB1.out hb2
        clear hb2
        go_wp2
        go_roundw
        case rel => exact ⟨k + 1, by omega, by go_num, ff, HB2⟩
        case measure => simp [intOf]; omega
    · obtain rfl : k = t.length := by omega
      have HN : Hid (qof t s = none) := qof_none hall.out
      clear hall
      go_wp2
      go_ret2
      refine ⟨?_, hbl.out⟩
      rw [HN.out]
      rfl

set_option maxRecDepth 100000 in
set_option maxHeartbeats 2000000 in
theorem likingOfCoding_any (v : Value) (t : List Wt) (s : List UInt8) (hs : s.length ≤ 1048576) (hM : EachW 1048576 t) (hl : t.length ≤ 16777216) (w : World) (hrd : RdW v t w) :
    Calls Tryd.prog 32 #[v, .string (str s)] w fun e w' => e = .returned (.int .i64 (likC t s)) ∧ Below w.heap.size w w' := by
  have HR : Hid (RdW v t w) := hrd
  have HQ : Hid (∀ W x, x.length ≤ 1048576 → RdW v t W → Calls Tryd.prog 53 #[v, .string (str x)] W fun e w' => e = .returned (.tuple #[.int .i64 ((qof t x).getD 0), .bool (qof t x).isSome]) ∧ Below (World.heap W).size W w') := fun W x hx h => qualityOf_any v t x hx hM hl W h
  have HS : Hid (∀ W, Calls Tryd.prog 51 #[.string (str s), .string (str identL)] W fun e w' => e = .returned (.bool (decide (lowS (str s) = lowS (str identL)))) ∧ Below (World.heap W).size W w') := fun W => Same_any _ _ (by rw [str_size]; unfold maxLen; omega) (by rw [str_size]; decide) W
  obtain ⟨w1, hw1⟩ : ∃ w1, w1 = w.alloc (.cells #[.string (str s), .string (str [42])] 9) := ⟨_, rfl⟩
  have hrow : w1.heap[w.heap.size]? = some (.cells #[.string (str s), .string (str [42])] 9 (0, 0)) := by rw [hw1]; exact heap_alloc_new w _
  have HB1 : Hid (Below w.heap.size w w1) := by show Below _ _ _; rw [hw1]; exact (Below.refl _ w).alloc (Nat.le_refl _) _
  have hz1 : w.heap.size < w1.heap.size := by rw [hw1]; simp
  have c0 := Lib.cell_of_heap hrow 0
  have c1 := Lib.cell_of_heap hrow 1
  simp only [List.getElem?_toArray, List.getElem?_cons_zero, List.getElem?_cons_succ] at c0 c1
  have HC0 : Hid (w1.cell? ⟨w.heap.size, 0, none⟩ = some (.string (str s))) := c0
  have HC1 : Hid (w1.cell? ⟨w.heap.size, 1, none⟩ = some (.string (str [42]))) := c1
  clear c0 c1 hrow
  obtain ⟨a, c, rfl, _⟩ := hrd
  clear hM
  have HL : Hid (∀ x : Int, qof t s = some x → likC t s = x) := fun x h => by unfold likC; rw [h]
  have HL1 : Hid (∀ x : Int, qof t s = none → qof t [42] = some x → likC t s = x) := fun x h h' => by unfold likC; rw [h, h']
  have HL2 : Hid (qof t s = none → qof t [42] = none → likC t s = if lowS (str s) = lowS (str identL) then 1 else 0) := fun h h' => by unfold likC; rw [h, h']
  go_enter Tryd.func32, Tryd.ntmps32
  go_wp2_with fail
  rw [show (⟨#[42]⟩ : ByteArray) = str [42] from rfl, ← hw1]
  clear hw1
  go_wp2_with fail
  go_loopw [12] (fun i wr => ∃ k : Nat, k ≤ 2 ∧ i = .int .i64 k ∧ Hid (1 ≤ k → qof t s = none) ∧ Hid (2 ≤ k → qof t [42] = none) ∧ Hid (Below w1.heap.size w1 wr)) (fun i _ => 2 - (intOf i).toNat)
  case atStart => exact ⟨0, Nat.zero_le _, rfl, (fun h => absurd h (by omega) : 1 ≤ 0 → _), (fun h => absurd h (by omega) : 2 ≤ 0 → _), Below.refl _ _⟩
  case round =>
    obtain ⟨k, hk, rfl, h1, h2, hbl⟩ := hrel
    have HBw : Hid (Below w.heap.size w wr) := bel_trans HB1.out hbl.out
    rcases (by omega : k = 0 ∨ k = 1 ∨ k = 2) with rfl | rfl | rfl
    · have d0 : wr.cell? ⟨w.heap.size, 0, none⟩ = some (.string (str s)) := (hbl.out.cell (p := ⟨w.heap.size, 0, none⟩) hz1).trans HC0.out
      go_wp2_with fail
      refine (HQ.out wr s hs (HR.out.below HBw.out)).mono ?_
      rintro e w2 ⟨rfl, hb2⟩
      have HB2 : Hid (Below w1.heap.size w1 w2) := bel_trans hbl.out hb2
      have HB2w : Hid (Below w.heap.size w w2) := bel_trans HBw.out hb2
      clear hb2
      cases hq : qof t s with
      | some q =>
        have e1 : Hid (likC t s = q) := HL.out q hq
        simp only [Option.getD_some, Option.isSome_some]
        go_wp2
        go_ret
        exact ⟨by rw [e1.out]; rfl, HB2w.out⟩
      | none =>
        have e1 : Hid (qof t s = none) := hq
        clear hq
        simp only [Option.getD_none, Option.isSome_none]
        go_wp2
        go_roundw
        case rel => exact ⟨1, by omega, by go_num, (fun _ => e1.out : 1 ≤ 1 → _), (fun h => absurd h (by omega) : 2 ≤ 1 → _), HB2⟩
        case measure => simp [intOf]
    · have d0 : wr.cell? ⟨w.heap.size, 1, none⟩ = some (.string (str [42])) := (hbl.out.cell (p := ⟨w.heap.size, 1, none⟩) hz1).trans HC1.out
      have e0 := h1.out (by omega)
      have E0 : Hid (qof t s = none) := e0
      clear e0
      go_wp2_with fail
      refine (HQ.out wr [42] (by decide) (HR.out.below HBw.out)).mono ?_
      rintro e w2 ⟨rfl, hb2⟩
      have HB2 : Hid (Below w1.heap.size w1 w2) := bel_trans hbl.out hb2
      have HB2w : Hid (Below w.heap.size w w2) := bel_trans HBw.out hb2
      clear hb2
      cases hq : qof t [42] with
      | some q =>
        have e1 : Hid (likC t s = q) := HL1.out q E0.out hq
        simp only [Option.getD_some, Option.isSome_some]
        go_wp2
        go_ret
        exact ⟨by rw [e1.out]; rfl, HB2w.out⟩
      | none =>
        have e1 : Hid (qof t [42] = none) := hq
        clear hq
        simp only [Option.getD_none, Option.isSome_none]
        go_wp2
        go_roundw
        case rel => exact ⟨2, by omega, by go_num, (fun _ => E0.out : 1 ≤ 2 → _), (fun _ => e1.out : 2 ≤ 2 → _), HB2⟩
        case measure => simp [intOf]
    · have HLL : Hid (_ = _) := HL2.out (h1.out (by omega)) (h2.out (by omega))
      go_wp2_with fail
      rw [show (⟨#[105, 100, 101, 110, 116, 105, 116, 121]⟩ : ByteArray) = str identL from rfl]
      refine (HS.out wr).mono ?_
      rintro e w2 ⟨rfl, hb2⟩
      have HB2w : Hid (Below w.heap.size w w2) := bel_trans HBw.out hb2
      clear hb2
      by_cases hd : lowS (str s) = lowS (str identL)
      · have hd' : decide (lowS (str s) = lowS (str identL)) = true := decide_eq_true hd
        have HD : Hid (lowS (str s) = lowS (str identL)) := hd
        clear hd
        rw [hd']
        go_wp2
        go_ret
        exact ⟨by rw [HLL.out, if_pos HD.out]; rfl, HB2w.out⟩
      · have hd' : decide (lowS (str s) = lowS (str identL)) = false := decide_eq_false hd
        have HD : Hid (¬ lowS (str s) = lowS (str identL)) := hd
        clear hd
        rw [hd']
        go_wp2
        go_ret
        exact ⟨by rw [HLL.out, if_neg HD.out]; rfl, HB2w.out⟩

end Ac
end Go.Proofs.YtnhkkemphjblhaaDoor

/-
  Languages: plainly; isPartOfLanguage, isLanguage.
-/
set_option linter.unusedVariables false
set_option linter.unusedSimpArgs false
namespace Go.Proofs.YtnhkkemphjblhaaDoor
open Go.RowKit Go.Shelf
namespace Ac
open Oc Tg

/-- May a byte stand in a part of a language, where digits may or may not? -/
def ltI (d : Bool) (x : Int) : Bool := lettI x || (d && digI x)
def ltB (d : Bool) (c : UInt8) : Bool := ltI d (c.toNat : Int)
def lgo (fi : Bool) : Nat → List UInt8 → Bool
  | n, [] => decide (1 ≤ n) && decide (n ≤ 8)
  | n, c :: r => if c = 45 then (decide (1 ≤ n) && decide (n ≤ 8)) && lgo false 0 r else ltB (!fi) c && lgo fi (n + 1) r
def isL (l : List UInt8) : Bool := lgo true 0 l
def pOK (d : Bool) (p : List UInt8) : Bool := decide (1 ≤ p.length) && decide (p.length ≤ 8) && p.all (ltB d)
def lOK (fi : Bool) : List (List UInt8) → Bool
  | [] => true
  | p :: r => pOK (!fi) p && lOK false r
theorem lgo_split : ∀ (l : List UInt8) (fi : Bool) (n : Nat) (p : List UInt8) (r : List (List UInt8)), splitB 45 l = p :: r → lgo fi n l = (decide (1 ≤ n + p.length) && decide (n + p.length ≤ 8) && p.all (ltB (!fi)) && lOK false r)
  | [], fi, n, p, r, h => by
    injection h with h1 h2
    subst h1 h2
    simp [lgo, lOK]
  | c :: t, fi, n, p, r, h => by
    unfold splitB at h
    by_cases hc : c = 45
    · subst hc
      simp only [beq_self_eq_true, if_true] at h
      injection h with h1 h2
      subst h1
      cases hs : splitB 45 t with
      | nil => exact absurd hs (splitB_ne _ _)
      | cons p' r' =>
        rw [hs] at h2
        subst h2
        have ih := lgo_split t false 0 p' r' hs
        show (if (45 : UInt8) = 45 then _ else _) = _
        rw [if_pos rfl, ih]
        simp [lOK, pOK]
    · rw [if_neg (by simpa using hc)] at h
      cases hs : splitB 45 t with
      | nil => exact absurd hs (splitB_ne _ _)
      | cons p' r' =>
        rw [hs] at h
        injection h with h1 h2
        subst h1 h2
        have ih := lgo_split t fi (n + 1) p' r' hs
        show (if c = 45 then _ else _) = _
        rw [if_neg hc, ih, List.length_cons, List.all_cons, show n + 1 + p'.length = n + (p'.length + 1) by omega]
        cases ltB (!fi) c <;> simp
theorem isL_split (l : List UInt8) : isL l = lOK true (splitB 45 l) := by
  cases hs : splitB 45 l with
  | nil => exact absurd hs (splitB_ne _ _)
  | cons p r =>
    unfold isL
    rw [lgo_split l true 0 p r hs]
    simp [lOK, pOK]

theorem split_each (b : UInt8) (l : List UInt8) : ∀ z ∈ splitB b l, z.length ≤ l.length := by
  induction l with
  | nil => intro z hz; simp [splitB] at hz; subst hz; simp
  | cons c t ih =>
    intro z hz
    rw [splitB_cons] at hz
    by_cases h : (c == b) = true
    · rw [if_pos h] at hz
      rcases List.mem_cons.1 hz with rfl | hz
      · simp
      · have := ih z hz
        simp only [List.length_cons]
        omega
    · rw [if_neg h] at hz
      cases hs : splitB b t with
      | nil => exact absurd hs (splitB_ne b t)
      | cons x r =>
        rw [hs] at hz ih
        rcases List.mem_cons.1 hz with rfl | hz
        · have := ih x (by simp)
          simp only [List.length_cons]
          omega
        · have := ih z (by simp [hz])
          simp only [List.length_cons]
          omega
theorem split_len (b : UInt8) (l : List UInt8) : (splitB b l).length ≤ l.length + 1 := by
  induction l with
  | nil => simp [splitB]
  | cons c t ih =>
    rw [splitB_cons]
    by_cases h : (c == b) = true
    · rw [if_pos h]
      simp only [List.length_cons]
      omega
    · rw [if_neg h]
      cases hs : splitB b t with
      | nil => exact absurd hs (splitB_ne b t)
      | cons x r =>
        rw [hs] at ih
        simp only [List.length_cons] at ih ⊢
        omega
theorem split_bridge (b : UInt8) : ∀ (n : Nat) (s : ByteArray), s.size ≤ n → (Lib.splitB ⟨#[b]⟩ 0 (Lib.countB s ⟨#[b]⟩) s).map (·.data.toList) = splitB b s.data.toList := by
  intro n
  induction n with
  | zero =>
    intro s hs
    have hl : s.data.toList = [] := List.length_eq_zero_iff.1 (by rw [size_list]; omega)
    have hi : Lib.indexB s ⟨#[b]⟩ = -1 := by
      show Lib.index s.data.toList [b] = -1
      rw [hl]
      rfl
    rw [Lib.splitB_miss _ _ _ _ hi, hl]
    simp only [List.map_cons, List.map_nil]
    rw [hl]
    rfl
  | succ n ih =>
    intro s hs
    have hi := index_one b s.data.toList
    cases hh : has b s.data.toList with
    | false =>
      rw [hh] at hi
      have hi2 : Lib.indexB s ⟨#[b]⟩ = -1 := hi
      rw [Lib.splitB_miss _ _ _ _ hi2, split_cut, hh]
      have hc := cut_one b s.data.toList
      unfold Lib.cut at hc
      rw [show Lib.index s.data.toList [b] = -1 from hi, if_neg (by omega)] at hc
      have := congrArg Prod.fst hc
      simp only [List.map_cons, List.map_nil]
      simp
      exact this
    | true =>
      rw [hh, if_pos rfl] at hi
      have hi2 : Lib.indexB s ⟨#[b]⟩ = (((cutA b s.data.toList).length : Nat) : Int) := hi
      have hc := cut_one b s.data.toList
      unfold Lib.cut at hc
      rw [show Lib.index s.data.toList [b] = (((cutA b s.data.toList).length : Nat) : Int) from hi, if_pos (by omega)] at hc
      have h1 : s.data.toList.take (cutA b s.data.toList).length = cutA b s.data.toList := by
        have := congrArg Prod.fst hc
        simpa using this
      have h2 : s.data.toList.drop ((cutA b s.data.toList).length + 1) = cutB b s.data.toList := by
        have := congrArg (fun x => x.2.1) hc
        simpa using this
      have hlt : (cutA b s.data.toList).length + 1 ≤ s.size := by
        have := cut_app b s.data.toList hh
        have := congrArg List.length this
        rw [List.length_append, size_list] at this
        simp at this
        omega
      rw [Lib.countB_hit s ⟨#[b]⟩ _ (Nat.le_refl 1) hi2, Nat.add_comm 1, Lib.splitB_hit _ _ _ _ _ hi2, split_cut, hh, if_pos rfl]
      have he : (⟨#[b]⟩ : ByteArray).size = 1 := rfl
      rw [he]
      have hx : (s.extract ((cutA b s.data.toList).length + 1) s.size).data.toList = cutB b s.data.toList := by
        rw [Lib.extract_to_end, h2]
      simp only [List.map_cons, Nat.add_zero]
      rw [ih _ (by rw [ByteArray.size_extract]; omega), hx, Lib.extract_from_zero, h1]

theorem Split_any (s : ByteArray) (b : UInt8) (hs : s.size ≤ 4000000000) (w : World) (h : ML w) :
    Calls Tryd.prog 78 #[.string s, .string ⟨#[b]⟩] w fun e w' => ∃ a c, e = .returned (.slice a (splitB b s.data.toList).length c) ∧ RdS (.slice a (splitB b s.data.toList).length c) (splitB b s.data.toList) w' ∧ Below w.heap.size w w' := by
  obtain ⟨m, hm⟩ := h
  refine (Tryd.strings_Split s ⟨#[b]⟩ m w (by omega) hm (Nat.le_refl 1)).mono ?_
  rintro e w' ⟨rfl, rfl⟩
  have hb := split_bridge b s.size s (Nat.le_refl _)
  have hl : (Lib.splitB ⟨#[b]⟩ 0 (Lib.countB s ⟨#[b]⟩) s).length = (splitB b s.data.toList).length := by rw [← hb, List.length_map]
  have hn : Lib.countB s ⟨#[b]⟩ + 1 = (splitB b s.data.toList).length := by
    rw [← hl]
    exact (Lib.splitB_all ⟨#[b]⟩ (Nat.le_refl 1) 0 _ s rfl).symm
  rw [hn]
  refine ⟨_, _, rfl, ⟨_, _, rfl, .inr ⟨w.heap.size, 0, rfl, Nat.le_refl _, fun j hj => ?_⟩⟩, (Below.refl _ w).alloc (Nat.le_refl _) _⟩
  have hr := heap_alloc_new w (.cells ((Lib.splitB ⟨#[b]⟩ 0 (Lib.countB s ⟨#[b]⟩) s).map Value.string).toArray 9)
  rw [Nat.zero_add, cell_of_row _ _ _ _ _ _ hr, List.getElem?_toArray, List.getElem?_map]
  have hj2 : j < (Lib.splitB ⟨#[b]⟩ 0 (Lib.countB s ⟨#[b]⟩) s).length := by rw [hl]; exact hj
  rw [List.getElem?_eq_getElem hj2]
  have e : (splitB b s.data.toList).getD j [] = ((Lib.splitB ⟨#[b]⟩ 0 (Lib.countB s ⟨#[b]⟩) s)[j]).data.toList := by
    rw [← hb, List.getD_eq_getElem?_getD, List.getElem?_map, List.getElem?_eq_getElem hj2]
    rfl
  rw [e, str_self]
  rfl


/-- A byte of the text in small letters, looked at. -/
theorem low_lt (x : Int) : ((decide (97 ≤ lowI x) && decide (lowI x ≤ 122)) = lettI x) ∧ ((decide (48 ≤ lowI x) && decide (lowI x ≤ 57)) = digI x) := by
  unfold lowI lettI digI
  constructor <;> (rw [Bool.eq_iff_iff]; simp only [Bool.and_eq_true, decide_eq_true_eq, Bool.or_eq_true]; (try split) <;> omega)

set_option maxRecDepth 100000 in
set_option maxHeartbeats 2000000 in
theorem isPart_any (s : ByteArray) (d : Bool) (hs : s.size ≤ 1048576) (w : World) :
    Calls Tryd.prog 79 #[.string s, .bool d] w fun e w' => e = .returned (.bool (s.data.toList.all (ltB d))) ∧ Below w.heap.size w w' := by
  have HLo : Hid (Calls Tryd.prog 42 #[.string s] w fun e w' => e = .returned (.string (lowS s)) ∧ Below w.heap.size w w') := Lower_any s (by unfold maxLen; omega) w
  have hz : (lowS s).size = s.size := lowS_size s
  have HAt : Hid (∀ j, j < s.size → byt (lowS s) j = lowI (byt s j)) := fun j hj => lowS_byt s j hj
  have HN : Hid (∀ k, k < s.size → ltI d (byt s k) = false → s.data.toList.all (ltB d) = false) := fun k hk hb => by
    rw [List.all_eq_false]
    refine ⟨s.data.toList[k]'(by rw [size_list]; exact hk), List.getElem_mem _, ?_⟩
    unfold byt at hb
    rw [List.getD_eq_getElem?_getD, List.getElem?_eq_getElem (by rw [size_list]; exact hk), Option.getD_some] at hb
    unfold ltB
    rw [hb]
    simp
  have HY : Hid ((∀ j, j < s.size → ltI d (byt s j) = true) → s.data.toList.all (ltB d) = true) := fun h => by
    rw [List.all_eq_true]
    intro x hx
    obtain ⟨j, hj, rfl⟩ := List.mem_iff_getElem.1 hx
    have := h j (by rw [← size_list]; exact hj)
    unfold byt at this
    rw [List.getD_eq_getElem?_getD, List.getElem?_eq_getElem hj, Option.getD_some] at this
    exact this
  generalize s.data.toList.all (ltB d) = V at *
  go_enter Tryd.func79, Tryd.ntmps79
  go_wp2_with fail
  refine HLo.out.mono ?_
  rintro e w1 ⟨rfl, hb1⟩
  have hcv := fun w => Lib.run_convert_string_bytes (P := Tryd.prog) w 9 95 5 (lowS s) Tryd.underlying9 Tryd.underlying95 Tryd.underlying5
  have hbel := below_bytes w1 5 (lowS s)
  have hr := bytes_row w1 5 (lowS s)
  have HB1 : Hid (Below w.heap.size w (Lib.bytesWorld w1 5 (lowS s))) := bel_trans hb1 hbel
  have HR1 : Hid (Row (Lib.bytesWorld w1 5 (lowS s)) w1.heap.size (lowS s).size (byt (lowS s))) := hr
  clear hbel hr hb1
  generalize hLS : lowS s = ls at *
  go_wp2
  generalize Lib.bytesWorld w1 5 ls = w2 at *
  go_loopw [12] (fun i wr => ∃ k : Nat, k ≤ s.size ∧ i = .int .i64 k ∧ Hid (∀ j, j < k → ltI d (byt s j) = true) ∧ wr = w2) (fun i _ => s.size - (intOf i).toNat)
  case atStart => exact ⟨0, Nat.zero_le _, rfl, (fun j hj => absurd hj (Nat.not_lt_zero _) : ∀ j, j < 0 → _), rfl⟩
  case round =>
    obtain ⟨k, hk, rfl, hall, rfl⟩ := hrel
    by_cases hlt : k < s.size
    · have hck := HR1.out.cell k (by omega)
      rw [HAt.out k hlt] at hck
      obtain ⟨q1, q2⟩ := low_lt (byt s k)
      have FF : ltI d (byt s k) = false → Hid (V = false) := fun h => HN.out k hlt h
      have TT : ltI d (byt s k) = true → Hid (∀ j, j < k + 1 → ltI d (byt s j) = true) := fun h j hj => by
        rcases Nat.lt_succ_iff_lt_or_eq.1 hj with h' | rfl
        · exact hall.out j h'
        · exact h
      have hb : 0 ≤ lowI (byt s k) ∧ lowI (byt s k) ≤ 255 := by
        obtain ⟨b0, b1⟩ := byt_bd s k
        unfold lowI
        split <;> omega
      unfold ltI at FF TT
      rw [← q1, ← q2] at FF TT
      clear q1 q2 hall
      generalize lowI (byt s k) = X at *
      obtain ⟨hX0, hX1⟩ := hb
      rcases (by omega : (X < 48) ∨ (48 ≤ X ∧ X ≤ 57) ∨ (57 < X ∧ X < 97) ∨ (97 ≤ X ∧ X ≤ 122) ∨ (122 < X)) with hr | hr | hr | hr | hr
      · have e1 : ¬ 97 ≤ X := by omega
        have e2 : X ≤ 122 := by omega
        have e3 : ¬ 48 ≤ X := by omega
        have e4 : X ≤ 57 := by omega
        clear hr
        cases d
        · have ff := FF (by simp [e1, e2, e3, e4])
          clear FF TT
          go_wp2
          go_ret
          refine ⟨?_, HB1.out⟩
          rw [ff.out]
          rfl
        · have ff := FF (by simp [e1, e2, e3, e4])
          clear FF TT
          go_wp2
          go_ret
          refine ⟨?_, HB1.out⟩
          rw [ff.out]
          rfl
      · have e1 : ¬ 97 ≤ X := by omega
        have e2 : X ≤ 122 := by omega
        have e3 : 48 ≤ X := by omega
        have e4 : X ≤ 57 := by omega
        clear hr
        cases d
        · have ff := FF (by simp [e1, e2, e3, e4])
          clear FF TT
          go_wp2
          go_ret
          refine ⟨?_, HB1.out⟩
          rw [ff.out]
          rfl
        · have tt := TT (by simp [e1, e2, e3, e4])
          clear FF TT
          go_wp2
          go_roundw
          case rel => exact ⟨k + 1, by omega, by go_num, tt, by simp⟩
          case measure => simp [intOf]; omega
      · have e1 : ¬ 97 ≤ X := by omega
        have e2 : X ≤ 122 := by omega
        have e3 : 48 ≤ X := by omega
        have e4 : ¬ X ≤ 57 := by omega
        clear hr
        cases d
        · have ff := FF (by simp [e1, e2, e3, e4])
          clear FF TT
          go_wp2
          go_ret
          refine ⟨?_, HB1.out⟩
          rw [ff.out]
          rfl
        · have ff := FF (by simp [e1, e2, e3, e4])
          clear FF TT
          go_wp2
          go_ret
          refine ⟨?_, HB1.out⟩
          rw [ff.out]
          rfl
      · have e1 : 97 ≤ X := by omega
        have e2 : X ≤ 122 := by omega
        have e3 : 48 ≤ X := by omega
        have e4 : ¬ X ≤ 57 := by omega
        clear hr
        cases d
        · have tt := TT (by simp [e1, e2, e3, e4])
          clear FF TT
          go_wp2
          go_roundw
          case rel => exact ⟨k + 1, by omega, by go_num, tt, by simp⟩
          case measure => simp [intOf]; omega
        · have tt := TT (by simp [e1, e2, e3, e4])
          clear FF TT
          go_wp2
          go_roundw
          case rel => exact ⟨k + 1, by omega, by go_num, tt, by simp⟩
          case measure => simp [intOf]; omega
      · have e1 : 97 ≤ X := by omega
        have e2 : ¬ X ≤ 122 := by omega
        have e3 : 48 ≤ X := by omega
        have e4 : ¬ X ≤ 57 := by omega
        clear hr
        cases d
        · have ff := FF (by simp [e1, e2, e3, e4])
          clear FF TT
          go_wp2
          go_ret
          refine ⟨?_, HB1.out⟩
          rw [ff.out]
          rfl
        · have ff := FF (by simp [e1, e2, e3, e4])
          clear FF TT
          go_wp2
          go_ret
          refine ⟨?_, HB1.out⟩
          rw [ff.out]
          rfl
    · have HF : Hid (V = true) := HY.out (fun j hj => hall.out j (by omega))
      clear hall
      obtain rfl : k = s.size := by omega
      go_wp2
      go_ret
      refine ⟨?_, HB1.out⟩
      rw [HF.out]
      rfl

end Ac
end Go.Proofs.YtnhkkemphjblhaaDoor

/-
  isLanguage.
-/
set_option linter.unusedVariables false
set_option linter.unusedSimpArgs false
namespace Go.Proofs.YtnhkkemphjblhaaDoor
open Go.RowKit Go.Shelf
namespace Ac
open Oc Tg

theorem lOK_no : ∀ (t : List (List UInt8)) (fi : Bool) (k : Nat), k < t.length → pOK (!(fi && decide (k = 0))) (t.getD k []) = false → lOK fi t = false
  | [], fi, k, h, _ => by simp at h
  | p :: r, fi, 0, _, h => by
    simp only [decide_true, Bool.and_true] at h
    show (pOK (!fi) p && _) = false
    have h' : pOK (!fi) p = false := h
    rw [h']; rfl
  | p :: r, fi, k + 1, h, hb => by
    have e : (fi && decide (k + 1 = 0)) = false := by simp
    rw [e] at hb
    have := lOK_no r false k (by simpa using h) (by simpa using hb)
    show (pOK (!fi) p && lOK false r) = false
    rw [this, Bool.and_false]
theorem lOK_yes : ∀ (t : List (List UInt8)) (fi : Bool), (∀ k, k < t.length → pOK (!(fi && decide (k = 0))) (t.getD k []) = true) → lOK fi t = true
  | [], fi, _ => rfl
  | p :: r, fi, h => by
    have h0 := h 0 (by simp)
    simp only [decide_true, Bool.and_true] at h0
    have h0' : pOK (!fi) p = true := h0
    have h1 := lOK_yes r false (fun k hk => by
      have := h (k + 1) (by simpa using hk)
      have e : (fi && decide (k + 1 = 0)) = false := by simp
      rw [e] at this
      simpa using this)
    show (pOK (!fi) p && lOK false r) = true
    rw [h0', h1]; rfl

set_option maxRecDepth 100000 in
set_option maxHeartbeats 2000000 in
theorem isLanguage_any (s : List UInt8) (hs : s.length ≤ 1048576) (w : World) (hw : ML w) :
    Calls Tryd.prog 54 #[.string (str s)] w fun e w' => e = .returned (.bool (isL s)) ∧ Below w.heap.size w w' := by
  have HS : Hid (Calls Tryd.prog 78 #[.string (str s), .string ⟨#[45]⟩] w fun e w' => ∃ a c, e = .returned (.slice a (splitB 45 s).length c) ∧ RdS (.slice a (splitB 45 s).length c) (splitB 45 s) w' ∧ Below w.heap.size w w') := by
    have := Split_any (str s) 45 (by rw [str_size]; omega) w hw
    rw [str_list] at this
    exact this
  have HI : Hid (isL s = lOK true (splitB 45 s)) := isL_split s
  have hP : (splitB 45 s).length ≤ s.length + 1 := split_len 45 s
  have HE : Hid (∀ x ∈ splitB 45 s, x.length ≤ s.length) := split_each 45 s
  generalize splitB 45 s = P at *
  generalize isL s = V at *
  go_enter Tryd.func54, Tryd.ntmps54
  go_wp2_with fail
  refine HS.out.mono ?_
  rintro e w1 ⟨a, c, rfl, hr, hb1⟩
  have HR1 : Hid (RdS (.slice a P.length c) P w1) := hr
  have HB1 : Hid (Below w.heap.size w w1) := hb1
  clear hr hb1
  go_wp2
  go_loopw [8] (fun i wr => ∃ k : Nat, k ≤ P.length ∧ i = .int .i64 k ∧ Hid (∀ j, j < k → pOK (!(true && decide (j = 0))) (P.getD j []) = true) ∧ Hid (Below w1.heap.size w1 wr)) (fun i _ => P.length - (intOf i).toNat)
  case atStart => exact ⟨0, Nat.zero_le _, rfl, (fun j hj => absurd hj (Nat.not_lt_zero _) : ∀ j, j < 0 → _), Below.refl _ _⟩
  case round =>
    obtain ⟨k, hk, rfl, hall, hbl⟩ := hrel
    have HBw : Hid (Below w.heap.size w wr) := bel_trans HB1.out hbl.out
    by_cases hlt : k < P.length
    · obtain ⟨a', c', e', hcs⟩ := HR1.out.below hbl.out
      injection e' with e1 _ e2
      subst e1 e2
      rcases hcs with h | ⟨g, o, rfl, hlc, hcell⟩
      · rw [h] at hlt; simp at hlt
      have d0 := hcell k hlt
      have hx : (P.getD k []).length ≤ 1048576 := by
        refine Nat.le_trans (HE.out _ ?_) hs
        rw [List.getD_eq_getElem?_getD, List.getElem?_eq_getElem hlt]
        exact List.getElem_mem hlt
      have FF : pOK (!(true && decide (k = 0))) (P.getD k []) = false → Hid (V = false) := fun h => (by rw [HI.out]; exact lOK_no P true k hlt h : V = false)
      have TT : pOK (!(true && decide (k = 0))) (P.getD k []) = true → Hid (∀ j, j < k + 1 → pOK (!(true && decide (j = 0))) (P.getD j []) = true) := fun h j hj => by
        rcases Nat.lt_succ_iff_lt_or_eq.1 hj with h' | rfl
        · exact hall.out j h'
        · exact h
      have hgt : decide (0 < k) = !(true && decide (k = 0)) := by
        by_cases h0 : k = 0
        · subst h0; rfl
        · simp [h0]; omega
      have HC : Hid (∀ W, Calls Tryd.prog 79 #[.string (str (P.getD k [])), .bool (!(true && decide (k = 0)))] W fun e w' => e = .returned (.bool ((P.getD k []).all (ltB (!(true && decide (k = 0)))))) ∧ Below (World.heap W).size W w') := fun W => by
        have := isPart_any (str (P.getD k [])) (!(true && decide (k = 0))) (by rw [str_size]; exact hx) W
        rw [str_list] at this
        exact this
      unfold pOK at FF TT
      clear hcell hall
      generalize P.getD k [] = p at *
      have hemp : ((str p).toList == []) = decide (p.length = 0) := by
        cases p with
        | nil => decide +kernel
        | cons x y =>
          rw [show ((str (x :: y)).toList == []) = ((str (x :: y)).toList == (str []).toList) by rw [show (str []).toList = [] by decide +kernel], eq_toList]
          simp only [List.length_cons, Nat.add_eq_zero_iff, Nat.one_ne_zero, and_false, decide_false, decide_eq_false_iff_not]
          exact fun h => by have := str_inj h; cases this
      have hsz : (str p).size = p.length := str_size p
      generalize (!(true && decide (k = 0))) = D at *
      by_cases z0 : p.length = 0
      · have ff := FF (by simp [z0])
        rw [decide_eq_true z0] at hemp
        clear FF TT HC
        generalize str p = S at *
        go_wp2
        go_ret
        refine ⟨?_, HBw.out⟩
        rw [ff.out]
        rfl
      · rw [decide_eq_false z0] at hemp
        by_cases z8 : p.length ≤ 8
        · have hz8 : ¬ (8 : Int) < (p.length : Int) := by omega
          have e12 : (decide (1 ≤ p.length) && decide (p.length ≤ 8)) = true := by simp; omega
          rw [e12, Bool.true_and] at FF TT
          generalize p.all (ltB D) = R at *
          generalize str p = S at *
          go_wp2_with fail
          refine (HC.out _).mono ?_
          rintro e w2 ⟨rfl, hb2⟩
          have HB2 : Hid (Below w1.heap.size w1 w2) := bel_trans hbl.out hb2
          have HB2w : Hid (Below w.heap.size w w2) := bel_trans HBw.out hb2
          clear hb2
          cases R with
          | true =>
            have tt := TT rfl
            clear TT FF
            go_wp2
            go_roundw
            case rel => exact ⟨k + 1, by omega, by go_num, tt, HB2⟩
            case measure => simp [intOf]; omega
          | false =>
            have ff := FF rfl
            clear TT FF
            go_wp2
            go_ret
            refine ⟨?_, HB2w.out⟩
            rw [ff.out]
            rfl
        · have hz8 : (8 : Int) < (p.length : Int) := by omega
          have ff := FF (by simp; omega)
          clear FF TT HC
          generalize str p = S at *
          go_wp2
          go_ret
          refine ⟨?_, HBw.out⟩
          rw [ff.out]
          rfl
    · obtain rfl : k = P.length := by omega
      have HF : Hid (V = true) := (by rw [HI.out]; exact lOK_yes P true hall.out : V = true)
      clear hall
      go_wp2
      go_ret
      refine ⟨?_, HBw.out⟩
      rw [HF.out]
      rfl

end Ac
end Go.Proofs.YtnhkkemphjblhaaDoor
