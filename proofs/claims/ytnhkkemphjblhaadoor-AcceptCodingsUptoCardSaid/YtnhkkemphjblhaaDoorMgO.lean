/- Several texts as one. -/
import Derived.Test.YtnhkkemphjblhaaDoorMgN
import Derived.Test.YtnhkkemphjblhaaDoorMgB
import Derived.Test.YtnhkkemphjblhaaDoorMgG
import Derived.BigQuiet
import Derived.Deep.QuietTactic
import Derived.Deep.RegionHeld3
import Derived.Laws.EntriesVeiled
import Derived.Deep.RegionWith
import Derived.Laws.AppendOwn
/-
  The choice of a coding: qualityOf, likingOfCoding, best, ChooseCoding; the document's.
-/
set_option linter.unusedVariables false
set_option linter.unusedSimpArgs false
namespace Go.Proofs.YtnhkkemphjblhaaDoor
open Go.RowKit Go.Shelf
namespace Ac
open Oc Tg

/-- Is the word this one, without regard to case? -/
def alW (s : List UInt8) (p : Wt) : Bool := decide (lowS (str p.1) = lowS (str s))
def qof (t : List Wt) (s : List UInt8) : Option Int := (t.find? (alW s)).map Prod.snd
theorem nthW_get {t : List Wt} {k : Nat} (hk : k < t.length) : nthW t k = t[k] := by
  unfold nthW
  rw [List.getD_eq_getElem?_getD, List.getElem?_eq_getElem hk]
  rfl
theorem find_at {f : Wt → Bool} {t : List Wt} {k : Nat} (hk : k < t.length) (h1 : f (nthW t k) = true) (h2 : ∀ j, j < k → f (nthW t j) = false) : t.find? f = some (nthW t k) := by
  rw [List.find?_eq_some_iff_getElem]
  refine ⟨h1, k, hk, (nthW_get hk).symm, fun j hj => ?_⟩
  have := h2 j hj
  rw [nthW_get (by omega)] at this
  simpa using this
theorem find_none {f : Wt → Bool} {t : List Wt} (h2 : ∀ j, j < t.length → f (nthW t j) = false) : t.find? f = none := by
  rw [List.find?_eq_none]
  intro x hx
  obtain ⟨j, hj, rfl⟩ := List.mem_iff_getElem.1 hx
  have := h2 j hj
  rw [nthW_get hj] at this
  simpa using this
theorem qof_at {t : List Wt} {s : List UInt8} {k : Nat} (hk : k < t.length) (h1 : alW s (nthW t k) = true) (h2 : ∀ j, j < k → alW s (nthW t j) = false) : qof t s = some (nthW t k).2 := by
  unfold qof
  rw [find_at hk h1 h2]
  rfl
theorem qof_none {t : List Wt} {s : List UInt8} (h2 : ∀ j, j < t.length → alW s (nthW t j) = false) : qof t s = none := by
  unfold qof
  rw [find_none h2]
  rfl
theorem snoc_false {f : Nat → Bool} {k : Nat} (h : ∀ j, j < k → f j = false) (hk : f k = false) : ∀ j, j < k + 1 → f j = false := fun j hj => by
  rcases Nat.lt_succ_iff_lt_or_eq.1 hj with h' | rfl
  · exact h j h'
  · exact hk
def identL : List UInt8 := [105, 100, 101, 110, 116, 105, 116, 121]
def likC (t : List Wt) (s : List UInt8) : Int := match qof t s with
  | some q => q
  | none => match qof t [42] with
    | some q => q
    | none => if lowS (str s) = lowS (str identL) then 1 else 0
def likG (g : Bool) (t : List Wt) (s : List UInt8) : Int := if g then likC t s else 1000
/-- The first of the greatest above 0. -/
def bst (f : Nat → Int) : Nat → Int × Int
  | 0 => (-1, 0)
  | k + 1 => if (bst f k).2 < f k then ((k : Int), f k) else bst f k
theorem bst_in (f : Nat → Int) (hf : ∀ k, inI (f k)) : ∀ k, inI (bst f k).2 ∧ -1 ≤ (bst f k).1 ∧ (bst f k).1 < (k : Int) + 1
  | 0 => by unfold bst inI; omega
  | k + 1 => by
    have ih := bst_in f hf k
    unfold bst
    by_cases h : (bst f k).2 < f k
    · rw [if_pos h]
      exact ⟨hf k, by show -1 ≤ (k : Int); omega, by show (k : Int) < ((k + 1 : Nat) : Int) + 1; omega⟩
    · rw [if_neg h]
      refine ⟨ih.1, ih.2.1, ?_⟩
      have := ih.2.2
      show (bst f k).1 < ((k + 1 : Nat) : Int) + 1
      omega
theorem bst_yes {f : Nat → Int} {k : Nat} (h : (bst f k).2 < f k) : bst f (k + 1) = ((k : Int), f k) := by
  show (if (bst f k).2 < f k then ((k : Int), f k) else bst f k) = _
  rw [if_pos h]
theorem bst_no {f : Nat → Int} {k : Nat} (h : ¬ (bst f k).2 < f k) : bst f (k + 1) = bst f k := by
  show (if (bst f k).2 < f k then ((k : Int), f k) else bst f k) = _
  rw [if_neg h]

set_option maxRecDepth 100000 in
set_option maxHeartbeats 2000000 in
theorem qualityOf_any (v : Value) (t : List Wt) (s : List UInt8) (hs : s.length ≤ 1048576) (hM : EachW 1048576 t) (hl : t.length ≤ 16777216) (w : World) (hrd : RdW v t w) :
    Calls Tryd.prog 53 #[v, .string (str s)] w fun e w' => e = .returned (.tuple #[.int .i64 ((qof t s).getD 0), .bool (qof t s).isSome]) ∧ Below w.heap.size w w' := by
  have HR : Hid (RdW v t w) := hrd
  have HM : Hid (EachW 1048576 t) := hM
  obtain ⟨a, c, rfl, _⟩ := hrd
  clear hM
  go_enter Tryd.func53, Tryd.ntmps53
  go_wp2
  go_loopw [10] (fun i wr => ∃ k : Nat, k ≤ t.length ∧ i = .int .i64 k ∧ Hid (∀ j, j < k → alW s (nthW t j) = false) ∧ Hid (Below w.heap.size w wr)) (fun i _ => t.length - (intOf i).toNat)
  case atStart => exact ⟨0, Nat.zero_le _, rfl, (fun j hj => absurd hj (Nat.not_lt_zero _) : ∀ j, j < 0 → _), Below.refl _ _⟩
  case round =>
    obtain ⟨k, hk, rfl, hall, hbl⟩ := hrel
    have hsz := hbl.out.size
    by_cases hlt : k < t.length
    · obtain ⟨a', c', e', hcs⟩ := HR.out.below hbl.out
      injection e' with e1 _ e2
      subst e1 e2
      rcases hcs with h | ⟨g, o, rfl, hlc, hcell⟩
      · rw [h] at hlt; simp at hlt
      obtain ⟨p0, p1⟩ := hcell k hlt
      have hEk := HM.out.at hlt
      have hb1 : Below wr.heap.size wr (wr.alloc (.cells #[.string (str (nthW t k).1), .int .i64 (nthW t k).2] 66)) := (Below.refl _ wr).alloc (Nat.le_refl _) _
      have HB1 : Hid (Below w.heap.size w (wr.alloc (.cells #[.string (str (nthW t k).1), .int .i64 (nthW t k).2] 66))) := bel_trans hbl.out hb1
      have HC : Hid (∀ W, Calls Tryd.prog 51 #[.string (str (nthW t k).1), .string (str s)] W fun e w' => e = .returned (.bool (alW s (nthW t k))) ∧ Below (World.heap W).size W w') := fun W => Same_any _ _ (by rw [str_size]; unfold maxLen; omega) (by rw [str_size]; unfold maxLen; omega) W
      have TT : alW s (nthW t k) = true → Hid (qof t s = some (nthW t k).2) := fun h => qof_at hlt h hall.out
      have FF : alW s (nthW t k) = false → Hid (∀ j, j < k + 1 → alW s (nthW t j) = false) := fun h => snoc_false (f := fun j => alW s (nthW t j)) hall.out h
      clear hcell hb1 hEk hall
      generalize alW s (nthW t k) = b at HC TT FF
      generalize str (nthW t k).1 = N at *
      generalize (nthW t k).2 = q at *
      cases b with
      | true =>
        have tt := TT rfl
        clear TT FF
        go_wp2_with fail
        refine (HC.out _).mono ?_
        rintro e w2 ⟨rfl, hb2⟩
        have c1 : w2.cell? ⟨wr.heap.size, 1, none⟩ = some (.int .i64 q) := by rw [hb2.cell (by simp)]; simp
        have HB2 : Hid (Below w.heap.size w w2) := bel_trans HB1.out hb2
        clear hb2
        go_wp2
        go_ret2
        refine ⟨?_, HB2.out⟩
        rw [tt.out]
        rfl
      | false =>
        have ff := FF rfl
        clear TT FF
        go_wp2_with fail
        refine (HC.out _).mono ?_
        rintro e w2 ⟨rfl, hb2⟩
        have HB2 : Hid (Below w.heap.size w w2) := bel_trans HB1.out hb2
        clear hb2
        go_wp2
        go_roundw
        case rel => exact ⟨k + 1, by omega, by go_num, ff, HB2⟩
        case measure => simp [intOf]; omega
    · obtain rfl : k = t.length := by omega
      have HN : Hid (qof t s = none) := qof_none hall.out
      clear hall
      go_wp2
      go_ret2
      refine ⟨?_, hbl.out⟩
      rw [HN.out]
      rfl

set_option maxRecDepth 100000 in
set_option maxHeartbeats 2000000 in
theorem likingOfCoding_any (v : Value) (t : List Wt) (s : List UInt8) (hs : s.length ≤ 1048576) (hM : EachW 1048576 t) (hl : t.length ≤ 16777216) (w : World) (hrd : RdW v t w) :
    Calls Tryd.prog 32 #[v, .string (str s)] w fun e w' => e = .returned (.int .i64 (likC t s)) ∧ Below w.heap.size w w' := by
  have HR : Hid (RdW v t w) := hrd
  have HQ : Hid (∀ W x, x.length ≤ 1048576 → RdW v t W → Calls Tryd.prog 53 #[v, .string (str x)] W fun e w' => e = .returned (.tuple #[.int .i64 ((qof t x).getD 0), .bool (qof t x).isSome]) ∧ Below (World.heap W).size W w') := fun W x hx h => qualityOf_any v t x hx hM hl W h
  have HS : Hid (∀ W, Calls Tryd.prog 51 #[.string (str s), .string (str identL)] W fun e w' => e = .returned (.bool (decide (lowS (str s) = lowS (str identL)))) ∧ Below (World.heap W).size W w') := fun W => Same_any _ _ (by rw [str_size]; unfold maxLen; omega) (by rw [str_size]; decide) W
  obtain ⟨w1, hw1⟩ : ∃ w1, w1 = w.alloc (.cells #[.string (str s), .string (str [42])] 9) := ⟨_, rfl⟩
  have hrow : w1.heap[w.heap.size]? = some (.cells #[.string (str s), .string (str [42])] 9 (0, 0)) := by rw [hw1]; exact heap_alloc_new w _
  have HB1 : Hid (Below w.heap.size w w1) := by show Below _ _ _; rw [hw1]; exact (Below.refl _ w).alloc (Nat.le_refl _) _
  have hz1 : w.heap.size < w1.heap.size := by rw [hw1]; simp
  have c0 := Lib.cell_of_heap hrow 0
  have c1 := Lib.cell_of_heap hrow 1
  simp only [List.getElem?_toArray, List.getElem?_cons_zero, List.getElem?_cons_succ] at c0 c1
  have HC0 : Hid (w1.cell? ⟨w.heap.size, 0, none⟩ = some (.string (str s))) := c0
  have HC1 : Hid (w1.cell? ⟨w.heap.size, 1, none⟩ = some (.string (str [42]))) := c1
  clear c0 c1 hrow
  obtain ⟨a, c, rfl, _⟩ := hrd
  clear hM
  have HL : Hid (∀ x : Int, qof t s = some x → likC t s = x) := fun x h => by unfold likC; rw [h]
  have HL1 : Hid (∀ x : Int, qof t s = none → qof t [42] = some x → likC t s = x) := fun x h h' => by unfold likC; rw [h, h']
  have HL2 : Hid (qof t s = none → qof t [42] = none → likC t s = if lowS (str s) = lowS (str identL) then 1 else 0) := fun h h' => by unfold likC; rw [h, h']
  go_enter Tryd.func32, Tryd.ntmps32
  go_wp2_with fail
  rw [show (⟨#[42]⟩ : ByteArray) = str [42] from rfl, ← hw1]
  clear hw1
  go_wp2_with fail
  go_loopw [12] (fun i wr => ∃ k : Nat, k ≤ 2 ∧ i = .int .i64 k ∧ Hid (1 ≤ k → qof t s = none) ∧ Hid (2 ≤ k → qof t [42] = none) ∧ Hid (Below w1.heap.size w1 wr)) (fun i _ => 2 - (intOf i).toNat)
  case atStart => exact ⟨0, Nat.zero_le _, rfl, (fun h => absurd h (by omega) : 1 ≤ 0 → _), (fun h => absurd h (by omega) : 2 ≤ 0 → _), Below.refl _ _⟩
  case round =>
    obtain ⟨k, hk, rfl, h1, h2, hbl⟩ := hrel
    have HBw : Hid (Below w.heap.size w wr) := bel_trans HB1.out hbl.out
    rcases (by omega : k = 0 ∨ k = 1 ∨ k = 2) with rfl | rfl | rfl
    · have d0 : wr.cell? ⟨w.heap.size, 0, none⟩ = some (.string (str s)) := (hbl.out.cell (p := ⟨w.heap.size, 0, none⟩) hz1).trans HC0.out
      go_wp2_with fail
      refine (HQ.out wr s hs (HR.out.below HBw.out)).mono ?_
      rintro e w2 ⟨rfl, hb2⟩
      have HB2 : Hid (Below w1.heap.size w1 w2) := bel_trans hbl.out hb2
      have HB2w : Hid (Below w.heap.size w w2) := bel_trans HBw.out hb2
      clear hb2
      cases hq : qof t s with
      | some q =>
        have e1 : Hid (likC t s = q) := HL.out q hq
        simp only [Option.getD_some, Option.isSome_some]
        go_wp2
        go_ret
        exact ⟨by rw [e1.out]; rfl, HB2w.out⟩
      | none =>
        have e1 : Hid (qof t s = none) := hq
        clear hq
        simp only [Option.getD_none, Option.isSome_none]
        go_wp2
        go_roundw
        case rel => exact ⟨1, by omega, by go_num, (fun _ => e1.out : 1 ≤ 1 → _), (fun h => absurd h (by omega) : 2 ≤ 1 → _), HB2⟩
        case measure => simp [intOf]
    · have d0 : wr.cell? ⟨w.heap.size, 1, none⟩ = some (.string (str [42])) := (hbl.out.cell (p := ⟨w.heap.size, 1, none⟩) hz1).trans HC1.out
      have e0 := h1.out (by omega)
      have E0 : Hid (qof t s = none) := e0
      clear e0
      go_wp2_with fail
      refine (HQ.out wr [42] (by decide) (HR.out.below HBw.out)).mono ?_
      rintro e w2 ⟨rfl, hb2⟩
      have HB2 : Hid (Below w1.heap.size w1 w2) := bel_trans hbl.out hb2
      have HB2w : Hid (Below w.heap.size w w2) := bel_trans HBw.out hb2
      clear hb2
      cases hq : qof t [42] with
      | some q =>
        have e1 : Hid (likC t s = q) := HL1.out q E0.out hq
        simp only [Option.getD_some, Option.isSome_some]
        go_wp2
        go_ret
        exact ⟨by rw [e1.out]; rfl, HB2w.out⟩
      | none =>
        have e1 : Hid (qof t [42] = none) := hq
        clear hq
        simp only [Option.getD_none, Option.isSome_none]
        go_wp2
        go_roundw
        case rel => exact ⟨2, by omega, by go_num, (fun _ => E0.out : 1 ≤ 2 → _), (fun _ => e1.out : 2 ≤ 2 → _), HB2⟩
        case measure => simp [intOf]
    · have HLL : Hid (_ = _) := HL2.out (h1.out (by omega)) (h2.out (by omega))
      go_wp2_with fail
      rw [show (⟨#[105, 100, 101, 110, 116, 105, 116, 121]⟩ : ByteArray) = str identL from rfl]
      refine (HS.out wr).mono ?_
      rintro e w2 ⟨rfl, hb2⟩
      have HB2w : Hid (Below w.heap.size w w2) := bel_trans HBw.out hb2
      clear hb2
      by_cases hd : lowS (str s) = lowS (str identL)
      · have hd' : decide (lowS (str s) = lowS (str identL)) = true := decide_eq_true hd
        have HD : Hid (lowS (str s) = lowS (str identL)) := hd
        clear hd
        rw [hd']
        go_wp2
        go_ret
        exact ⟨by rw [HLL.out, if_pos HD.out]; rfl, HB2w.out⟩
      · have hd' : decide (lowS (str s) = lowS (str identL)) = false := decide_eq_false hd
        have HD : Hid (¬ lowS (str s) = lowS (str identL)) := hd
        clear hd
        rw [hd']
        go_wp2
        go_ret
        exact ⟨by rw [HLL.out, if_neg HD.out]; rfl, HB2w.out⟩

end Ac
end Go.Proofs.YtnhkkemphjblhaaDoor

/-
  The choice of a coding: the closure, best, ChooseCoding.
-/
set_option linter.unusedVariables false
set_option linter.unusedSimpArgs false
namespace Go.Proofs.YtnhkkemphjblhaaDoor
open Go.RowKit Go.Shelf
namespace Ac
open Oc Tg

theorem new1 (w : World) (v : Value) (T : TypeId) : (w.alloc (.cells #[v] T)).cell? ⟨w.heap.size, 0, none⟩ = some v := by simp
theorem past1 (w : World) (o : Obj) {p : Addr} {v : Value} (h : w.cell? p = some v) : (w.alloc o).cell? p = some v :=
  (((Below.refl _ w).alloc (Nat.le_refl _) o).cell (World.block_lt_of_cell? _ _ h)).trans h
theorem qof_in {t : List Wt} {M : Nat} (h : EachW M t) (s : List UInt8) : inI ((qof t s).getD 0) := by
  unfold qof
  cases hq : t.find? (alW s) with
  | none => show inI 0; unfold inI; omega
  | some p => exact (h p (List.mem_of_find?_eq_some hq)).2
theorem likC_in {t : List Wt} {M : Nat} (h : EachW M t) (s : List UInt8) : inI (likC t s) := by
  unfold likC
  have h1 := qof_in h s
  have h2 := qof_in h [42]
  cases hq : qof t s with
  | some q => rw [hq] at h1; exact h1
  | none =>
    cases hq2 : qof t [42] with
    | some q => rw [hq2] at h2; exact h2
    | none => show inI (if _ then _ else _); split <;> (unfold inI; omega)
theorem likG_in {t : List Wt} {M : Nat} (h : EachW M t) (g : Bool) (s : List UInt8) : inI (likG g t s) := by
  unfold likG
  split
  · exact likC_in h s
  · unfold inI; omega

set_option maxRecDepth 100000 in
set_option maxHeartbeats 2000000 in
theorem cod1_any (v u : Value) (t : List Wt) (os : List (List UInt8)) (g : Bool) (B0 B1 B2 k : Nat) (hk : k < os.length) (hos : ∀ x ∈ os, x.length ≤ 1048576) (ho : os.length ≤ 16777216) (hM : EachW 1048576 t) (hl : t.length ≤ 16777216) (w : World)
    (c0 : w.cell? ⟨B0, 0, none⟩ = some v) (c1 : w.cell? ⟨B1, 0, none⟩ = some (.bool g)) (c2 : w.cell? ⟨B2, 0, none⟩ = some u) (hv : RdW v t w) (hu : RdS u os w) :
    Calls Tryd.prog 31 #[.int .i64 (k : Int), .pointer (some ⟨B1, 0, none⟩), .pointer (some ⟨B0, 0, none⟩), .pointer (some ⟨B2, 0, none⟩)] w fun e w' => e = .returned (.int .i64 (likG g t (os.getD k []))) ∧ Below w.heap.size w w' := by
  cases g with
  | false =>
    go_enter Tryd.func31, Tryd.ntmps31
    go_wp2
    go_ret
    exact ⟨rfl, Below.refl _ _⟩
  | true =>
    have hx : (os.getD k []).length ≤ 1048576 := by
      refine hos _ ?_
      rw [List.getD_eq_getElem?_getD, List.getElem?_eq_getElem hk]
      exact List.getElem_mem hk
    have HL : Hid (likG true t (os.getD k []) = likC t (os.getD k [])) := (rfl : _ = _)
    have HC : Hid (∀ W, Below w.heap.size w W → Calls Tryd.prog 32 #[v, .string (str (os.getD k []))] W fun e w' => e = .returned (.int .i64 (likC t (os.getD k []))) ∧ Below (World.heap W).size W w') := fun W b => likingOfCoding_any v t _ hx hM hl W (hv.below b)
    obtain ⟨a, c, rfl, hu⟩ := hu
    rcases hu with h | ⟨g2, o2, rfl, hc, hcell⟩
    · rw [h] at hk; simp at hk
    have d := hcell k hk
    clear hcell hx hos hM
    have hki : (k : Int) < (os.length : Int) := by omega
    obtain ⟨av, cv, rfl, _⟩ := hv
    generalize str (os.getD k []) = X at *
    generalize likC t (os.getD k []) = Y at *
    have HBd : Hid (Below w.heap.size w w.drew) := (Below.refl _ _).drew
    have e0 : w.drew.cell? ⟨B0, 0, none⟩ = some (.slice av t.length cv) := c0
    have e2 : w.drew.cell? ⟨B2, 0, none⟩ = some (.slice (some ⟨g2, o2, none⟩) os.length c) := c2
    have ed : w.drew.cell? ⟨g2, o2 + k, none⟩ = some (.string X) := d
    go_enter Tryd.func31, Tryd.ntmps31
    go_wp2_with fail
    go_region_held3 (fun W => W.cell? ⟨B0, 0, none⟩ = some (.slice av t.length cv) ∧ W.cell? ⟨B2, 0, none⟩ = some (.slice (some ⟨g2, o2, none⟩) os.length c) ∧ W.cell? ⟨g2, o2 + k, none⟩ = some (.string X)) (first | exact ⟨e0, e2, ed⟩ | exact ⟨m0, m2, md⟩ | go_keep) (first | (go_at_call 32; refine (HC.out _ HBd.out).mono ?_; rintro e w6 ⟨rfl, hb6⟩; have m0 : w6.cell? ⟨B0, 0, none⟩ = some (.slice av t.length cv) := (hb6.cell (p := ⟨B0, 0, none⟩) (World.block_lt_of_cell? _ _ e0)).trans e0; have m2 : w6.cell? ⟨B2, 0, none⟩ = some (.slice (some ⟨g2, o2, none⟩) os.length c) := (hb6.cell (p := ⟨B2, 0, none⟩) (World.block_lt_of_cell? _ _ e2)).trans e2; have md : w6.cell? ⟨g2, o2 + k, none⟩ = some (.string X) := (hb6.cell (p := ⟨g2, o2 + k, none⟩) (World.block_lt_of_cell? _ _ ed)).trans ed; have HB7 : Hid (Below w.heap.size w w6) := bel_trans HBd.out hb6))
    go_wp2
    go_ret
    exact ⟨by rw [HL.out]; rfl, HB7.out⟩

set_option maxRecDepth 100000 in
set_option maxHeartbeats 2000000 in
theorem best_cod (n : Nat) (f : Nat → Int) (hf : ∀ k, inI (f k)) (hn : n ≤ 16777216) (B0 B1 B2 : Nat) (w : World)
    (HC : Hid (∀ (k : Nat) (W : World), k < n → Below w.heap.size w W → Calls Tryd.prog 31 #[.int .i64 (k : Int), .pointer (some ⟨B0, 0, none⟩), .pointer (some ⟨B1, 0, none⟩), .pointer (some ⟨B2, 0, none⟩)] W fun e w' => e = .returned (.int .i64 (f k)) ∧ Below (World.heap W).size W w')) :
    Calls Tryd.prog 33 #[.agg #[.int .i64 (n : Int), .func (.func 31) #[] #[.pointer (some ⟨B0, 0, none⟩), .pointer (some ⟨B1, 0, none⟩), .pointer (some ⟨B2, 0, none⟩)]]] w fun e w' => e = .returned (.int .i64 (bst f n).1) ∧ Below w.heap.size w w' := by
  obtain ⟨w1, hw1⟩ : ∃ w1, w1 = w.alloc (.cells #[.int .i64 (n : Int), .func (.func 31) #[] #[.pointer (some ⟨B0, 0, none⟩), .pointer (some ⟨B1, 0, none⟩), .pointer (some ⟨B2, 0, none⟩)]] 71) := ⟨_, rfl⟩
  have hrow : w1.heap[w.heap.size]? = some (.cells #[.int .i64 (n : Int), .func (.func 31) #[] #[.pointer (some ⟨B0, 0, none⟩), .pointer (some ⟨B1, 0, none⟩), .pointer (some ⟨B2, 0, none⟩)]] 71 (0, 0)) := by rw [hw1]; exact heap_alloc_new w _
  have HB1 : Hid (Below w.heap.size w w1) := by show Below _ _ _; rw [hw1]; exact (Below.refl _ w).alloc (Nat.le_refl _) _
  have hz1 : w.heap.size < w1.heap.size := by rw [hw1]; simp
  have c0 := Lib.cell_of_heap hrow 0
  have c1 := Lib.cell_of_heap hrow 1
  simp only [List.getElem?_toArray, List.getElem?_cons_zero, List.getElem?_cons_succ] at c0 c1
  have HC1 : Hid (w1.cell? ⟨w.heap.size, 1, none⟩ = some (.func (.func 31) #[] #[.pointer (some ⟨B0, 0, none⟩), .pointer (some ⟨B1, 0, none⟩), .pointer (some ⟨B2, 0, none⟩)])) := c1
  have HF : Hid (∀ k, inI (f k)) := hf
  clear c1 hrow hf
  go_enter Tryd.func33, Tryd.ntmps33
  go_wp2_with fail
  rw [← hw1]
  clear hw1
  go_wp2_with fail
  go_loopw [3, 4, 9] (fun b m i wr => ∃ k : Nat, k ≤ n ∧ b = .int .i64 (bst f k).1 ∧ m = .int .i64 (bst f k).2 ∧ i = .int .i64 k ∧ Hid (Below w1.heap.size w1 wr)) (fun _ _ i _ => n - (intOf i).toNat)
  case atStart => exact ⟨0, Nat.zero_le _, rfl, rfl, rfl, Below.refl _ _⟩
  case round =>
    obtain ⟨k, hk, rfl, rfl, rfl, hbl⟩ := hrel
    have HBw : Hid (Below w.heap.size w wr) := bel_trans HB1.out hbl.out
    clear c0
    by_cases hlt : k < n
    · have d1 : wr.cell? ⟨w.heap.size, 1, none⟩ = some (.func (.func 31) #[] #[.pointer (some ⟨B0, 0, none⟩), .pointer (some ⟨B1, 0, none⟩), .pointer (some ⟨B2, 0, none⟩)]) := (hbl.out.cell (p := ⟨w.heap.size, 1, none⟩) hz1).trans HC1.out
      have YY : (bst f k).2 < f k → Hid (bst f (k + 1) = ((k : Int), f k)) := fun h => bst_yes h
      have NN : f k ≤ (bst f k).2 → Hid (bst f (k + 1) = bst f k) := fun h => bst_no (Int.not_lt.2 h)
      generalize hX : f k = X at YY NN
      generalize hM : (bst f k).2 = M at *
      have HX : Hid (f k = X) := hX
      have HM : Hid ((bst f k).2 = M) := hM
      clear hX hM
      go_wp2_with fail
      refine (HC.out k wr hlt HBw.out).mono ?_
      rintro e w2 ⟨rfl, hb2⟩
      rw [HX.out]
      have HB2 : Hid (Below w1.heap.size w1 w2) := bel_trans hbl.out hb2
      clear hb2
      by_cases hq : M < X
      · have yy := YY hq
        clear YY NN
        go_wp2
        go_roundw
        case rel => exact ⟨k + 1, by omega, by rw [yy.out], by rw [yy.out], by go_num, HB2⟩
        case measure => simp [intOf]; omega
      · have nn := NN (Int.not_lt.1 hq)
        clear YY NN
        go_wp2
        go_roundw
        case rel => exact ⟨k + 1, by omega, by rw [nn.out], by rw [nn.out, HM.out], by go_num, HB2⟩
        case measure => simp [intOf]; omega
    · obtain rfl : k = n := by omega
      go_wp2
      go_ret
      exact ⟨rfl, HBw.out⟩

set_option maxRecDepth 100000 in
set_option maxHeartbeats 2000000 in
theorem ChooseCoding_any (v u : Value) (t : List Wt) (os : List (List UInt8)) (g : Bool) (hos : ∀ x ∈ os, x.length ≤ 1048576) (ho : os.length ≤ 16777216) (hM : EachW 1048576 t) (hl : t.length ≤ 16777216) (w : World) (hv : RdW v t w) (hu : RdS u os w) :
    Calls Tryd.prog 15 #[v, .bool g, u] w fun e w' => e = .returned (.int .i64 (bst (fun k => likG g t (os.getD k [])) os.length).1) ∧ Below w.heap.size w w' := by
  obtain ⟨w3, hw3⟩ : ∃ w3, w3 = ((w.alloc (.cells #[v] 39)).alloc (.cells #[.bool g] 4)).alloc (.cells #[u] 40) := ⟨_, rfl⟩
  have hb3 : Below w.heap.size w w3 := by rw [hw3]; exact (((Below.refl _ w).alloc (Nat.le_refl _) _).alloc (by simp) _).alloc (by simp; omega) _
  have c0 : w3.cell? ⟨w.heap.size, 0, none⟩ = some v := by rw [hw3]; exact past1 _ _ (past1 _ _ (new1 w v _))
  have c1 : w3.cell? ⟨w.heap.size + 1, 0, none⟩ = some (.bool g) := by rw [hw3]; have h := new1 (w.alloc (.cells #[v] 39)) (.bool g) 4; rw [World.size_alloc] at h; exact past1 _ _ h
  have c2 : w3.cell? ⟨w.heap.size + 1 + 1, 0, none⟩ = some u := by rw [hw3]; have h := new1 ((w.alloc (.cells #[v] 39)).alloc (.cells #[.bool g] 4)) u 40; rw [World.size_alloc, World.size_alloc] at h; exact h
  have HB : Hid (Calls Tryd.prog 33 #[.agg #[.int .i64 (os.length : Int), .func (.func 31) #[] #[.pointer (some ⟨w.heap.size + 1, 0, none⟩), .pointer (some ⟨w.heap.size, 0, none⟩), .pointer (some ⟨w.heap.size + 1 + 1, 0, none⟩)]]] w3 fun e w' => e = .returned (.int .i64 (bst (fun k => likG g t (os.getD k [])) os.length).1) ∧ Below w3.heap.size w3 w') :=
    best_cod os.length (fun k => likG g t (os.getD k [])) (fun k => likG_in hM g _) ho (w.heap.size + 1) w.heap.size (w.heap.size + 1 + 1) w3 (fun k W hk b => cod1_any v u t os g w.heap.size (w.heap.size + 1) (w.heap.size + 1 + 1) k hk hos ho hM hl W ((b.cell (World.block_lt_of_cell? _ _ c0)).trans c0) ((b.cell (World.block_lt_of_cell? _ _ c1)).trans c1) ((b.cell (World.block_lt_of_cell? _ _ c2)).trans c2) (hv.below (bel_trans hb3 b)) (hu.below (bel_trans hb3 b)))
  have HB3 : Hid (Below w.heap.size w w3) := hb3
  obtain ⟨a, c, rfl, _⟩ := hu
  obtain ⟨av, cv, rfl, _⟩ := hv
  generalize (bst (fun k => likG g t (os.getD k [])) os.length).1 = R at *
  clear hos hM hb3
  subst hw3
  go_enter Tryd.func15, Tryd.ntmps15
  go_wp2_with fail
  refine HB.out.mono ?_
  rintro e w2 ⟨rfl, hb2⟩
  have HB2 : Hid (Below w.heap.size w w2) := bel_trans HB3.out hb2
  clear hb2
  go_wp2
  go_ret
  exact ⟨rfl, HB2.out⟩

end Ac
end Go.Proofs.YtnhkkemphjblhaaDoor

/-
  Slices of numbers of the call's own; the document's first.
-/
set_option linter.unusedVariables false
set_option linter.unusedSimpArgs false
namespace Go.Proofs.YtnhkkemphjblhaaDoor
open Go.RowKit Go.Shelf
namespace Ac
open Oc Tg

def encI (l : List Int) : List Value := l.map fun x => Value.int .i64 x
/-- A slice of numbers of the call's own. -/
def OwnI (B : Nat) (v : Value) (l : List Int) (w : World) : Prop := w.ownsRow B 3 1 v l.length (encI l)
theorem ownI_empty {B : Nat} (w : World) (hB : B ≤ w.heap.size) : OwnI B (.slice (some ⟨w.heap.size, 0, none⟩) 0 0) [] (w.alloc (.cells #[] 3)) :=
  ⟨by simp [encI], .inr ⟨w.heap.size, 0, #[], rfl, hB, heap_alloc_new w _, by simp, by decide, by simp, by simp [encI]⟩⟩
theorem infoI : (Tryd.prog.info? 3).map (fun i => (i.zero, i.size, i.bytes)) = some (some (.int .i64 0), 1, 8) := by kernel_rfl

theorem wp_appI {ops : Array Oper} {rest : List Oper} {o : Oper} {a : Act} {Q : Exit → Act → World → Prop} (hgd : o.guard = none) (s x : Operand)
    (ho : o.op = .call { callee := .builtin .append, args := #[s, x], argTypes := #[73, 73] }) (B : Nat) (v : Value) (l : List Int) (W : World) (y : Int)
    (hs : a.eval s = v) (hown : OwnI B v l W) (g : Nat) (hx : a.eval x = .slice (some ⟨g, 0, none⟩) 1 1) (hg : g = W.heap.size) (hlen : l.length + 1 ≤ 2147483648) (hB : B ≤ W.heap.size)
    (h : ∀ v' w', OwnI B v' (l ++ [y]) w' → Below B W w' → wpList Tryd.prog ops Q rest (a.put o.dst v') w') : wpList Tryd.prog ops Q (o :: rest) a (W.alloc (.cells #[.int .i64 y] 3)) := by
  subst hg
  obtain ⟨i0, hi, hz0, hz1, hz2⟩ := info_parts infoI
  refine wpList_append_own _ hgd s x 73 ho B 3 i0 (.int .i64 0) 1 8 Tryd.underlying73 hi hz0 hz1 hz2 rfl (by decide) v l.length _ hs (World.ownsRow.alloc hown _) ⟨W.heap.size, 0, none⟩ 1 1 [.int .i64 y] hx rfl ?_ ?_ ?_ ?_ ?_ ?_
  · intro j u hj
    match j, hj with
    | 0, hj => simp at hj; subst hj; simp [Addr.add]
  · intro u hu
    simp at hu
    subst hu
    rfl
  · unfold maxLen; omega
  · omega
  · simp; omega
  · intro v' w' h1 h2 _
    refine h v' w' ?_ (((Below.refl B W).alloc hB _).grown h2 (by simp; omega) (fun k hk => (World.ownsRow.lt hown k hk).1))
    unfold OwnI encI
    rw [List.map_append, List.length_append]
    exact h1

/-- A slice that reads as these numbers. -/
def RdI (v : Value) (l : List Int) (w : World) : Prop :=
  ∃ a c, v = .slice a l.length c ∧ (l = [] ∨ ∃ g o, a = some ⟨g, o, none⟩ ∧ l.length ≤ c ∧ ∀ j, j < l.length → w.cell? ⟨g, o + j, none⟩ = some (.int .i64 (l.getD j 0)))
theorem OwnI.rd {B : Nat} {v : Value} {l : List Int} {w : World} (h : OwnI B v l w) : RdI v l w := by
  have hall := h
  rcases h.2 with ⟨rfl, h0⟩ | ⟨g, cap, cur, rfl, hb, hg, hc, _⟩
  · exact ⟨none, 0, by rw [h0], .inl (List.length_eq_zero_iff.1 h0)⟩
  · refine ⟨some ⟨g, 0, none⟩, cap, rfl, .inr ⟨g, 0, rfl, by omega, fun j hj => ?_⟩⟩
    have := World.ownsRow.cells hall (g := g) rfl j (.int .i64 (l.getD j 0)) (by unfold encI; rw [List.getElem?_map, List.getD_eq_getElem?_getD, List.getElem?_eq_getElem hj]; rfl)
    rw [Nat.zero_add]
    have ea : Addr.add ⟨g, 0, none⟩ j = ⟨g, j, none⟩ := by unfold Addr.add; split <;> simp_all
    rw [ea] at this
    exact this
theorem RdI.below {v : Value} {l : List Int} {w w' : World} (h : RdI v l w) (b : Below w.heap.size w w') : RdI v l w' := by
  obtain ⟨a, c, rfl, h⟩ := h
  refine ⟨a, c, rfl, ?_⟩
  rcases h with h | ⟨g, o, e, hc, hcell⟩
  · exact .inl h
  · refine .inr ⟨g, o, e, hc, fun j hj => ?_⟩
    have h1 := hcell j hj
    rw [b.cell (p := ⟨g, o + j, none⟩) (World.block_lt_of_cell? w _ h1)]
    exact h1
theorem OwnI.below {B : Nat} {v : Value} {l : List Int} {w w' : World} (h : OwnI B v l w) (b : Below w.heap.size w w') : OwnI B v l w' := by
  refine ⟨h.1, ?_⟩
  rcases h.2 with hn | ⟨g, cap, cur, rfl, hb, hg, rest⟩
  · exact .inl hn
  · exact .inr ⟨g, cap, cur, rfl, hb, (b.block g (Array.getElem?_eq_some_iff.1 hg).1).trans hg, rest⟩

set_option maxRecDepth 100000 in
set_option maxHeartbeats 2000000 in
theorem rfirst_any (v : Value) (l : List Int) (hl : l.length ≤ 16777216) (w : World) (hr : RdI v l w) :
    Calls Tryd.prog 35 #[v] w fun e w' => e = .returned (.int .i64 (bst (fun k => l.getD k 0) l.length).1) ∧ Below w.heap.size w w' := by
  obtain ⟨a, c, rfl, hr⟩ := hr
  obtain ⟨f, hf⟩ : ∃ f : Nat → Int, f = fun k => l.getD k 0 := ⟨_, rfl⟩
  have HR : Hid (l = [] ∨ ∃ g o, a = some ⟨g, o, none⟩ ∧ l.length ≤ c ∧ ∀ j, j < l.length → w.cell? ⟨g, o + j, none⟩ = some (.int .i64 (f j))) := (by rw [hf]; exact hr : _ ∨ _)
  rw [← hf]
  clear hr hf
  go_enter Tryd.func35, Tryd.ntmps35
  go_wp2
  go_loopw [3, 4, 5] (fun b m i wr => ∃ k n : Nat, k ≤ l.length ∧ b = .int .i64 (bst f k).1 ∧ m = .int .i64 (bst f k).2 ∧ i = .int .i64 k ∧ wr = w.drewN n) (fun _ _ i _ => l.length - (intOf i).toNat)
  case atStart => exact ⟨0, 0, Nat.zero_le _, rfl, rfl, rfl, rfl⟩
  case round =>
    obtain ⟨k, n, hk, rfl, rfl, rfl, rfl⟩ := hrel
    by_cases hlt : k < l.length
    · rcases HR.out with h | ⟨g, o, rfl, hc, hcell⟩
      · rw [h] at hlt; simp at hlt
      have d := hcell k hlt
      clear hcell
      have YY : (bst f k).2 < f k → Hid (bst f (k + 1) = ((k : Int), f k)) := fun h => bst_yes h
      have NN : f k ≤ (bst f k).2 → Hid (bst f (k + 1) = bst f k) := fun h => bst_no (Int.not_lt.2 h)
      generalize f k = X at d YY NN
      generalize hM : (bst f k).2 = M at *
      have HM : Hid ((bst f k).2 = M) := hM
      clear hM
      by_cases hq : M < X
      · have yy := YY hq
        clear YY NN
        go_wp2_with fail
        go_quiet (fail)
        go_wp2
        go_roundw
        case rel => exact ⟨k + 1, n + nq, by omega, by rw [yy.out], by rw [yy.out], by go_num, rfl⟩
        case measure => simp [intOf]; omega
      · have nn := NN (Int.not_lt.1 hq)
        clear YY NN
        go_wp2
        go_roundw
        case rel => exact ⟨k + 1, n, by omega, by rw [nn.out], by rw [nn.out, HM.out], by go_num, rfl⟩
        case measure => simp [intOf]; omega
    · obtain rfl : k = l.length := by omega
      go_wp2
      go_ret
      exact ⟨rfl, below_drewN (Below.refl _ _) _⟩

end Ac
end Go.Proofs.YtnhkkemphjblhaaDoor
