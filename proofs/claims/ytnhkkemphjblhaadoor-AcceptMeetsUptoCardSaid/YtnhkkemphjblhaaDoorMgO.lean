/- Several texts as one. -/
import Derived.Test.YtnhkkemphjblhaaDoorMgN
import Derived.Test.YtnhkkemphjblhaaDoorMgC
import Derived.Test.YtnhkkemphjblhaaDoorMgH
import Derived.BigQuiet
import Derived.Deep.QuietTactic
import Derived.Deep.RegionHeld3
import Derived.Laws.EntriesVeiled
import Derived.Laws.AppendOwn
import Derived.Test.YtnhkkemphjblhaaDoorMgB
/-
  The choice of a coding: qualityOf, likingOfCoding, best, ChooseCoding; the document's.
-/
set_option linter.unusedVariables false
set_option linter.unusedSimpArgs false
namespace Go.Proofs.YtnhkkemphjblhaaDoor
open Go.RowKit Go.Shelf
namespace Ac
open Oc Tg

/-- Is the word this one, without regard to case? -/
def alW (s : List UInt8) (p : Wt) : Bool := decide (lowS (str p.1) = lowS (str s))
def qof (t : List Wt) (s : List UInt8) : Option Int := (t.find? (alW s)).map Prod.snd
theorem nthW_get {t : List Wt} {k : Nat} (hk : k < t.length) : nthW t k = t[k] := by
  unfold nthW
  rw [List.getD_eq_getElem?_getD, List.getElem?_eq_getElem hk]
  rfl
theorem find_at {f : Wt → Bool} {t : List Wt} {k : Nat} (hk : k < t.length) (h1 : f (nthW t k) = true) (h2 : ∀ j, j < k → f (nthW t j) = false) : t.find? f = some (nthW t k) := by
  rw [List.find?_eq_some_iff_getElem]
  refine ⟨h1, k, hk, (nthW_get hk).symm, fun j hj => ?_⟩
  have := h2 j hj
  rw [nthW_get (by omega)] at this
  simpa using this
theorem find_none {f : Wt → Bool} {t : List Wt} (h2 : ∀ j, j < t.length → f (nthW t j) = false) : t.find? f = none := by
  rw [List.find?_eq_none]
  intro x hx
  obtain ⟨j, hj, rfl⟩ := List.mem_iff_getElem.1 hx
  have := h2 j hj
  rw [nthW_get hj] at this
  simpa using this
theorem qof_at {t : List Wt} {s : List UInt8} {k : Nat} (hk : k < t.length) (h1 : alW s (nthW t k) = true) (h2 : ∀ j, j < k → alW s (nthW t j) = false) : qof t s = some (nthW t k).2 := by
  unfold qof
  rw [find_at hk h1 h2]
  rfl
theorem qof_none {t : List Wt} {s : List UInt8} (h2 : ∀ j, j < t.length → alW s (nthW t j) = false) : qof t s = none := by
  unfold qof
  rw [find_none h2]
  rfl
theorem snoc_false {f : Nat → Bool} {k : Nat} (h : ∀ j, j < k → f j = false) (hk : f k = false) : ∀ j, j < k + 1 → f j = false := fun j hj => by
  rcases Nat.lt_succ_iff_lt_or_eq.1 hj with h' | rfl
  · exact h j h'
  · exact hk
def identL : List UInt8 := [105, 100, 101, 110, 116, 105, 116, 121]
def likC (t : List Wt) (s : List UInt8) : Int := match qof t s with
  | some q => q
  | none => match qof t [42] with
    | some q => q
    | none => if lowS (str s) = lowS (str identL) then 1 else 0
def likG (g : Bool) (t : List Wt) (s : List UInt8) : Int := if g then likC t s else 1000
/-- The first of the greatest above 0. -/
def bst (f : Nat → Int) : Nat → Int × Int
  | 0 => (-1, 0)
  | k + 1 => if (bst f k).2 < f k then ((k : Int), f k) else bst f k
theorem bst_in (f : Nat → Int) (hf : ∀ k, inI (f k)) : ∀ k, inI (bst f k).2 ∧ -1 ≤ (bst f k).1 ∧ (bst f k).1 < (k : Int) + 1
  | 0 => by unfold bst inI; omega
  | k + 1 => by
    have ih := bst_in f hf k
    unfold bst
    by_cases h : (bst f k).2 < f k
    · rw [if_pos h]
      exact ⟨hf k, by show -1 ≤ (k : Int); omega, by show (k : Int) < ((k + 1 : Nat) : Int) + 1; omega⟩
    · rw [if_neg h]
      refine ⟨ih.1, ih.2.1, ?_⟩
      have := ih.2.2
      show (bst f k).1 < ((k + 1 : Nat) : Int) + 1
      omega
theorem bst_yes {f : Nat → Int} {k : Nat} (h : (bst f k).2 < f k) : bst f (k + 1) = ((k : Int), f k) := by
  show (if (bst f k).2 < f k then ((k : Int), f k) else bst f k) = _
  rw [if_pos h]
theorem bst_no {f : Nat → Int} {k : Nat} (h : ¬ (bst f k).2 < f k) : bst f (k + 1) = bst f k := by
  show (if (bst f k).2 < f k then ((k : Int), f k) else bst f k) = _
  rw [if_neg h]

set_option maxRecDepth 100000 in
set_option maxHeartbeats 2000000 in
theorem qualityOf_any (v : Value) (t : List Wt) (s : List UInt8) (hs : s.length ≤ 1048576) (hM : EachW 1048576 t) (hl : t.length ≤ 16777216) (w : World) (hrd : RdW v t w) :
    Calls Tryd.prog 53 #[v, .string (str s)] w fun e w' => e = .returned (.tuple #[.int .i64 ((qof t s).getD 0), .bool (qof t s).isSome]) ∧ Below w.heap.size w w' := by
  have HR : Hid (RdW v t w) := hrd
  have HM : Hid (EachW 1048576 t) := hM
  obtain ⟨a, c, rfl, _⟩ := hrd
  clear hM
  go_enter Tryd.func53, Tryd.ntmps53
  go_wp2
  go_loopw [10] (fun i wr => ∃ k : Nat, k ≤ t.length ∧ i = .int .i64 k ∧ Hid (∀ j, j < k → alW s (nthW t j) = false) ∧ Hid (Below w.heap.size w wr)) (fun i _ => t.length - (intOf i).toNat)
  case atStart => exact ⟨0, Nat.zero_le _, rfl, (fun j hj => absurd hj (Nat.not_lt_zero _) : ∀ j, j < 0 → _), Below.refl _ _⟩
  case round =>
    obtain ⟨k, hk, rfl, hall, hbl⟩ := hrel
    have hsz := hbl.out.size
    by_cases hlt : k < t.length
    · obtain ⟨a', c', e', hcs⟩ := HR.out.below hbl.out
      injection e' with e1 _ e2
      subst e1 e2
      rcases hcs with h | ⟨g, o, rfl, hlc, hcell⟩
      · rw [h] at hlt; simp at hlt
      obtain ⟨p0, p1⟩ := hcell k hlt
      have hEk := HM.out.at hlt
      have hb1 : Below wr.heap.size wr (wr.alloc (.cells #[.string (str (nthW t k).1), .int .i64 (nthW t k).2] 66)) := (Below.refl _ wr).alloc (Nat.le_refl _) _
      have HB1 : Hid (Below w.heap.size w (wr.alloc (.cells #[.string (str (nthW t k).1), .int .i64 (nthW t k).2] 66))) := bel_trans hbl.out hb1
      have HC : Hid (∀ W, Calls Tryd.prog 51 #[.string (str (nthW t k).1), .string (str s)] W fun e w' => e = .returned (.bool (alW s (nthW t k))) ∧ Below (World.heap W).size W w') := fun W => Same_any _ _ (by rw [str_size]; unfold maxLen; omega) (by rw [str_size]; unfold maxLen; omega) W
      have TT : alW s (nthW t k) = true → Hid (qof t s = some (nthW t k).2) := fun h => qof_at hlt h hall.out
      have FF : alW s (nthW t k) = false → Hid (∀ j, j < k + 1 → alW s (nthW t j) = false) := fun h => snoc_false (f := fun j => alW s (nthW t j)) hall.out h
      clear hcell hb1 hEk hall
      generalize alW s (nthW t k) = b at HC TT FF
      generalize str (nthW t k).1 = N at *
      generalize (nthW t k).2 = q at *
      cases b with
      | true =>
        have tt := TT rfl
        clear TT FF
        go_wp2_with fail
        refine (HC.out _).mono ?_
        rintro e w2 ⟨rfl, hb2⟩
        have c1 : w2.cell? ⟨wr.heap.size, 1, none⟩ = some (.int .i64 q) := by rw [hb2.cell (by simp)]; simp
        have HB2 : Hid (Below w.heap.size w w2) := bel_trans HB1.out hb2
        clear hb2
        go_wp2
        go_ret2
        refine ⟨?_, HB2.out⟩
        rw [tt.out]
        rfl
      | false =>
        have ff := FF rfl
        clear TT FF
        go_wp2_with fail
        refine (HC.out _).mono ?_
        rintro e w2 ⟨rfl, hb2⟩
        have HB2 : Hid (Below w.heap.size w w2) := bel_trans HB1.out hb2
        clear hb2
        go_wp2
        go_roundw
        case rel => exact ⟨k + 1, by omega, by go_num, ff, HB2⟩
        case measure => simp [intOf]; omega
    · obtain rfl : k = t.length := by omega
      have HN : Hid (qof t s = none) := qof_none hall.out
      clear hall
      go_wp2
      go_ret2
      refine ⟨?_, hbl.out⟩
      rw [HN.out]
      rfl

set_option maxRecDepth 100000 in
set_option maxHeartbeats 2000000 in
theorem likingOfCoding_any (v : Value) (t : List Wt) (s : List UInt8) (hs : s.length ≤ 1048576) (hM : EachW 1048576 t) (hl : t.length ≤ 16777216) (w : World) (hrd : RdW v t w) :
    Calls Tryd.prog 32 #[v, .string (str s)] w fun e w' => e = .returned (.int .i64 (likC t s)) ∧ Below w.heap.size w w' := by
  have HR : Hid (RdW v t w) := hrd
  have HQ : Hid (∀ W x, x.length ≤ 1048576 → RdW v t W → Calls Tryd.prog 53 #[v, .string (str x)] W fun e w' => e = .returned (.tuple #[.int .i64 ((qof t x).getD 0), .bool (qof t x).isSome]) ∧ Below (World.heap W).size W w') := fun W x hx h => qualityOf_any v t x hx hM hl W h
  have HS : Hid (∀ W, Calls Tryd.prog 51 #[.string (str s), .string (str identL)] W fun e w' => e = .returned (.bool (decide (lowS (str s) = lowS (str identL)))) ∧ Below (World.heap W).size W w') := fun W => Same_any _ _ (by rw [str_size]; unfold maxLen; omega) (by rw [str_size]; decide) W
  obtain ⟨w1, hw1⟩ : ∃ w1, w1 = w.alloc (.cells #[.string (str s), .string (str [42])] 9) := ⟨_, rfl⟩
  have hrow : w1.heap[w.heap.size]? = some (.cells #[.string (str s), .string (str [42])] 9 (0, 0)) := by rw [hw1]; exact heap_alloc_new w _
  have HB1 : Hid (Below w.heap.size w w1) := by show Below _ _ _; rw [hw1]; exact (Below.refl _ w).alloc (Nat.le_refl _) _
  have hz1 : w.heap.size < w1.heap.size := by rw [hw1]; simp
  have c0 := Lib.cell_of_heap hrow 0
  have c1 := Lib.cell_of_heap hrow 1
  simp only [List.getElem?_toArray, List.getElem?_cons_zero, List.getElem?_cons_succ] at c0 c1
  have HC0 : Hid (w1.cell? ⟨w.heap.size, 0, none⟩ = some (.string (str s))) := c0
  have HC1 : Hid (w1.cell? ⟨w.heap.size, 1, none⟩ = some (.string (str [42]))) := c1
  clear c0 c1 hrow
  obtain ⟨a, c, rfl, _⟩ := hrd
  clear hM
  have HL : Hid (∀ x : Int, qof t s = some x → likC t s = x) := fun x h => by unfold likC; rw [h]
  have HL1 : Hid (∀ x : Int, qof t s = none → qof t [42] = some x → likC t s = x) := fun x h h' => by unfold likC; rw [h, h']
  have HL2 : Hid (qof t s = none → qof t [42] = none → likC t s = if lowS (str s) = lowS (str identL) then 1 else 0) := fun h h' => by unfold likC; rw [h, h']
  go_enter Tryd.func32, Tryd.ntmps32
  go_wp2_with fail
  rw [show (⟨#[42]⟩ : ByteArray) = str [42] from rfl, ← hw1]
  clear hw1
  go_wp2_with fail
  go_loopw [12] (fun i wr => ∃ k : Nat, k ≤ 2 ∧ i = .int .i64 k ∧ Hid (1 ≤ k → qof t s = none) ∧ Hid (2 ≤ k → qof t [42] = none) ∧ Hid (Below w1.heap.size w1 wr)) (fun i _ => 2 - (intOf i).toNat)
  case atStart => exact ⟨0, Nat.zero_le _, rfl, (fun h => absurd h (by omega) : 1 ≤ 0 → _), (fun h => absurd h (by omega) : 2 ≤ 0 → _), Below.refl _ _⟩
  case round =>
    obtain ⟨k, hk, rfl, h1, h2, hbl⟩ := hrel
    have HBw : Hid (Below w.heap.size w wr) := bel_trans HB1.out hbl.out
    rcases (by omega : k = 0 ∨ k = 1 ∨ k = 2) with rfl | rfl | rfl
    · have d0 : wr.cell? ⟨w.heap.size, 0, none⟩ = some (.string (str s)) := (hbl.out.cell (p := ⟨w.heap.size, 0, none⟩) hz1).trans HC0.out
      go_wp2_with fail
      refine (HQ.out wr s hs (HR.out.below HBw.out)).mono ?_
      rintro e w2 ⟨rfl, hb2⟩
      have HB2 : Hid (Below w1.heap.size w1 w2) := bel_trans hbl.out hb2
      have HB2w : Hid (Below w.heap.size w w2) := bel_trans HBw.out hb2
      clear hb2
      cases hq : qof t s with
      | some q =>
        have e1 : Hid (likC t s = q) := HL.out q hq
        simp only [Option.getD_some, Option.isSome_some]
        go_wp2
        go_ret
        exact ⟨by rw [e1.out]; rfl, HB2w.out⟩
      | none =>
        have e1 : Hid (qof t s = none) := hq
        clear hq
        simp only [Option.getD_none, Option.isSome_none]
        go_wp2
        go_roundw
        case rel => exact ⟨1, by omega, by go_num, (fun _ => e1.out : 1 ≤ 1 → _), (fun h => absurd h (by omega) : 2 ≤ 1 → _), HB2⟩
        case measure => simp [intOf]
    · have d0 : wr.cell? ⟨w.heap.size, 1, none⟩ = some (.string (str [42])) := (hbl.out.cell (p := ⟨w.heap.size, 1, none⟩) hz1).trans HC1.out
      have e0 := h1.out (by omega)
      have E0 : Hid (qof t s = none) := e0
      clear e0
      go_wp2_with fail
      refine (HQ.out wr [42] (by decide) (HR.out.below HBw.out)).mono ?_
      rintro e w2 ⟨rfl, hb2⟩
      have HB2 : Hid (Below w1.heap.size w1 w2) := bel_trans hbl.out hb2
      have HB2w : Hid (Below w.heap.size w w2) := bel_trans HBw.out hb2
      clear hb2
      cases hq : qof t [42] with
      | some q =>
        have e1 : Hid (likC t s = q) := HL1.out q E0.out hq
        simp only [Option.getD_some, Option.isSome_some]
        go_wp2
        go_ret
        exact ⟨by rw [e1.out]; rfl, HB2w.out⟩
      | none =>
        have e1 : Hid (qof t [42] = none) := hq
        clear hq
        simp only [Option.getD_none, Option.isSome_none]
        go_wp2
        go_roundw
        case rel => exact ⟨2, by omega, by go_num, (fun _ => E0.out : 1 ≤ 2 → _), (fun _ => e1.out : 2 ≤ 2 → _), HB2⟩
        case measure => simp [intOf]
    · have HLL : Hid (_ = _) := HL2.out (h1.out (by omega)) (h2.out (by omega))
      go_wp2_with fail
      rw [show (⟨#[105, 100, 101, 110, 116, 105, 116, 121]⟩ : ByteArray) = str identL from rfl]
      refine (HS.out wr).mono ?_
      rintro e w2 ⟨rfl, hb2⟩
      have HB2w : Hid (Below w.heap.size w w2) := bel_trans HBw.out hb2
      clear hb2
      by_cases hd : lowS (str s) = lowS (str identL)
      · have hd' : decide (lowS (str s) = lowS (str identL)) = true := decide_eq_true hd
        have HD : Hid (lowS (str s) = lowS (str identL)) := hd
        clear hd
        rw [hd']
        go_wp2
        go_ret
        exact ⟨by rw [HLL.out, if_pos HD.out]; rfl, HB2w.out⟩
      · have hd' : decide (lowS (str s) = lowS (str identL)) = false := decide_eq_false hd
        have HD : Hid (¬ lowS (str s) = lowS (str identL)) := hd
        clear hd
        rw [hd']
        go_wp2
        go_ret
        exact ⟨by rw [HLL.out, if_neg HD.out]; rfl, HB2w.out⟩

end Ac
end Go.Proofs.YtnhkkemphjblhaaDoor

/-
  Slices of numbers of the call's own; the document's first.
-/
set_option linter.unusedVariables false
set_option linter.unusedSimpArgs false
namespace Go.Proofs.YtnhkkemphjblhaaDoor
open Go.RowKit Go.Shelf
namespace Ac
open Oc Tg

def encI (l : List Int) : List Value := l.map fun x => Value.int .i64 x
/-- A slice of numbers of the call's own. -/
def OwnI (B : Nat) (v : Value) (l : List Int) (w : World) : Prop := w.ownsRow B 3 1 v l.length (encI l)
theorem ownI_empty {B : Nat} (w : World) (hB : B ≤ w.heap.size) : OwnI B (.slice (some ⟨w.heap.size, 0, none⟩) 0 0) [] (w.alloc (.cells #[] 3)) :=
  ⟨by simp [encI], .inr ⟨w.heap.size, 0, #[], rfl, hB, heap_alloc_new w _, by simp, by decide, by simp, by simp [encI]⟩⟩
theorem infoI : (Tryd.prog.info? 3).map (fun i => (i.zero, i.size, i.bytes)) = some (some (.int .i64 0), 1, 8) := by kernel_rfl

theorem wp_appI {ops : Array Oper} {rest : List Oper} {o : Oper} {a : Act} {Q : Exit → Act → World → Prop} (hgd : o.guard = none) (s x : Operand)
    (ho : o.op = .call { callee := .builtin .append, args := #[s, x], argTypes := #[73, 73] }) (B : Nat) (v : Value) (l : List Int) (W : World) (y : Int)
    (hs : a.eval s = v) (hown : OwnI B v l W) (g : Nat) (hx : a.eval x = .slice (some ⟨g, 0, none⟩) 1 1) (hg : g = W.heap.size) (hlen : l.length + 1 ≤ 2147483648) (hB : B ≤ W.heap.size)
    (h : ∀ v' w', OwnI B v' (l ++ [y]) w' → Below B W w' → wpList Tryd.prog ops Q rest (a.put o.dst v') w') : wpList Tryd.prog ops Q (o :: rest) a (W.alloc (.cells #[.int .i64 y] 3)) := by
  subst hg
  obtain ⟨i0, hi, hz0, hz1, hz2⟩ := info_parts infoI
  refine wpList_append_own _ hgd s x 73 ho B 3 i0 (.int .i64 0) 1 8 Tryd.underlying73 hi hz0 hz1 hz2 rfl (by decide) v l.length _ hs (World.ownsRow.alloc hown _) ⟨W.heap.size, 0, none⟩ 1 1 [.int .i64 y] hx rfl ?_ ?_ ?_ ?_ ?_ ?_
  · intro j u hj
    match j, hj with
    | 0, hj => simp at hj; subst hj; simp [Addr.add]
  · intro u hu
    simp at hu
    subst hu
    rfl
  · unfold maxLen; omega
  · omega
  · simp; omega
  · intro v' w' h1 h2 _
    refine h v' w' ?_ (((Below.refl B W).alloc hB _).grown h2 (by simp; omega) (fun k hk => (World.ownsRow.lt hown k hk).1))
    unfold OwnI encI
    rw [List.map_append, List.length_append]
    exact h1

/-- A slice that reads as these numbers. -/
def RdI (v : Value) (l : List Int) (w : World) : Prop :=
  ∃ a c, v = .slice a l.length c ∧ (l = [] ∨ ∃ g o, a = some ⟨g, o, none⟩ ∧ l.length ≤ c ∧ ∀ j, j < l.length → w.cell? ⟨g, o + j, none⟩ = some (.int .i64 (l.getD j 0)))
theorem OwnI.rd {B : Nat} {v : Value} {l : List Int} {w : World} (h : OwnI B v l w) : RdI v l w := by
  have hall := h
  rcases h.2 with ⟨rfl, h0⟩ | ⟨g, cap, cur, rfl, hb, hg, hc, _⟩
  · exact ⟨none, 0, by rw [h0], .inl (List.length_eq_zero_iff.1 h0)⟩
  · refine ⟨some ⟨g, 0, none⟩, cap, rfl, .inr ⟨g, 0, rfl, by omega, fun j hj => ?_⟩⟩
    have := World.ownsRow.cells hall (g := g) rfl j (.int .i64 (l.getD j 0)) (by unfold encI; rw [List.getElem?_map, List.getD_eq_getElem?_getD, List.getElem?_eq_getElem hj]; rfl)
    rw [Nat.zero_add]
    have ea : Addr.add ⟨g, 0, none⟩ j = ⟨g, j, none⟩ := by unfold Addr.add; split <;> simp_all
    rw [ea] at this
    exact this
theorem RdI.below {v : Value} {l : List Int} {w w' : World} (h : RdI v l w) (b : Below w.heap.size w w') : RdI v l w' := by
  obtain ⟨a, c, rfl, h⟩ := h
  refine ⟨a, c, rfl, ?_⟩
  rcases h with h | ⟨g, o, e, hc, hcell⟩
  · exact .inl h
  · refine .inr ⟨g, o, e, hc, fun j hj => ?_⟩
    have h1 := hcell j hj
    rw [b.cell (p := ⟨g, o + j, none⟩) (World.block_lt_of_cell? w _ h1)]
    exact h1
theorem OwnI.below {B : Nat} {v : Value} {l : List Int} {w w' : World} (h : OwnI B v l w) (b : Below w.heap.size w w') : OwnI B v l w' := by
  refine ⟨h.1, ?_⟩
  rcases h.2 with hn | ⟨g, cap, cur, rfl, hb, hg, rest⟩
  · exact .inl hn
  · exact .inr ⟨g, cap, cur, rfl, hb, (b.block g (Array.getElem?_eq_some_iff.1 hg).1).trans hg, rest⟩

set_option maxRecDepth 100000 in
set_option maxHeartbeats 2000000 in
theorem rfirst_any (v : Value) (l : List Int) (hl : l.length ≤ 16777216) (w : World) (hr : RdI v l w) :
    Calls Tryd.prog 35 #[v] w fun e w' => e = .returned (.int .i64 (bst (fun k => l.getD k 0) l.length).1) ∧ Below w.heap.size w w' := by
  obtain ⟨a, c, rfl, hr⟩ := hr
  obtain ⟨f, hf⟩ : ∃ f : Nat → Int, f = fun k => l.getD k 0 := ⟨_, rfl⟩
  have HR : Hid (l = [] ∨ ∃ g o, a = some ⟨g, o, none⟩ ∧ l.length ≤ c ∧ ∀ j, j < l.length → w.cell? ⟨g, o + j, none⟩ = some (.int .i64 (f j))) := (by rw [hf]; exact hr : _ ∨ _)
  rw [← hf]
  clear hr hf
  go_enter Tryd.func35, Tryd.ntmps35
  go_wp2
  go_loopw [3, 4, 5] (fun b m i wr => ∃ k n : Nat, k ≤ l.length ∧ b = .int .i64 (bst f k).1 ∧ m = .int .i64 (bst f k).2 ∧ i = .int .i64 k ∧ wr = w.drewN n) (fun _ _ i _ => l.length - (intOf i).toNat)
  case atStart => exact ⟨0, 0, Nat.zero_le _, rfl, rfl, rfl, rfl⟩
  case round =>
    obtain ⟨k, n, hk, rfl, rfl, rfl, rfl⟩ := hrel
    by_cases hlt : k < l.length
    · rcases HR.out with h | ⟨g, o, rfl, hc, hcell⟩
      · rw [h] at hlt; simp at hlt
      have d := hcell k hlt
      clear hcell
      have YY : (bst f k).2 < f k → Hid (bst f (k + 1) = ((k : Int), f k)) := fun h => bst_yes h
      have NN : f k ≤ (bst f k).2 → Hid (bst f (k + 1) = bst f k) := fun h => bst_no (Int.not_lt.2 h)
      generalize f k = X at d YY NN
      generalize hM : (bst f k).2 = M at *
      have HM : Hid ((bst f k).2 = M) := hM
      clear hM
      by_cases hq : M < X
      · have yy := YY hq
        clear YY NN
        go_wp2_with fail
        go_quiet (fail)
        go_wp2
        go_roundw
        case rel => exact ⟨k + 1, n + nq, by omega, by rw [yy.out], by rw [yy.out], by go_num, rfl⟩
        case measure => simp [intOf]; omega
      · have nn := NN (Int.not_lt.1 hq)
        clear YY NN
        go_wp2
        go_roundw
        case rel => exact ⟨k + 1, n, by omega, by rw [nn.out], by rw [nn.out, HM.out], by go_num, rfl⟩
        case measure => simp [intOf]; omega
    · obtain rfl : k = l.length := by omega
      go_wp2
      go_ret
      exact ⟨rfl, below_drewN (Below.refl _ _) _⟩

end Ac
end Go.Proofs.YtnhkkemphjblhaaDoor

/-
  The document's choice of a coding; AcceptCodings.
-/
set_option linter.unusedVariables false
set_option linter.unusedSimpArgs false
namespace Go.Proofs.YtnhkkemphjblhaaDoor
open Go.RowKit Go.Shelf
namespace Ac
open Oc Tg

theorem lowI_star (c : Int) (h : lowI c = 42) : c = 42 := by unfold lowI at h; (repeat' split at h) <;> omega
theorem low_star {x : List UInt8} (h : lowS (str x) = lowS (str [42])) : x = [42] := by
  unfold lowS at h
  have h := str_inj h
  rw [str_list, str_list] at h
  have hl := congrArg List.length h
  simp only [lower, List.length_map, List.length_singleton] at hl
  match x, hl with
  | [c], _ =>
    have h1 : lowB c = lowB 42 := by simpa [lower] using h
    have h2 := lowB_int c
    rw [h1, lowB_int] at h2
    have h3 : lowI ((42 : UInt8).toNat : Int) = 42 := by decide
    rw [h3] at h2
    have h4 := lowI_star _ h2.symm
    have h5 : c.toNat = 42 := by omega
    congr 1
    exact UInt8.toNat_inj.1 h5
theorem al_star (p : Wt) : alW [42] p = ((str p.1).toList == [42]) := by
  have e : ((str p.1).toList == [42]) = decide (str p.1 = str [42]) := by
    rw [← eq_toList, show (str [42]).toList = [42] by decide +kernel]
  rw [e]
  unfold alW
  rw [Bool.eq_iff_iff, decide_eq_true_iff, decide_eq_true_iff]
  exact ⟨fun h => by rw [low_star h], fun h => by rw [h]⟩

set_option maxRecDepth 100000 in
set_option maxHeartbeats 4000000 in
theorem rCodingLiking_any (v : Value) (t : List Wt) (g : Bool) (s : List UInt8) (hs : s.length ≤ 1048576) (hM : EachW 1048576 t) (hl : t.length ≤ 16777216) (w : World) (hrd : RdW v t w) :
    Calls Tryd.prog 34 #[v, .bool g, .string (str s)] w fun e w' => e = .returned (.int .i64 (likG g t s)) ∧ Below w.heap.size w w' := by
  have HR : Hid (RdW v t w) := hrd
  have HM : Hid (EachW 1048576 t) := hM
  have HS : Hid (∀ W, Calls Tryd.prog 30 #[.string (str s), .string (str identL)] W fun e w' => e = .returned (.bool (decide (lowS (str s) = lowS (str identL)))) ∧ Below (World.heap W).size W w') := fun W => rSame_any _ _ (by rw [str_size]; unfold maxLen; omega) (by rw [str_size]; decide) W
  have HL : Hid (∀ x : Int, qof t s = some x → likC t s = x) := fun x h => by unfold likC; rw [h]
  have HL1 : Hid (∀ x : Int, qof t s = none → qof t [42] = some x → likC t s = x) := fun x h h' => by unfold likC; rw [h, h']
  have HL2 : Hid (qof t s = none → qof t [42] = none → likC t s = if lowS (str s) = lowS (str identL) then 1 else 0) := fun h h' => by unfold likC; rw [h, h']
  obtain ⟨a, c, rfl, _⟩ := hrd
  clear hM
  cases g with
  | false =>
    go_enter Tryd.func34, Tryd.ntmps34
    go_wp2
    go_ret
    exact ⟨rfl, Below.refl _ _⟩
  | true =>
    have HG : Hid (likG true t s = likC t s) := (rfl : _ = _)
    go_enter Tryd.func34, Tryd.ntmps34
    go_wp2
    go_loopw [7] (fun i wr => ∃ k : Nat, k ≤ t.length ∧ i = .int .i64 k ∧ Hid (∀ j, j < k → alW s (nthW t j) = false) ∧ Hid (Below w.heap.size w wr)) (fun i _ => t.length - (intOf i).toNat)
    case atStart => exact ⟨0, Nat.zero_le _, rfl, (fun j hj => absurd hj (Nat.not_lt_zero _) : ∀ j, j < 0 → _), Below.refl _ _⟩
    case round =>
      obtain ⟨k, hk, rfl, hall, hbl⟩ := hrel
      have hsz := hbl.out.size
      by_cases hlt : k < t.length
      · obtain ⟨a', c', e', hcs⟩ := HR.out.below hbl.out
        injection e' with e1 _ e2
        subst e1 e2
        rcases hcs with h | ⟨g, o, rfl, hlc, hcell⟩
        · rw [h] at hlt; simp at hlt
        obtain ⟨p0, p1⟩ := hcell k hlt
        have hEk := HM.out.at hlt
        have HC : Hid (∀ W, Calls Tryd.prog 30 #[.string (str (nthW t k).1), .string (str s)] W fun e w' => e = .returned (.bool (alW s (nthW t k))) ∧ Below (World.heap W).size W w') := fun W => rSame_any _ _ (by rw [str_size]; unfold maxLen; omega) (by rw [str_size]; unfold maxLen; omega) W
        have TT : alW s (nthW t k) = true → Hid (likC t s = (nthW t k).2) := fun h => HL.out _ (qof_at hlt h hall.out)
        have FF : alW s (nthW t k) = false → Hid (∀ j, j < k + 1 → alW s (nthW t j) = false) := fun h => snoc_false (f := fun j => alW s (nthW t j)) hall.out h
        clear hcell hEk hall
        generalize alW s (nthW t k) = b at HC TT FF
        generalize str (nthW t k).1 = N at *
        generalize (nthW t k).2 = q at *
        cases b with
        | true =>
          have tt := TT rfl
          clear TT FF
          go_wp2_with fail
          refine (HC.out _).mono ?_
          rintro e w2 ⟨rfl, hb2⟩
          have c1 : w2.cell? ⟨g, o + k * 2 + 1, none⟩ = some (.int .i64 q) := (hb2.cell (p := ⟨g, o + k * 2 + 1, none⟩) (World.block_lt_of_cell? _ _ p1)).trans p1
          have HB2 : Hid (Below w.heap.size w w2) := bel_trans hbl.out hb2
          clear hb2
          go_wp2
          go_ret
          refine ⟨?_, HB2.out⟩
          rw [HG.out, tt.out]
          rfl
        | false =>
          have ff := FF rfl
          clear TT FF
          go_wp2_with fail
          refine (HC.out _).mono ?_
          rintro e w2 ⟨rfl, hb2⟩
          have HB2 : Hid (Below w.heap.size w w2) := bel_trans hbl.out hb2
          clear hb2
          go_wp2
          go_roundw
          case rel => exact ⟨k + 1, by omega, by go_num, ff, HB2⟩
          case measure => simp [intOf]; omega
      · obtain rfl : k = t.length := by omega
        have HN : Hid (qof t s = none) := qof_none hall.out
        clear hall
        obtain ⟨wo, rfl⟩ : ∃ wo, wo = wr := ⟨_, rfl⟩
        go_wp2
        go_loopw [8] (fun i wr => ∃ k : Nat, k ≤ t.length ∧ i = .int .i64 k ∧ Hid (∀ j, j < k → alW [42] (nthW t j) = false) ∧ wr = wo) (fun i _ => t.length - (intOf i).toNat)
        case atStart => exact ⟨0, Nat.zero_le _, rfl, (fun j hj => absurd hj (Nat.not_lt_zero _) : ∀ j, j < 0 → _), rfl⟩
        case round =>
          obtain ⟨k, hk, rfl, hall, rfl⟩ := hrel
          by_cases hlt : k < t.length
          · obtain ⟨a', c', e', hcs⟩ := HR.out.below hbl.out
            injection e' with e1 _ e2
            subst e1 e2
            rcases hcs with h | ⟨g, o, rfl, hlc, hcell⟩
            · rw [h] at hlt; simp at hlt
            obtain ⟨p0, p1⟩ := hcell k hlt
            have TT : alW [42] (nthW t k) = true → Hid (likC t s = (nthW t k).2) := fun h => HL1.out _ HN.out (qof_at hlt h hall.out)
            have FF : alW [42] (nthW t k) = false → Hid (∀ j, j < k + 1 → alW [42] (nthW t j) = false) := fun h => snoc_false (f := fun j => alW [42] (nthW t j)) hall.out h
            rw [al_star] at TT FF
            clear hcell hall
            generalize str (nthW t k).1 = N at *
            generalize (nthW t k).2 = q at *
            cases hb : (N.toList == [42]) with
            | true =>
              have tt := TT hb
              clear TT FF
              go_wp2
              go_ret
              refine ⟨?_, hbl.out⟩
              rw [HG.out, tt.out]
              rfl
            | false =>
              have ff := FF hb
              clear TT FF
              go_wp2
              go_roundw
              case rel => exact ⟨k + 1, by omega, by go_num, ff, by simp⟩
              case measure => simp [intOf]; omega
          · obtain rfl : k = t.length := by omega
            have HLL : Hid (likC t s = if lowS (str s) = lowS (str identL) then 1 else 0) := HL2.out HN.out (qof_none hall.out)
            clear hall
            go_wp2_with fail
            rw [show (⟨#[105, 100, 101, 110, 116, 105, 116, 121]⟩ : ByteArray) = str identL from rfl]
            refine (HS.out _).mono ?_
            rintro e w2 ⟨rfl, hb2⟩
            have HB2w : Hid (Below w.heap.size w w2) := bel_trans hbl.out hb2
            clear hb2
            by_cases hd : lowS (str s) = lowS (str identL)
            · have hd' : decide (lowS (str s) = lowS (str identL)) = true := decide_eq_true hd
              have HD : Hid (lowS (str s) = lowS (str identL)) := hd
              clear hd
              rw [hd']
              go_wp2
              go_ret
              exact ⟨by rw [HG.out, HLL.out, if_pos HD.out]; rfl, HB2w.out⟩
            · have hd' : decide (lowS (str s) = lowS (str identL)) = false := decide_eq_false hd
              have HD : Hid (¬ lowS (str s) = lowS (str identL)) := hd
              clear hd
              rw [hd']
              go_wp2
              go_ret
              exact ⟨by rw [HG.out, HLL.out, if_neg HD.out]; rfl, HB2w.out⟩

theorem qs_take {os : List (List UInt8)} (f : List UInt8 → Int) {k : Nat} (h : k < os.length) : (os.take (k + 1)).map f = (os.take k).map f ++ [f (os.getD k [])] := by
  rw [List.take_add_one, List.getElem?_eq_getElem h, List.map_append, List.getD_eq_getElem?_getD, List.getElem?_eq_getElem h]
  rfl
theorem bst_map (os : List (List UInt8)) (f : List UInt8 → Int) : ∀ k, k ≤ os.length → bst (fun j => (os.map f).getD j 0) k = bst (fun j => f (os.getD j [])) k
  | 0, _ => rfl
  | k + 1, h => by
    have ih := bst_map os f k (by omega)
    have e : (os.map f).getD k 0 = f (os.getD k []) := by
      rw [List.getD_eq_getElem?_getD, List.getElem?_map, List.getElem?_eq_getElem (by omega), List.getD_eq_getElem?_getD, List.getElem?_eq_getElem (by omega)]
      rfl
    show (if (bst _ k).2 < (os.map f).getD k 0 then ((k : Int), (os.map f).getD k 0) else bst _ k) = _
    rw [ih, e]
    rfl

set_option maxRecDepth 100000 in
set_option maxHeartbeats 4000000 in
theorem rChooseCoding_any (v u : Value) (t : List Wt) (os : List (List UInt8)) (g : Bool) (hos : ∀ x ∈ os, x.length ≤ 1048576) (ho : os.length ≤ 16777216) (hM : EachW 1048576 t) (hl : t.length ≤ 16777216) (w : World) (hv : RdW v t w) (hu : RdS u os w) :
    Calls Tryd.prog 16 #[v, .bool g, u] w fun e w' => e = .returned (.int .i64 (bst (fun k => likG g t (os.getD k [])) os.length).1) ∧ Below w.heap.size w w' := by
  have HV : Hid (RdW v t w) := hv
  have HU : Hid (RdS u os w) := hu
  have HC : Hid (∀ W x, x ∈ os → Below w.heap.size w W → Calls Tryd.prog 34 #[v, .bool g, .string (str x)] W fun e w' => e = .returned (.int .i64 (likG g t x)) ∧ Below (World.heap W).size W w') := fun W x hx b => rCodingLiking_any v t g x (hos x hx) hM hl W (hv.below b)
  have HE : Hid (bst (fun j => (os.map (likG g t)).getD j 0) os.length = bst (fun k => likG g t (os.getD k [])) os.length) := bst_map os (likG g t) os.length (Nat.le_refl _)
  obtain ⟨a, c, rfl, _⟩ := hu
  obtain ⟨av, cv, rfl, _⟩ := hv
  clear hos hM
  go_enter Tryd.func16, Tryd.ntmps16
  go_wp2
  go_loopw [7, 8] (fun ov i wr => ∃ k : Nat, k ≤ os.length ∧ i = .int .i64 k ∧ Hid (OwnI w.heap.size ov ((os.take k).map (likG g t)) wr) ∧ Hid (Below w.heap.size w wr)) (fun _ i _ => os.length - (intOf i).toNat)
  case atStart => exact ⟨0, Nat.zero_le _, rfl, ownI_empty w (Nat.le_refl _), (Below.refl _ w).alloc (Nat.le_refl _) _⟩
  case round =>
    obtain ⟨k, hk, rfl, hown, hbl⟩ := hrel
    have hsz := hbl.out.size
    by_cases hlt : k < os.length
    · obtain ⟨a', c', e', hcs⟩ := HU.out.below hbl.out
      injection e' with e1 _ e2
      subst e1 e2
      rcases hcs with h | ⟨g2, o2, rfl, hlc, hcell⟩
      · rw [h] at hlt; simp at hlt
      have d := hcell k hlt
      have hin : os.getD k [] ∈ os := by
        rw [List.getD_eq_getElem?_getD, List.getElem?_eq_getElem hlt]
        exact List.getElem_mem hlt
      have HK := HC.out wr _ hin hbl.out
      have HK' : Hid (Calls _ _ _ _ _) := HK
      have HT : Hid (_ = _) := qs_take (likG g t) hlt
      have hlk : ((os.take k).map (likG g t)).length + 1 ≤ 2147483648 := by rw [List.length_map, List.length_take]; omega
      clear hcell hin HK
      generalize likG g t (os.getD k []) = Y at *
      generalize str (os.getD k []) = X at *
      go_wp2_with fail
      refine HK'.out.mono ?_
      rintro e w2 ⟨rfl, hb2⟩
      have HO2 : Hid (OwnI w.heap.size _ ((os.take k).map (likG g t)) w2) := hown.out.below hb2
      have HB2 : Hid (Below w.heap.size w w2) := bel_trans hbl.out hb2
      have hs2 : w.heap.size ≤ w2.heap.size := HB2.out.size
      clear hb2 hown
      go_wp2_with (at_builtin; go_must (refine wp_appI rfl (.tmp 16) (.tmp 24) rfl w.heap.size _ ((os.take k).map (likG g t)) _ Y rfl HO2.out _ rfl (by simp) hlk hs2 ?_); intro v6 w6 hown6 hb6)
      have HO6 : Hid (OwnI w.heap.size v6 ((os.take (k + 1)).map (likG g t)) w6) := (by rw [HT.out]; exact hown6 : OwnI _ v6 _ w6)
      have HB6 : Hid (Below w.heap.size w w6) := HB2.out.trans hb6
      clear hown6 hb6
      go_roundw
      case rel => exact ⟨k + 1, by omega, by go_num, HO6, HB6⟩
      case measure => simp [intOf]; omega
    · obtain rfl : k = os.length := by omega
      rw [List.take_length] at hown
      have HF := rfirst_any _ _ (by rw [List.length_map]; exact ho) wr hown.out.rd
      rw [List.length_map] at HF
      have HF' : Hid (Calls _ _ _ _ _) := HF
      clear HF
      have HV2 : Hid ((bst (fun k => likG g t (os.getD k [])) os.length).1 = (bst (fun j => (os.map (likG g t)).getD j 0) os.length).1) := (by rw [HE.out] : _ = _)
      generalize (bst (fun j => (os.map (likG g t)).getD j 0) os.length).1 = V at HF' HV2
      go_wp2_with fail
      refine HF'.out.mono ?_
      rintro e w2 ⟨rfl, hb2⟩
      have HB2 : Hid (Below w.heap.size w w2) := bel_trans hbl.out hb2
      clear hb2
      go_wp2
      go_ret
      exact ⟨by rw [HV2.out]; rfl, HB2.out⟩

end Ac
end Go.Proofs.YtnhkkemphjblhaaDoor
