/- Several texts as one. -/
import Derived.Test.YthfckgdaencagaaGreatDoorMgS
import Derived.ChangeSlices
import Derived.ChangeOld
import Derived.Deep.RegionHeld3
import Derived.Deep.RegionWith
/-
  A slice of media ranges that came in; a slice of media types.
-/
set_option linter.unusedVariables false
set_option linter.unusedSimpArgs false
namespace Go.Proofs.YthfckgdaencagaaGreatDoor
open Go.ChangeShapes Go.WideShapes Go.RowKit
namespace Ac
open Oc

/-- (At this seat no range comes in: nothing is asked of a quality or of an empty slice.) -/
def inZ (_ : Int) : Prop := True
def NilP (_ : Value) (_ : List Prm) : Prop := True
theorem cellsI3r : Tryz.prog.cellsOf 3 = 1 := by kernel_rfl
theorem cellsRg : Tryz.prog.cellsOf 48 = 4 := by kernel_rfl
/-- A media type; a range. -/
structure Md where
  ty : ByteArray
  sub : ByteArray
  ps : List Prm
structure Rng where
  md : Md
  q : Int
def md0 : Md := ⟨⟨#[]⟩, ⟨#[]⟩, []⟩
def rg0 : Rng := ⟨md0, 0⟩
def nthR (t : List Rng) (j : Nat) : Rng := t.getD j rg0
def nthM (t : List Md) (j : Nat) : Md := t.getD j md0
/-- The cells of a media type lie from there on. -/
def RdMd (W : World) (g o : Nat) (m : Md) : Prop := W.cell? ⟨g, o, none⟩ = some (.string m.ty) ∧ W.cell? ⟨g, o + 1, none⟩ = some (.string m.sub) ∧ ∃ u, W.cell? ⟨g, o + 2, none⟩ = some u ∧ RdP u m.ps W ∧ NilP u m.ps
def RdRg (v : Value) (t : List Rng) (W : World) : Prop := ∃ a c, v = .slice a t.length c ∧ (t = [] ∨ ∃ g o, a = some ⟨g, o, none⟩ ∧ t.length ≤ c ∧ ∀ j, j < t.length → (RdMd W g (o + j * 4) (nthR t j).md ∧ W.cell? ⟨g, o + j * 4 + 3, none⟩ = some (.int .i64 (nthR t j).q)) ∧ inZ (nthR t j).q)
def RdMs (v : Value) (t : List Md) (W : World) : Prop := ∃ a c, v = .slice a t.length c ∧ (t = [] ∨ ∃ g o, a = some ⟨g, o, none⟩ ∧ t.length ≤ c ∧ ∀ j, j < t.length → RdMd W g (o + j * 3) (nthM t j))
def szM (m : Md) : Nat := m.ty.size + m.sub.size + bulkparams m.ps
def bulkM (t : List Md) : Nat := (t.map szM).sum
def bulkR (t : List Rng) : Nat := (t.map fun r => szM r.md).sum


end Ac
end Go.Proofs.YthfckgdaencagaaGreatDoor

/-
  The greater of two kinds of narrowness.
-/
set_option maxRecDepth 100000
set_option linter.unusedVariables false
set_option linter.unusedSimpArgs false
namespace Go.Proofs.YthfckgdaencagaaGreatDoor
open Go.RowKit Go.Shelf
namespace Ac
open Oc Tg

def cmpZ (x y : Int) : Int := if x < y then -1 else if y < x then 1 else 0
theorem cmpZ_eq {x y : Int} (h : x = y) : cmpZ x y = 0 := by unfold cmpZ; subst h; simp
theorem cmpZ_lt {x y : Int} (h : x < y) : cmpZ x y = -1 := by unfold cmpZ; rw [if_pos h]
theorem cmpZ_gt {x y : Int} (h : y < x) : cmpZ x y = 1 := by unfold cmpZ; rw [if_neg (by omega), if_pos h]
theorem cmpZ_ne {x y : Int} (h : x ≠ y) : cmpZ x y ≠ 0 := by
  rcases Int.lt_or_gt_of_ne h with h | h
  · rw [cmpZ_lt h]; decide
  · rw [cmpZ_gt h]; decide

theorem isNaN_i (x : Int) (w : World) : Calls Tryz.prog 104 #[.int .i64 x] w fun e w' => e = .returned (.bool false) ∧ w' = w := by
  go_enter Tryz.func104, Tryz.ntmps104
  go_wp2
  go_ret
  exact ⟨by simp, rfl⟩

theorem cmpC_any (x y : Int) (w : World) : Calls Tryz.prog 91 #[.int .i64 x, .int .i64 y] w fun e w' => e = .returned (.int .i64 (cmpZ x y)) ∧ w' = w := by
  have HN : Hid (∀ (z : Int) W, Calls Tryz.prog 104 #[.int .i64 z] W fun e w' => e = .returned (.bool false) ∧ w' = W) := fun z W => isNaN_i z W
  rcases Int.lt_trichotomy x y with h | h | h
  · rw [cmpZ_lt h]
    go_enter Tryz.func91, Tryz.ntmps91
    go_wp2_with fail
    refine (HN.out _ _).mono ?_
    rintro e w1 ⟨rfl, rfl⟩
    go_wp2_with fail
    refine (HN.out _ _).mono ?_
    rintro e w1 ⟨rfl, rfl⟩
    go_wp2
    go_ret
    exact ⟨rfl, rfl⟩
  · subst h
    rw [cmpZ_eq rfl]
    go_enter Tryz.func91, Tryz.ntmps91
    go_wp2_with fail
    refine (HN.out _ _).mono ?_
    rintro e w1 ⟨rfl, rfl⟩
    go_wp2_with fail
    refine (HN.out _ _).mono ?_
    rintro e w1 ⟨rfl, rfl⟩
    go_wp2
    go_ret
    exact ⟨rfl, rfl⟩
  · rw [cmpZ_gt h]
    have h2 : ¬ x < y := by omega
    go_enter Tryz.func91, Tryz.ntmps91
    go_wp2_with fail
    refine (HN.out _ _).mono ?_
    rintro e w1 ⟨rfl, rfl⟩
    go_wp2_with fail
    refine (HN.out _ _).mono ?_
    rintro e w1 ⟨rfl, rfl⟩
    go_wp2
    go_ret
    exact ⟨rfl, rfl⟩

/-- Three numbers against three. -/
def cm3 (f g : Nat → Int) : Int := if f 0 ≠ g 0 then cmpZ (f 0) (g 0) else if f 1 ≠ g 1 then cmpZ (f 1) (g 1) else cmpZ (f 2) (g 2)
theorem cm3_no {f g : Nat → Int} {k : Nat} (hk : k < 3) (h : ∀ j, j < k → f j = g j) (hn : f k ≠ g k) : cm3 f g = cmpZ (f k) (g k) := by
  unfold cm3
  match k, hk with
  | 0, _ => rw [if_pos hn]
  | 1, _ => rw [if_neg (by simpa using h 0 (by omega)), if_pos hn]
  | 2, _ => rw [if_neg (by simpa using h 0 (by omega)), if_neg (by simpa using h 1 (by omega))]
theorem cm3_yes {f g : Nat → Int} (h : ∀ j, j < 3 → f j = g j) : cm3 f g = 0 := by
  unfold cm3
  rw [if_neg (by simpa using h 0 (by omega)), if_neg (by simpa using h 1 (by omega)), cmpZ_eq (h 2 (by omega))]

set_option maxHeartbeats 1000000 in
theorem Compare3_any (f g : Nat → Int) (p q o o2 : Nat) (w : World) (hp : ∀ j, j < 3 → w.cell? ⟨p, o + j, none⟩ = some (.int .i64 (f j))) (hq : ∀ j, j < 3 → w.cell? ⟨q, o2 + j, none⟩ = some (.int .i64 (g j))) :
    Calls Tryz.prog 73 #[.slice (some ⟨p, o, none⟩) 3 3, .slice (some ⟨q, o2, none⟩) 3 3] w fun e w' => e = .returned (.int .i64 (cm3 f g)) ∧ w' = w := by
  have HN : Hid (∀ k, k < 3 → (∀ j, j < k → f j = g j) → f k ≠ g k → cm3 f g = cmpZ (f k) (g k)) := fun k hk h hn => cm3_no hk h hn
  have HY : Hid ((∀ j, j < 3 → f j = g j) → cm3 f g = 0) := fun h => cm3_yes h
  have HC : Hid (∀ (x y : Int) W, Calls Tryz.prog 91 #[.int .i64 x, .int .i64 y] W fun e w' => e = .returned (.int .i64 (cmpZ x y)) ∧ w' = W) := fun x y W => cmpC_any x y W
  have HP : Hid (∀ j, j < 3 → w.cell? ⟨p, o + j, none⟩ = some (.int .i64 (f j))) := hp
  have HQ : Hid (∀ j, j < 3 → w.cell? ⟨q, o2 + j, none⟩ = some (.int .i64 (g j))) := hq
  clear hp hq
  generalize cm3 f g = V at *
  go_enter Tryz.func73, Tryz.ntmps73
  go_wp2
  go_loopw [11] (fun i wr => ∃ k : Nat, k ≤ 3 ∧ i = .int .i64 k ∧ wr = w ∧ Hid (∀ j, j < k → f j = g j)) (fun i _ => 3 - (intOf i).toNat)
  case atStart => exact ⟨0, Nat.zero_le _, rfl, rfl, fun j hj => absurd hj (Nat.not_lt_zero j)⟩
  case round =>
    obtain ⟨k, hk, rfl, rfl, hall⟩ := hrel
    by_cases hlt : k < 3
    · have d1 := HP.out k hlt
      have d2 := HQ.out k hlt
      have hki : (k : Int) < 3 := by omega
      have hki2 : ¬ (3 : Int) ≤ (k : Int) := by omega
      by_cases hc : f k = g k
      · have HE : Hid (∀ j, j < k + 1 → f j = g j) := fun j hj => by
          rcases Nat.lt_or_ge j k with h | h
          · exact hall.out j h
          · obtain rfl : j = k := by omega
            exact hc
        have HZ : Hid (cmpZ (f k) (g k) = 0) := cmpZ_eq hc
        clear hc
        generalize f k = X at *
        generalize g k = Y at *
        go_wp2_with fail
        refine (HC.out _ _ _).mono ?_
        rintro e w1 ⟨rfl, rfl⟩
        rw [HZ.out]
        go_wp2
        go_roundw
        case rel => exact ⟨k + 1, by omega, by go_num, by first | rfl | trivial, HE⟩
        case measure => simp [intOf]; omega
      · have HV1 : Hid (V = cmpZ (f k) (g k)) := HN.out k hlt hall.out hc
        have hn := cmpZ_ne hc
        clear hc
        generalize f k = X at *
        generalize g k = Y at *
        generalize hC : cmpZ X Y = C at HV1 hn
        have HZ : Hid (cmpZ X Y = C) := hC
        clear hC
        go_wp2_with fail
        refine (HC.out _ _ _).mono ?_
        rintro e w1 ⟨rfl, rfl⟩
        rw [HZ.out]
        go_wp2
        go_ret
        exact ⟨by rw [HV1.out]; rfl, rfl⟩
    · obtain rfl : k = 3 := by omega
      have hv := HY.out hall.out
      subst hv
      go_wp2
      go_ret
      exact ⟨rfl, rfl⟩

def sel3 (a b c : Int) (j : Nat) : Int := if j = 0 then a else if j = 1 then b else c
/-- The greater of two rows of three numbers. -/
def gr3 (x y : Int × Int × Int) : Int × Int × Int := if cm3 (sel3 x.1 x.2.1 x.2.2) (sel3 y.1 y.2.1 y.2.2) < 0 then y else x
def ag3 (x : Int × Int × Int) : Value := .agg #[.int .i64 x.1, .int .i64 x.2.1, .int .i64 x.2.2]

theorem cells3_of {W : World} {p : Nat} {a b c : Int} {T : TypeId} (h : W.heap[p]? = some (.cells #[.int .i64 a, .int .i64 b, .int .i64 c] T (0, 0))) : ∀ j, j < 3 → W.cell? ⟨p, 0 + j, none⟩ = some (.int .i64 (sel3 a b c j)) := by
  intro j hj
  match j, hj with
  | 0, _ => simp [World.cell?, h, sel3]
  | 1, _ => simp [World.cell?, h, sel3]
  | 2, _ => simp [World.cell?, h, sel3]
theorem set3g {W : World} {p : Nat} {x y z a b c : Value} {T : TypeId} (h : W.heap[p]? = some (.cells #[x, y, z] T (0, 0))) :
    (((W.setCell ⟨p, 0, none⟩ a).setCell ⟨p, 1, none⟩ b).setCell ⟨p, 2, none⟩ c).heap[p]? = some (.cells #[a, b, c] T (0, 0)) := by
  have h1 := heap_setCell_same W p 0 #[x, y, z] T a h
  have h2 := heap_setCell_same _ p 1 _ T b h1
  have h3 := heap_setCell_same _ p 2 _ T c h2
  simpa using h3
theorem set3c {W : World} {p : Nat} {x y z a b c : Value} {T : TypeId} (h : W.heap[p]? = some (.cells #[x, y, z] T (0, 0))) :
    ((((W.setCell ⟨p, 0, none⟩ a).setCell ⟨p, 1, none⟩ b).setCell ⟨p, 2, none⟩ c).cell? ⟨p, 0, none⟩ = some a ∧ (((W.setCell ⟨p, 0, none⟩ a).setCell ⟨p, 1, none⟩ b).setCell ⟨p, 2, none⟩ c).cell? ⟨p, 1, none⟩ = some b ∧ (((W.setCell ⟨p, 0, none⟩ a).setCell ⟨p, 1, none⟩ b).setCell ⟨p, 2, none⟩ c).cell? ⟨p, 2, none⟩ = some c) := by
  have h3 := set3g (a := a) (b := b) (c := c) h
  refine ⟨?_, ?_, ?_⟩ <;> (simp only [World.cell?, h3]; rfl)

set_option maxHeartbeats 2000000 in
theorem greater_any (x y : Int × Int × Int) (w : World) : Calls Tryz.prog 45 #[ag3 x, ag3 y] w fun e w' => e = .returned (ag3 (gr3 x y)) ∧ Below w.heap.size w w' := by
  obtain ⟨a0, a1, a2⟩ := x
  obtain ⟨b0, b1, b2⟩ := y
  obtain ⟨w2, hw2⟩ : ∃ w2, w2 = ((w.alloc (.cells #[.int .i64 a0, .int .i64 a1, .int .i64 a2] 98)).alloc (.cells #[.int .i64 b0, .int .i64 b1, .int .i64 b2] 98)).alloc (.cells #[.int .i64 0, .int .i64 0, .int .i64 0] 98) := ⟨_, rfl⟩
  have R1 : w2.heap[w.heap.size]? = some (.cells #[.int .i64 a0, .int .i64 a1, .int .i64 a2] 98 (0, 0)) := by
    rw [hw2, Below.heap_alloc _ _ _ (by simp; omega), Below.heap_alloc _ _ _ (by simp)]
    exact heap_alloc_new w _
  have R2 : w2.heap[w.heap.size + 1]? = some (.cells #[.int .i64 b0, .int .i64 b1, .int .i64 b2] 98 (0, 0)) := by
    rw [hw2, Below.heap_alloc _ _ _ (by simp)]
    have := heap_alloc_new (w.alloc (.cells #[.int .i64 a0, .int .i64 a1, .int .i64 a2] 98)) (.cells #[.int .i64 b0, .int .i64 b1, .int .i64 b2] 98)
    rwa [World.size_alloc] at this
  have R3 : w2.heap[w.heap.size + 1 + 1]? = some (.cells #[.int .i64 0, .int .i64 0, .int .i64 0] 98 (0, 0)) := by
    rw [hw2]
    have := heap_alloc_new ((w.alloc (.cells #[.int .i64 a0, .int .i64 a1, .int .i64 a2] 98)).alloc (.cells #[.int .i64 b0, .int .i64 b1, .int .i64 b2] 98)) (.cells #[.int .i64 0, .int .i64 0, .int .i64 0] 98)
    rwa [World.size_alloc, World.size_alloc] at this
  have HB : Hid (Below w.heap.size w w2) := (by rw [hw2]; exact (((Below.refl _ w).alloc (Nat.le_refl _) _).alloc (by simp) _).alloc (by simp; omega) _ : Below _ _ _)
  have HC : Hid (∀ W, W = w2 ∨ W = w2.drew → Calls Tryz.prog 73 #[.slice (some ⟨w.heap.size, 0, none⟩) 3 3, .slice (some ⟨w.heap.size + 1, 0, none⟩) 3 3] W fun e w' => e = .returned (.int .i64 (cm3 (sel3 a0 a1 a2) (sel3 b0 b1 b2))) ∧ w' = W) := fun W hW => by
    refine Compare3_any _ _ _ _ 0 0 W ?_ ?_
    · rcases hW with rfl | rfl
      · exact cells3_of R1
      · exact cells3_of (W := w2) R1
    · rcases hW with rfl | rfl
      · exact cells3_of R2
      · exact cells3_of (W := w2) R2
  have e0 := Lib.cell_of_heap R1 0
  have e1 := Lib.cell_of_heap R1 1
  have e2 := Lib.cell_of_heap R1 2
  have g0 := Lib.cell_of_heap R2 0
  have g1 := Lib.cell_of_heap R2 1
  have g2 := Lib.cell_of_heap R2 2
  have f0 : w2.frozen? ⟨w.heap.size + 1 + 1, 0, none⟩ = false := by simp [World.frozen?, R3]
  have f1 : w2.frozen? ⟨w.heap.size + 1 + 1, 1, none⟩ = false := by simp [World.frozen?, R3]
  have f2 : w2.frozen? ⟨w.heap.size + 1 + 1, 2, none⟩ = false := by simp [World.frozen?, R3]
  have k0 := Lib.cell_of_heap R3 0
  have k1 := Lib.cell_of_heap R3 1
  have k2 := Lib.cell_of_heap R3 2
  simp only [List.getElem?_toArray, List.getElem?_cons_zero, List.getElem?_cons_succ] at e0 e1 e2 g0 g1 g2 k0 k1 k2
  have HV : Hid (gr3 (a0, a1, a2) (b0, b1, b2) = if cm3 (sel3 a0 a1 a2) (sel3 b0 b1 b2) < 0 then (b0, b1, b2) else (a0, a1, a2)) := (rfl : _ = _)
  have HR3 : Hid (w2.heap[w.heap.size + 1 + 1]? = some (.cells #[.int .i64 0, .int .i64 0, .int .i64 0] 98 (0, 0))) := R3
  have HBd : Hid (Below w.heap.size w w2) := HB.out
  clear R1 R2 R3
  unfold ag3
  generalize cm3 (sel3 a0 a1 a2) (sel3 b0 b1 b2) = C at *
  go_enter Tryz.func45, Tryz.ntmps45
  go_wp2_with fail
  rw [← hw2]
  clear hw2
  go_region_with (refine (HC.out _ (by first | exact .inl rfl | exact .inr rfl)).mono ?_; rintro e wk ⟨rfl, hwk⟩; subst hwk)
  all_goals
    by_cases hc : C < 0
    · have hv := HV.out
      rw [if_pos hc] at hv
      have HH : Hid ((((w2.setCell ⟨w.heap.size + 1 + 1, 0, none⟩ (.int .i64 b0)).setCell ⟨w.heap.size + 1 + 1, 1, none⟩ (.int .i64 b1)).setCell ⟨w.heap.size + 1 + 1, 2, none⟩ (.int .i64 b2)).drew.cell? ⟨w.heap.size + 1 + 1, 0, none⟩ = some (.int .i64 b0) ∧ (((w2.setCell ⟨w.heap.size + 1 + 1, 0, none⟩ (.int .i64 b0)).setCell ⟨w.heap.size + 1 + 1, 1, none⟩ (.int .i64 b1)).setCell ⟨w.heap.size + 1 + 1, 2, none⟩ (.int .i64 b2)).drew.cell? ⟨w.heap.size + 1 + 1, 1, none⟩ = some (.int .i64 b1) ∧ (((w2.setCell ⟨w.heap.size + 1 + 1, 0, none⟩ (.int .i64 b0)).setCell ⟨w.heap.size + 1 + 1, 1, none⟩ (.int .i64 b1)).setCell ⟨w.heap.size + 1 + 1, 2, none⟩ (.int .i64 b2)).drew.cell? ⟨w.heap.size + 1 + 1, 2, none⟩ = some (.int .i64 b2)) := set3c (a := .int .i64 b0) (b := .int .i64 b1) (c := .int .i64 b2) HR3.out
      have HVV : Hid (gr3 (a0, a1, a2) (b0, b1, b2) = _) := hv
      clear hv
      go_wp2
      refine bodyPost_ret (v := .agg #[.int .i64 b0, .int .i64 b1, .int .i64 b2]) (by simp [results, Tryz.results45, go_sem, HH.out.1, HH.out.2.1, HH.out.2.2]) rfl ?_
      exact ⟨by rw [HVV.out], (((HBd.out.setCell (p := ⟨w.heap.size + 1 + 1, 0, none⟩) (by simp; omega) _).setCell (p := ⟨w.heap.size + 1 + 1, 1, none⟩) (by simp; omega) _).setCell (p := ⟨w.heap.size + 1 + 1, 2, none⟩) (by simp; omega) _).drew⟩
    · have hv := HV.out
      rw [if_neg hc] at hv
      have HH : Hid ((((w2.setCell ⟨w.heap.size + 1 + 1, 0, none⟩ (.int .i64 a0)).setCell ⟨w.heap.size + 1 + 1, 1, none⟩ (.int .i64 a1)).setCell ⟨w.heap.size + 1 + 1, 2, none⟩ (.int .i64 a2)).drew.cell? ⟨w.heap.size + 1 + 1, 0, none⟩ = some (.int .i64 a0) ∧ (((w2.setCell ⟨w.heap.size + 1 + 1, 0, none⟩ (.int .i64 a0)).setCell ⟨w.heap.size + 1 + 1, 1, none⟩ (.int .i64 a1)).setCell ⟨w.heap.size + 1 + 1, 2, none⟩ (.int .i64 a2)).drew.cell? ⟨w.heap.size + 1 + 1, 1, none⟩ = some (.int .i64 a1) ∧ (((w2.setCell ⟨w.heap.size + 1 + 1, 0, none⟩ (.int .i64 a0)).setCell ⟨w.heap.size + 1 + 1, 1, none⟩ (.int .i64 a1)).setCell ⟨w.heap.size + 1 + 1, 2, none⟩ (.int .i64 a2)).drew.cell? ⟨w.heap.size + 1 + 1, 2, none⟩ = some (.int .i64 a2)) := set3c (a := .int .i64 a0) (b := .int .i64 a1) (c := .int .i64 a2) HR3.out
      have HVV : Hid (gr3 (a0, a1, a2) (b0, b1, b2) = _) := hv
      clear hv
      go_wp2
      refine bodyPost_ret (v := .agg #[.int .i64 a0, .int .i64 a1, .int .i64 a2]) (by simp [results, Tryz.results45, go_sem, HH.out.1, HH.out.2.1, HH.out.2.2]) rfl ?_
      exact ⟨by rw [HVV.out], (((HBd.out.setCell (p := ⟨w.heap.size + 1 + 1, 0, none⟩) (by simp; omega) _).setCell (p := ⟨w.heap.size + 1 + 1, 1, none⟩) (by simp; omega) _).setCell (p := ⟨w.heap.size + 1 + 1, 2, none⟩) (by simp; omega) _).drew⟩

end Ac
end Go.Proofs.YthfckgdaencagaaGreatDoor
