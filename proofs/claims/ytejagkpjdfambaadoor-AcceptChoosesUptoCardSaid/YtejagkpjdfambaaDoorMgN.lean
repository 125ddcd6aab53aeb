/- Several texts as one. -/
import Derived.Test.YtejagkpjdfambaaDoorMgM
import Derived.Deep.RegionHeld3
import Derived.Deep.RegionWith
import Derived.Deep.Cut
import Derived.Test.YtejagkpjdfambaaDoorMgK
import Derived.Test.YtejagkpjdfambaaDoorMgL
/-
  The greater of two kinds of narrowness.
-/
set_option maxRecDepth 100000
set_option linter.unusedVariables false
set_option linter.unusedSimpArgs false
namespace Go.Proofs.YtejagkpjdfambaaDoor
open Go.RowKit Go.Shelf
namespace Ac
open Oc Tg

def cmpZ (x y : Int) : Int := if x < y then -1 else if y < x then 1 else 0
theorem cmpZ_eq {x y : Int} (h : x = y) : cmpZ x y = 0 := by unfold cmpZ; subst h; simp
theorem cmpZ_lt {x y : Int} (h : x < y) : cmpZ x y = -1 := by unfold cmpZ; rw [if_pos h]
theorem cmpZ_gt {x y : Int} (h : y < x) : cmpZ x y = 1 := by unfold cmpZ; rw [if_neg (by omega), if_pos h]
theorem cmpZ_ne {x y : Int} (h : x ≠ y) : cmpZ x y ≠ 0 := by
  rcases Int.lt_or_gt_of_ne h with h | h
  · rw [cmpZ_lt h]; decide
  · rw [cmpZ_gt h]; decide

theorem isNaN_i (x : Int) (w : World) : Calls Tryd.prog 64 #[.int .i64 x] w fun e w' => e = .returned (.bool false) ∧ w' = w := by
  go_enter Tryd.func64, Tryd.ntmps64
  go_wp2
  go_ret
  exact ⟨by simp, rfl⟩

theorem cmpC_any (x y : Int) (w : World) : Calls Tryd.prog 47 #[.int .i64 x, .int .i64 y] w fun e w' => e = .returned (.int .i64 (cmpZ x y)) ∧ w' = w := by
  have HN : Hid (∀ (z : Int) W, Calls Tryd.prog 64 #[.int .i64 z] W fun e w' => e = .returned (.bool false) ∧ w' = W) := fun z W => isNaN_i z W
  rcases Int.lt_trichotomy x y with h | h | h
  · rw [cmpZ_lt h]
    go_enter Tryd.func47, Tryd.ntmps47
    go_wp2_with fail
    refine (HN.out _ _).mono ?_
    rintro e w1 ⟨rfl, rfl⟩
    go_wp2_with fail
    refine (HN.out _ _).mono ?_
    rintro e w1 ⟨rfl, rfl⟩
    go_wp2
    go_ret
    exact ⟨rfl, rfl⟩
  · subst h
    rw [cmpZ_eq rfl]
    go_enter Tryd.func47, Tryd.ntmps47
    go_wp2_with fail
    refine (HN.out _ _).mono ?_
    rintro e w1 ⟨rfl, rfl⟩
    go_wp2_with fail
    refine (HN.out _ _).mono ?_
    rintro e w1 ⟨rfl, rfl⟩
    go_wp2
    go_ret
    exact ⟨rfl, rfl⟩
  · rw [cmpZ_gt h]
    have h2 : ¬ x < y := by omega
    go_enter Tryd.func47, Tryd.ntmps47
    go_wp2_with fail
    refine (HN.out _ _).mono ?_
    rintro e w1 ⟨rfl, rfl⟩
    go_wp2_with fail
    refine (HN.out _ _).mono ?_
    rintro e w1 ⟨rfl, rfl⟩
    go_wp2
    go_ret
    exact ⟨rfl, rfl⟩

/-- Three numbers against three. -/
def cm3 (f g : Nat → Int) : Int := if f 0 ≠ g 0 then cmpZ (f 0) (g 0) else if f 1 ≠ g 1 then cmpZ (f 1) (g 1) else cmpZ (f 2) (g 2)
theorem cm3_no {f g : Nat → Int} {k : Nat} (hk : k < 3) (h : ∀ j, j < k → f j = g j) (hn : f k ≠ g k) : cm3 f g = cmpZ (f k) (g k) := by
  unfold cm3
  match k, hk with
  | 0, _ => rw [if_pos hn]
  | 1, _ => rw [if_neg (by simpa using h 0 (by omega)), if_pos hn]
  | 2, _ => rw [if_neg (by simpa using h 0 (by omega)), if_neg (by simpa using h 1 (by omega))]
theorem cm3_yes {f g : Nat → Int} (h : ∀ j, j < 3 → f j = g j) : cm3 f g = 0 := by
  unfold cm3
  rw [if_neg (by simpa using h 0 (by omega)), if_neg (by simpa using h 1 (by omega)), cmpZ_eq (h 2 (by omega))]

set_option maxHeartbeats 1000000 in
theorem Compare3_any (f g : Nat → Int) (p q o o2 : Nat) (w : World) (hp : ∀ j, j < 3 → w.cell? ⟨p, o + j, none⟩ = some (.int .i64 (f j))) (hq : ∀ j, j < 3 → w.cell? ⟨q, o2 + j, none⟩ = some (.int .i64 (g j))) :
    Calls Tryd.prog 33 #[.slice (some ⟨p, o, none⟩) 3 3, .slice (some ⟨q, o2, none⟩) 3 3] w fun e w' => e = .returned (.int .i64 (cm3 f g)) ∧ w' = w := by
  have HN : Hid (∀ k, k < 3 → (∀ j, j < k → f j = g j) → f k ≠ g k → cm3 f g = cmpZ (f k) (g k)) := fun k hk h hn => cm3_no hk h hn
  have HY : Hid ((∀ j, j < 3 → f j = g j) → cm3 f g = 0) := fun h => cm3_yes h
  have HC : Hid (∀ (x y : Int) W, Calls Tryd.prog 47 #[.int .i64 x, .int .i64 y] W fun e w' => e = .returned (.int .i64 (cmpZ x y)) ∧ w' = W) := fun x y W => cmpC_any x y W
  have HP : Hid (∀ j, j < 3 → w.cell? ⟨p, o + j, none⟩ = some (.int .i64 (f j))) := hp
  have HQ : Hid (∀ j, j < 3 → w.cell? ⟨q, o2 + j, none⟩ = some (.int .i64 (g j))) := hq
  clear hp hq
  generalize cm3 f g = V at *
  go_enter Tryd.func33, Tryd.ntmps33
  go_wp2
  go_loopw [11] (fun i wr => ∃ k : Nat, k ≤ 3 ∧ i = .int .i64 k ∧ wr = w ∧ Hid (∀ j, j < k → f j = g j)) (fun i _ => 3 - (intOf i).toNat)
  case atStart => exact ⟨0, Nat.zero_le _, rfl, rfl, fun j hj => absurd hj (Nat.not_lt_zero j)⟩
  case round =>
    obtain ⟨k, hk, rfl, rfl, hall⟩ := hrel
    by_cases hlt : k < 3
    · have d1 := HP.out k hlt
      have d2 := HQ.out k hlt
      have hki : (k : Int) < 3 := by omega
      have hki2 : ¬ (3 : Int) ≤ (k : Int) := by omega
      by_cases hc : f k = g k
      · have HE : Hid (∀ j, j < k + 1 → f j = g j) := fun j hj => by
          rcases Nat.lt_or_ge j k with h | h
          · exact hall.out j h
          · obtain rfl : j = k := by omega
            exact hc
        have HZ : Hid (cmpZ (f k) (g k) = 0) := cmpZ_eq hc
        clear hc
        generalize f k = X at *
        generalize g k = Y at *
        go_wp2_with fail
        refine (HC.out _ _ _).mono ?_
        rintro e w1 ⟨rfl, rfl⟩
        rw [HZ.out]
        go_wp2
        go_roundw
        case rel => exact ⟨k + 1, by omega, by go_num, by first | rfl | trivial, HE⟩
        case measure => simp [intOf]; omega
      · have HV1 : Hid (V = cmpZ (f k) (g k)) := HN.out k hlt hall.out hc
        have hn := cmpZ_ne hc
        clear hc
        generalize f k = X at *
        generalize g k = Y at *
        generalize hC : cmpZ X Y = C at HV1 hn
        have HZ : Hid (cmpZ X Y = C) := hC
        clear hC
        go_wp2_with fail
        refine (HC.out _ _ _).mono ?_
        rintro e w1 ⟨rfl, rfl⟩
        rw [HZ.out]
        go_wp2
        go_ret
        exact ⟨by rw [HV1.out]; rfl, rfl⟩
    · obtain rfl : k = 3 := by omega
      have hv := HY.out hall.out
      subst hv
      go_wp2
      go_ret
      exact ⟨rfl, rfl⟩

def sel3 (a b c : Int) (j : Nat) : Int := if j = 0 then a else if j = 1 then b else c
/-- The greater of two rows of three numbers. -/
def gr3 (x y : Int × Int × Int) : Int × Int × Int := if cm3 (sel3 x.1 x.2.1 x.2.2) (sel3 y.1 y.2.1 y.2.2) < 0 then y else x
def ag3 (x : Int × Int × Int) : Value := .agg #[.int .i64 x.1, .int .i64 x.2.1, .int .i64 x.2.2]

theorem cells3_of {W : World} {p : Nat} {a b c : Int} {T : TypeId} (h : W.heap[p]? = some (.cells #[.int .i64 a, .int .i64 b, .int .i64 c] T (0, 0))) : ∀ j, j < 3 → W.cell? ⟨p, 0 + j, none⟩ = some (.int .i64 (sel3 a b c j)) := by
  intro j hj
  match j, hj with
  | 0, _ => simp [World.cell?, h, sel3]
  | 1, _ => simp [World.cell?, h, sel3]
  | 2, _ => simp [World.cell?, h, sel3]
theorem set3g {W : World} {p : Nat} {x y z a b c : Value} {T : TypeId} (h : W.heap[p]? = some (.cells #[x, y, z] T (0, 0))) :
    (((W.setCell ⟨p, 0, none⟩ a).setCell ⟨p, 1, none⟩ b).setCell ⟨p, 2, none⟩ c).heap[p]? = some (.cells #[a, b, c] T (0, 0)) := by
  have h1 := heap_setCell_same W p 0 #[x, y, z] T a h
  have h2 := heap_setCell_same _ p 1 _ T b h1
  have h3 := heap_setCell_same _ p 2 _ T c h2
  simpa using h3
theorem set3c {W : World} {p : Nat} {x y z a b c : Value} {T : TypeId} (h : W.heap[p]? = some (.cells #[x, y, z] T (0, 0))) :
    ((((W.setCell ⟨p, 0, none⟩ a).setCell ⟨p, 1, none⟩ b).setCell ⟨p, 2, none⟩ c).cell? ⟨p, 0, none⟩ = some a ∧ (((W.setCell ⟨p, 0, none⟩ a).setCell ⟨p, 1, none⟩ b).setCell ⟨p, 2, none⟩ c).cell? ⟨p, 1, none⟩ = some b ∧ (((W.setCell ⟨p, 0, none⟩ a).setCell ⟨p, 1, none⟩ b).setCell ⟨p, 2, none⟩ c).cell? ⟨p, 2, none⟩ = some c) := by
  have h3 := set3g (a := a) (b := b) (c := c) h
  refine ⟨?_, ?_, ?_⟩ <;> (simp only [World.cell?, h3]; rfl)

set_option maxHeartbeats 2000000 in
theorem greater_any (x y : Int × Int × Int) (w : World) : Calls Tryd.prog 18 #[ag3 x, ag3 y] w fun e w' => e = .returned (ag3 (gr3 x y)) ∧ Below w.heap.size w w' := by
  obtain ⟨a0, a1, a2⟩ := x
  obtain ⟨b0, b1, b2⟩ := y
  obtain ⟨w2, hw2⟩ : ∃ w2, w2 = ((w.alloc (.cells #[.int .i64 a0, .int .i64 a1, .int .i64 a2] 53)).alloc (.cells #[.int .i64 b0, .int .i64 b1, .int .i64 b2] 53)).alloc (.cells #[.int .i64 0, .int .i64 0, .int .i64 0] 53) := ⟨_, rfl⟩
  have R1 : w2.heap[w.heap.size]? = some (.cells #[.int .i64 a0, .int .i64 a1, .int .i64 a2] 53 (0, 0)) := by
    rw [hw2, Below.heap_alloc _ _ _ (by simp; omega), Below.heap_alloc _ _ _ (by simp)]
    exact heap_alloc_new w _
  have R2 : w2.heap[w.heap.size + 1]? = some (.cells #[.int .i64 b0, .int .i64 b1, .int .i64 b2] 53 (0, 0)) := by
    rw [hw2, Below.heap_alloc _ _ _ (by simp)]
    have := heap_alloc_new (w.alloc (.cells #[.int .i64 a0, .int .i64 a1, .int .i64 a2] 53)) (.cells #[.int .i64 b0, .int .i64 b1, .int .i64 b2] 53)
    rwa [World.size_alloc] at this
  have R3 : w2.heap[w.heap.size + 1 + 1]? = some (.cells #[.int .i64 0, .int .i64 0, .int .i64 0] 53 (0, 0)) := by
    rw [hw2]
    have := heap_alloc_new ((w.alloc (.cells #[.int .i64 a0, .int .i64 a1, .int .i64 a2] 53)).alloc (.cells #[.int .i64 b0, .int .i64 b1, .int .i64 b2] 53)) (.cells #[.int .i64 0, .int .i64 0, .int .i64 0] 53)
    rwa [World.size_alloc, World.size_alloc] at this
  have HB : Hid (Below w.heap.size w w2) := (by rw [hw2]; exact (((Below.refl _ w).alloc (Nat.le_refl _) _).alloc (by simp) _).alloc (by simp; omega) _ : Below _ _ _)
  have HC : Hid (∀ W, W = w2 ∨ W = w2.drew → Calls Tryd.prog 33 #[.slice (some ⟨w.heap.size, 0, none⟩) 3 3, .slice (some ⟨w.heap.size + 1, 0, none⟩) 3 3] W fun e w' => e = .returned (.int .i64 (cm3 (sel3 a0 a1 a2) (sel3 b0 b1 b2))) ∧ w' = W) := fun W hW => by
    refine Compare3_any _ _ _ _ 0 0 W ?_ ?_
    · rcases hW with rfl | rfl
      · exact cells3_of R1
      · exact cells3_of (W := w2) R1
    · rcases hW with rfl | rfl
      · exact cells3_of R2
      · exact cells3_of (W := w2) R2
  have e0 := Lib.cell_of_heap R1 0
  have e1 := Lib.cell_of_heap R1 1
  have e2 := Lib.cell_of_heap R1 2
  have g0 := Lib.cell_of_heap R2 0
  have g1 := Lib.cell_of_heap R2 1
  have g2 := Lib.cell_of_heap R2 2
  have f0 : w2.frozen? ⟨w.heap.size + 1 + 1, 0, none⟩ = false := by simp [World.frozen?, R3]
  have f1 : w2.frozen? ⟨w.heap.size + 1 + 1, 1, none⟩ = false := by simp [World.frozen?, R3]
  have f2 : w2.frozen? ⟨w.heap.size + 1 + 1, 2, none⟩ = false := by simp [World.frozen?, R3]
  have k0 := Lib.cell_of_heap R3 0
  have k1 := Lib.cell_of_heap R3 1
  have k2 := Lib.cell_of_heap R3 2
  simp only [List.getElem?_toArray, List.getElem?_cons_zero, List.getElem?_cons_succ] at e0 e1 e2 g0 g1 g2 k0 k1 k2
  have HV : Hid (gr3 (a0, a1, a2) (b0, b1, b2) = if cm3 (sel3 a0 a1 a2) (sel3 b0 b1 b2) < 0 then (b0, b1, b2) else (a0, a1, a2)) := (rfl : _ = _)
  have HR3 : Hid (w2.heap[w.heap.size + 1 + 1]? = some (.cells #[.int .i64 0, .int .i64 0, .int .i64 0] 53 (0, 0))) := R3
  have HBd : Hid (Below w.heap.size w w2) := HB.out
  clear R1 R2 R3
  unfold ag3
  generalize cm3 (sel3 a0 a1 a2) (sel3 b0 b1 b2) = C at *
  go_enter Tryd.func18, Tryd.ntmps18
  go_wp2_with fail
  rw [← hw2]
  clear hw2
  go_region_with (refine (HC.out _ (by first | exact .inl rfl | exact .inr rfl)).mono ?_; rintro e wk ⟨rfl, hwk⟩; subst hwk)
  all_goals
    by_cases hc : C < 0
    · have hv := HV.out
      rw [if_pos hc] at hv
      have HH : Hid ((((w2.setCell ⟨w.heap.size + 1 + 1, 0, none⟩ (.int .i64 b0)).setCell ⟨w.heap.size + 1 + 1, 1, none⟩ (.int .i64 b1)).setCell ⟨w.heap.size + 1 + 1, 2, none⟩ (.int .i64 b2)).drew.cell? ⟨w.heap.size + 1 + 1, 0, none⟩ = some (.int .i64 b0) ∧ (((w2.setCell ⟨w.heap.size + 1 + 1, 0, none⟩ (.int .i64 b0)).setCell ⟨w.heap.size + 1 + 1, 1, none⟩ (.int .i64 b1)).setCell ⟨w.heap.size + 1 + 1, 2, none⟩ (.int .i64 b2)).drew.cell? ⟨w.heap.size + 1 + 1, 1, none⟩ = some (.int .i64 b1) ∧ (((w2.setCell ⟨w.heap.size + 1 + 1, 0, none⟩ (.int .i64 b0)).setCell ⟨w.heap.size + 1 + 1, 1, none⟩ (.int .i64 b1)).setCell ⟨w.heap.size + 1 + 1, 2, none⟩ (.int .i64 b2)).drew.cell? ⟨w.heap.size + 1 + 1, 2, none⟩ = some (.int .i64 b2)) := set3c (a := .int .i64 b0) (b := .int .i64 b1) (c := .int .i64 b2) HR3.out
      have HVV : Hid (gr3 (a0, a1, a2) (b0, b1, b2) = _) := hv
      clear hv
      go_wp2
      refine bodyPost_ret (v := .agg #[.int .i64 b0, .int .i64 b1, .int .i64 b2]) (by simp [results, Tryd.results18, go_sem, HH.out.1, HH.out.2.1, HH.out.2.2]) rfl ?_
      exact ⟨by rw [HVV.out], (((HBd.out.setCell (p := ⟨w.heap.size + 1 + 1, 0, none⟩) (by simp; omega) _).setCell (p := ⟨w.heap.size + 1 + 1, 1, none⟩) (by simp; omega) _).setCell (p := ⟨w.heap.size + 1 + 1, 2, none⟩) (by simp; omega) _).drew⟩
    · have hv := HV.out
      rw [if_neg hc] at hv
      have HH : Hid ((((w2.setCell ⟨w.heap.size + 1 + 1, 0, none⟩ (.int .i64 a0)).setCell ⟨w.heap.size + 1 + 1, 1, none⟩ (.int .i64 a1)).setCell ⟨w.heap.size + 1 + 1, 2, none⟩ (.int .i64 a2)).drew.cell? ⟨w.heap.size + 1 + 1, 0, none⟩ = some (.int .i64 a0) ∧ (((w2.setCell ⟨w.heap.size + 1 + 1, 0, none⟩ (.int .i64 a0)).setCell ⟨w.heap.size + 1 + 1, 1, none⟩ (.int .i64 a1)).setCell ⟨w.heap.size + 1 + 1, 2, none⟩ (.int .i64 a2)).drew.cell? ⟨w.heap.size + 1 + 1, 1, none⟩ = some (.int .i64 a1) ∧ (((w2.setCell ⟨w.heap.size + 1 + 1, 0, none⟩ (.int .i64 a0)).setCell ⟨w.heap.size + 1 + 1, 1, none⟩ (.int .i64 a1)).setCell ⟨w.heap.size + 1 + 1, 2, none⟩ (.int .i64 a2)).drew.cell? ⟨w.heap.size + 1 + 1, 2, none⟩ = some (.int .i64 a2)) := set3c (a := .int .i64 a0) (b := .int .i64 a1) (c := .int .i64 a2) HR3.out
      have HVV : Hid (gr3 (a0, a1, a2) (b0, b1, b2) = _) := hv
      clear hv
      go_wp2
      refine bodyPost_ret (v := .agg #[.int .i64 a0, .int .i64 a1, .int .i64 a2]) (by simp [results, Tryd.results18, go_sem, HH.out.1, HH.out.2.1, HH.out.2.2]) rfl ?_
      exact ⟨by rw [HVV.out], (((HBd.out.setCell (p := ⟨w.heap.size + 1 + 1, 0, none⟩) (by simp; omega) _).setCell (p := ⟨w.heap.size + 1 + 1, 1, none⟩) (by simp; omega) _).setCell (p := ⟨w.heap.size + 1 + 1, 2, none⟩) (by simp; omega) _).drew⟩

end Ac
end Go.Proofs.YtejagkpjdfambaaDoor

/-
  How narrow a range is: both.
-/
set_option maxRecDepth 100000
set_option linter.unusedVariables false
set_option linter.unusedSimpArgs false
namespace Go.Proofs.YtejagkpjdfambaaDoor
open Go.RowKit Go.Shelf
namespace Ac
open Oc Tg

/-- Is the part named? -/
def nmd (A : ByteArray) : Int := if (A.toList == [42]) then 0 else 1

theorem named_any (A : ByteArray) (w : World) : Calls Tryd.prog 34 #[.string A] w fun e w' => e = .returned (.int .i64 (nmd A)) ∧ w' = w := by
  cases h : (A.toList == [42])
  · have e : nmd A = 1 := by unfold nmd; rw [h]; rfl
    rw [e]
    clear e
    go_enter Tryd.func34, Tryd.ntmps34
    go_wp2
    go_ret
    exact ⟨rfl, rfl⟩
  · have e : nmd A = 0 := by unfold nmd; rw [h]; rfl
    rw [e]
    clear e
    go_enter Tryd.func34, Tryd.ntmps34
    go_wp2
    go_ret
    exact ⟨rfl, rfl⟩

/-- The document's number. -/
def narrowR (A B : ByteArray) (n : Nat) : Int := (n : Int) + 2000000000000 * nmd B + 1000000000000 * nmd A

set_option maxHeartbeats 1000000 in
theorem rnarrow_any (A B : ByteArray) (a : Option Addr) (n c : Nat) (hn : n ≤ 4294967296) (w : World) : Calls Tryd.prog 21 #[.agg #[.string A, .string B, .slice a n c]] w fun e w' => e = .returned (.int .i64 (narrowR A B n)) ∧ Below w.heap.size w w' := by
  have hb : Hid (Below w.heap.size w (w.alloc (.cells #[.string A, .string B, .slice a n c] 33))) := (Below.refl _ w).alloc (Nat.le_refl _) _
  have c0 : (w.alloc (.cells #[.string A, .string B, .slice a n c] 33)).cell? ⟨w.heap.size, 0, none⟩ = some (.string A) := by simp
  have c1 : (w.alloc (.cells #[.string A, .string B, .slice a n c] 33)).cell? ⟨w.heap.size, 1, none⟩ = some (.string B) := by simp
  have c2 : (w.alloc (.cells #[.string A, .string B, .slice a n c] 33)).cell? ⟨w.heap.size, 2, none⟩ = some (.slice a n c) := by simp
  obtain ⟨R, hR⟩ : ∃ R, R = narrowR A B n := ⟨_, rfl⟩
  rw [← hR]
  cases hB : (B.toList == [42]) <;> cases hA : (A.toList == [42])
  · have HR : Hid (R = (n : Int) + 2000000000000 + 1000000000000) := hR.trans (by unfold narrowR nmd; rw [hA, hB]; rfl)
    clear hR
    go_enter Tryd.func21, Tryd.ntmps21
    go_wp2
    go_ret
    rw [HR.out]
    exact ⟨rfl, hb.out⟩
  · have HR : Hid (R = (n : Int) + 2000000000000) := hR.trans (by unfold narrowR nmd; rw [hA, hB]; simp)
    clear hR
    go_enter Tryd.func21, Tryd.ntmps21
    go_wp2
    go_ret
    rw [HR.out]
    exact ⟨rfl, hb.out⟩
  · have HR : Hid (R = (n : Int) + 1000000000000) := hR.trans (by unfold narrowR nmd; rw [hA, hB]; simp)
    clear hR
    go_enter Tryd.func21, Tryd.ntmps21
    go_wp2
    go_ret
    rw [HR.out]
    exact ⟨rfl, hb.out⟩
  · have HR : Hid (R = (n : Int)) := hR.trans (by unfold narrowR nmd; rw [hA, hB]; simp)
    clear hR
    go_enter Tryd.func21, Tryd.ntmps21
    go_wp2
    go_ret
    rw [HR.out]
    exact ⟨rfl, hb.out⟩

end Ac
end Go.Proofs.YtejagkpjdfambaaDoor

/-
  Media types and words with parameters, plainly: the two ways to read them.
-/
set_option linter.unusedVariables false
set_option linter.unusedSimpArgs false
namespace Go.Proofs.YtejagkpjdfambaaDoor
namespace Ac
open Oc Tg

/-- A byte that ends what stands ahead of parameters. -/
def endB (c : UInt8) : Bool := c == 59 || c == 32 || c == 9
def hdLen (l : List UInt8) : Nat := (l.takeWhile (fun c => !endB c)).length
def lowP (p : Prm) : Prm := (lower p.1, p.2.1, p.2.2)
/-- The parameters go on to the end. -/
def full (l : List UInt8) : Prop := (paramsR l).2.2 = 0 ∧ (paramsR l).2.1 = l.length
instance (l : List UInt8) : Decidable (full l) := by unfold full; infer_instance
def psOf (l : List UInt8) : List Prm := (paramsR l).1.map lowP
/-- What stands ahead, and the parameters. -/
def cutP (l : List UInt8) : Option (List UInt8 × List Prm) := if full (l.drop (hdLen l)) then some (l.take (hdLen l), psOf (l.drop (hdLen l))) else none
abbrev Med := List UInt8 × List UInt8 × List Prm
/-- A media type or a range. -/
def med (l : List UInt8) : Option Med := match cutP l with
  | none => none
  | some x => if isTok (cutA 47 x.1) && isTok (cutB 47 x.1) then some (lower (cutA 47 x.1), lower (cutB 47 x.1), x.2) else none
/-- The document's. -/
def jAt (l : List UInt8) : Nat := tokLen l + 1 + tokLen (l.drop (tokLen l + 1))
def condR (l : List UInt8) : Prop := 0 < tokLen l ∧ tokLen l < l.length ∧ l.getD (tokLen l) 0 = 47 ∧ 0 < tokLen (l.drop (tokLen l + 1))
instance (l : List UInt8) : Decidable (condR l) := by unfold condR; infer_instance
def partsR (l : List UInt8) : Option Med :=
  if condR l ∧ full (l.drop (jAt l)) then some (lower (l.take (tokLen l)), lower ((l.drop (tokLen l + 1)).take (tokLen (l.drop (tokLen l + 1)))), psOf (l.drop (jAt l))) else none
/-- A word with parameters: the program's, and the document's. -/
def wrd (l : List UInt8) : Option (List UInt8 × List Prm) := match cutP l with
  | none => none
  | some x => if isTok x.1 then some x else none
def wrdR (l : List UInt8) : Option (List UInt8 × List Prm) := if 0 < tokLen l ∧ full (l.drop (tokLen l)) then some (l.take (tokLen l), psOf (l.drop (tokLen l))) else none

theorem tw_len {p : UInt8 → Bool} (K R : List UInt8) (hK : ∀ c ∈ K, p c = true) (hR : ∀ c, R.head? = some c → p c = false) : ((K ++ R).takeWhile p).length = K.length := by
  induction K with
  | nil =>
    cases R with
    | nil => rfl
    | cons c R => simp [List.takeWhile, hR c rfl]
  | cons a K ih =>
    have ha := hK a (by simp)
    simp only [List.cons_append, List.takeWhile_cons, ha, if_true, List.length_cons]
    rw [ih (fun c hc => hK c (by simp [hc]))]
theorem tw_take {p : UInt8 → Bool} (l : List UInt8) : ∀ c ∈ l.take (l.takeWhile p).length, p c = true := by
  have e : l.take (l.takeWhile p).length = l.takeWhile p := by
    have h := List.take_left (l₁ := l.takeWhile p) (l₂ := l.dropWhile p)
    rwa [List.takeWhile_append_dropWhile] at h
  rw [e]
  intro c hc
  have := List.all_takeWhile (p := p) (l := l)
  exact List.all_eq_true.1 this c hc
theorem tw_drop {p : UInt8 → Bool} (l : List UInt8) : ∀ c, (l.drop (l.takeWhile p).length).head? = some c → p c = false := by
  intro c hc
  have e : l.drop (l.takeWhile p).length = l.dropWhile p := by
    have h := List.drop_left (l₁ := l.takeWhile p) (l₂ := l.dropWhile p)
    rwa [List.takeWhile_append_dropWhile] at h
  rw [e] at hc
  have := List.head?_dropWhile_not p l
  rw [hc] at this
  simpa using this
theorem tok_end {c : UInt8} (h : tokB c = true) : endB c = false := by
  unfold endB
  rw [Bool.or_eq_false_iff, Bool.or_eq_false_iff]
  refine ⟨⟨?_, ?_⟩, ?_⟩
  all_goals
    rw [beq_eq_false_iff_ne]
    rintro rfl
    revert h
    decide
theorem tok_slash {c : UInt8} (h : tokB c = true) : c ≠ 47 := by rintro rfl; revert h; decide
theorem isTok_iff (l : List UInt8) : isTok l = true ↔ l ≠ [] ∧ ∀ c ∈ l, tokB c = true := by
  unfold isTok
  rw [Bool.and_eq_true, List.all_eq_true]
  cases l <;> simp
/-- Where neither a blank nor a semicolon stands ahead there are no parameters. -/
theorem params_none (c : UInt8) (r : List UInt8) (h : endB c = false) : paramsR (c :: r) = ([], 0, 0) := by
  have hb : blankB c = false := by
    unfold endB at h
    rw [Bool.or_eq_false_iff, Bool.or_eq_false_iff] at h
    unfold blankB
    have h1 : c.toNat ≠ 32 := fun e => beq_eq_false_iff_ne.1 h.1.2 (UInt8.toNat_inj.1 e)
    have h2 : c.toNat ≠ 9 := fun e => beq_eq_false_iff_ne.1 h.2 (UInt8.toNat_inj.1 e)
    simp [blankI]
    omega
  have h59 : c ≠ 59 := by
    rintro rfl
    revert h; decide
  have e0 : bl (c :: r) = 0 := by simp [bl, List.takeWhile, hb]
  have hs : semi (c :: r) (bl (c :: r)) = false := by rw [e0]; unfold semi; simp [h59]
  exact paramsR_some (x := ([], 0)) (prm_end (pstep_stop hs))
theorem not_full (c : UInt8) (r : List UInt8) (h : endB c = false) : ¬ full (c :: r) := by
  unfold full
  rw [params_none c r h]
  simp
  omega
theorem full_head {l : List UInt8} (h : full l) : ∀ c, l.head? = some c → endB c = true := by
  intro c hc
  cases l with
  | nil => simp at hc
  | cons a r =>
    obtain rfl : a = c := by simpa using hc
    cases e : endB a with
    | true => rfl
    | false => exact absurd h (not_full a r e)

/-- The parts of a text that begins with a token. -/
theorem tok_parts (l : List UInt8) : l = l.take (tokLen l) ++ l.drop (tokLen l) ∧ (∀ c ∈ l.take (tokLen l), tokB c = true) ∧ (∀ c, (l.drop (tokLen l)).head? = some c → tokB c = false) :=
  ⟨(List.take_append_drop _ _).symm, tw_take l, tw_drop l⟩
theorem tokLen_app (K R : List UInt8) (hK : ∀ c ∈ K, tokB c = true) (hR : ∀ c, R.head? = some c → tokB c = false) : tokLen (K ++ R) = K.length := tw_len K R hK hR
theorem hdLen_app (H R : List UInt8) (hH : ∀ c ∈ H, endB c = false) (hR : ∀ c, R.head? = some c → endB c = true) : hdLen (H ++ R) = H.length :=
  tw_len H R (fun c hc => by rw [hH c hc]; rfl) (fun c hc => by rw [hR c hc]; rfl)
theorem end_tok {c : UInt8} (h : endB c = true) : tokB c = false := by
  cases e : tokB c with
  | false => rfl
  | true => rw [tok_end e] at h; cases h

theorem wrd_eq (l : List UInt8) : wrd l = wrdR l := by
  unfold wrdR
  split
  · rename_i h
    obtain ⟨e, hK, hR⟩ := tok_parts l
    have hh : hdLen l = tokLen l := by
      have := hdLen_app (l.take (tokLen l)) (l.drop (tokLen l)) (fun c hc => tok_end (hK c hc)) (full_head h.2)
      rw [← e] at this
      rw [this, List.length_take]
      have := tokLen_le l
      omega
    unfold wrd cutP
    rw [hh, if_pos h.2]
    have : isTok (l.take (tokLen l)) = true := (isTok_iff _).2 ⟨fun e => by
      have h2 := congrArg List.length e
      rw [List.length_take, List.length_nil] at h2
      have h3 := tokLen_le l
      have h4 := h.1
      omega, hK⟩
    simp only [this, if_true]
  · rename_i h
    unfold wrd cutP
    split
    · rfl
    · rename_i x hx
      split at hx
      · rename_i hf
        cases hx
        split
        · rename_i ht
          exfalso
          apply h
          obtain ⟨hne, hall⟩ := (isTok_iff _).1 ht
          have ht2 : tokLen l = hdLen l := by
            have := tokLen_app (l.take (hdLen l)) (l.drop (hdLen l)) hall (fun c hc => end_tok (full_head hf c hc))
            rw [List.take_append_drop] at this
            rw [this, List.length_take]
            have : hdLen l ≤ l.length := (List.takeWhile_sublist _).length_le
            omega
          rw [ht2]
          refine ⟨?_, hf⟩
          rcases Nat.eq_zero_or_pos (hdLen l) with h0 | h0
          · rw [h0] at hne; simp at hne
          · exact h0
        · rfl
      · cases hx

theorem cut_slash (K S : List UInt8) (hK : ∀ c ∈ K, tokB c = true) : cutA 47 (K ++ 47 :: S) = K ∧ cutB 47 (K ++ 47 :: S) = S := by
  have e : ∀ c ∈ K, (c != 47) = true := fun c hc => by simp [tok_slash (hK c hc)]
  constructor
  · unfold cutA
    rw [List.takeWhile_append_of_pos e]
    simp
  · unfold cutB
    rw [List.dropWhile_append_of_pos e]
    simp
theorem shape (K S R : List UInt8) (hK : ∀ c ∈ K, tokB c = true) (hS : ∀ c ∈ S, tokB c = true) (hR : ∀ c, R.head? = some c → tokB c = false) :
    tokLen (K ++ 47 :: (S ++ R)) = K.length ∧ (K ++ 47 :: (S ++ R)).drop (K.length + 1) = S ++ R ∧ tokLen (S ++ R) = S.length ∧ (K ++ 47 :: (S ++ R)).take K.length = K := by
  refine ⟨tokLen_app _ _ hK (fun c hc => by simp at hc; subst hc; decide), ?_, tokLen_app _ _ hS hR, List.take_left⟩
  rw [show K ++ 47 :: (S ++ R) = (K ++ [47]) ++ (S ++ R) by simp, show K.length + 1 = (K ++ [47]).length by simp, List.drop_left]
theorem parts_shape (K S R : List UInt8) (hK : ∀ c ∈ K, tokB c = true) (hS : ∀ c ∈ S, tokB c = true) (hR : ∀ c, R.head? = some c → tokB c = false) (kn : K ≠ []) (sn : S ≠ []) :
    partsR (K ++ 47 :: (S ++ R)) = if full R then some (lower K, lower S, psOf R) else none := by
  obtain ⟨a, b, c, d⟩ := shape K S R hK hS hR
  have p1 : 0 < K.length := List.length_pos_iff.2 kn
  have p2 : 0 < S.length := List.length_pos_iff.2 sn
  have hj : (K ++ 47 :: (S ++ R)).drop (jAt (K ++ 47 :: (S ++ R))) = R := by
    unfold jAt
    rw [a, b, c, ← List.drop_drop, b, List.drop_left]
  have hc : condR (K ++ 47 :: (S ++ R)) := by
    unfold condR
    rw [a, b, c]
    exact ⟨p1, by simp, by simp [List.getD_eq_getElem?_getD], p2⟩
  unfold partsR
  rw [hj, a, b, c, d, List.take_left]
  by_cases hf : full R
  · rw [if_pos ⟨hc, hf⟩, if_pos hf]
  · rw [if_neg (fun h => hf h.2), if_neg hf]
theorem med_shape (K S R : List UInt8) (hK : ∀ c ∈ K, tokB c = true) (hS : ∀ c ∈ S, tokB c = true) (hR : ∀ c, R.head? = some c → endB c = true) (kn : K ≠ []) (sn : S ≠ []) :
    med (K ++ 47 :: (S ++ R)) = if full R then some (lower K, lower S, psOf R) else none := by
  have hh : hdLen (K ++ 47 :: (S ++ R)) = (K ++ 47 :: S).length := by
    rw [show K ++ 47 :: (S ++ R) = (K ++ 47 :: S) ++ R by simp]
    exact hdLen_app _ _ (fun c hc => by
      rcases List.mem_append.1 hc with h | h
      · exact tok_end (hK c h)
      · rcases List.mem_cons.1 h with rfl | h
        · decide
        · exact tok_end (hS c h)) hR
  have hd : (K ++ 47 :: (S ++ R)).drop (K ++ 47 :: S).length = R := by
    rw [show K ++ 47 :: (S ++ R) = (K ++ 47 :: S) ++ R by simp, List.drop_left]
  have ht : (K ++ 47 :: (S ++ R)).take (K ++ 47 :: S).length = K ++ 47 :: S := by
    rw [show K ++ 47 :: (S ++ R) = (K ++ 47 :: S) ++ R by simp, List.take_left]
  obtain ⟨c1, c2⟩ := cut_slash K S hK
  unfold med cutP
  rw [hh, hd, ht]
  by_cases hf : full R
  · rw [if_pos hf, if_pos hf]
    simp only [c1, c2, (isTok_iff _).2 ⟨kn, hK⟩, (isTok_iff _).2 ⟨sn, hS⟩, Bool.and_self, if_true]
  · rw [if_neg hf, if_neg hf]
theorem med_some (l : List UInt8) (h : med l ≠ none) : ∃ K S R, l = K ++ 47 :: (S ++ R) ∧ (∀ c ∈ K, tokB c = true) ∧ (∀ c ∈ S, tokB c = true) ∧ K ≠ [] ∧ S ≠ [] ∧ (∀ c, R.head? = some c → endB c = true) := by
  unfold med cutP at h
  by_cases hf : full (l.drop (hdLen l))
  · rw [if_pos hf] at h
    dsimp only at h
    split at h
    · rename_i htk
      rw [Bool.and_eq_true] at htk
      obtain ⟨t1, t2⟩ := htk
      obtain ⟨n1, a1⟩ := (isTok_iff _).1 t1
      obtain ⟨n2, a2⟩ := (isTok_iff _).1 t2
      have hhas : has 47 (l.take (hdLen l)) = true := by
        cases hx : has 47 (l.take (hdLen l)) with
        | true => rfl
        | false => exact absurd (cutB_none 47 _ hx) n2
      have hap := cut_app 47 _ hhas
      refine ⟨_, _, l.drop (hdLen l), ?_, a1, a2, n1, n2, full_head hf⟩
      rw [← List.cons_append, ← List.append_assoc, hap, List.take_append_drop]
    · exact absurd rfl h
  · rw [if_neg hf] at h
    exact absurd rfl h
theorem cond_shape (l : List UInt8) (hc : condR l) : ∃ K S R, l = K ++ 47 :: (S ++ R) ∧ (∀ c ∈ K, tokB c = true) ∧ (∀ c ∈ S, tokB c = true) ∧ K ≠ [] ∧ S ≠ [] ∧ (∀ c, R.head? = some c → tokB c = false) := by
  obtain ⟨h0, h1, h2, h3⟩ := hc
  obtain ⟨e, hK, hR⟩ := tok_parts l
  obtain ⟨e2, hS, hR2⟩ := tok_parts (l.drop (tokLen l + 1))
  have hd : l.drop (tokLen l) = 47 :: l.drop (tokLen l + 1) := by
    rw [List.drop_eq_getElem_cons h1]
    rw [List.getD_eq_getElem?_getD, List.getElem?_eq_getElem h1] at h2
    simp at h2
    rw [h2]
  have hKl : (l.take (tokLen l)).length = tokLen l := by rw [List.length_take]; omega
  have hSl : ((l.drop (tokLen l + 1)).take (tokLen (l.drop (tokLen l + 1)))).length = tokLen (l.drop (tokLen l + 1)) := by
    rw [List.length_take]; have := tokLen_le (l.drop (tokLen l + 1)); omega
  refine ⟨_, _, _, ?_, hK, hS, fun h => ?_, fun h => ?_, hR2⟩
  · rw [← e2, ← hd]; exact e
  · rw [h] at hKl; simp at hKl; omega
  · rw [h] at hSl; simp at hSl; omega
theorem med_eq (l : List UInt8) : med l = partsR l := by
  by_cases hm : med l = none
  · rw [hm]
    unfold partsR
    split
    · rename_i h
      obtain ⟨K, S, R, rfl, hK, hS, kn, sn, hR⟩ := cond_shape l h.1
      exfalso
      have hf : full R := by
        have := h.2
        obtain ⟨a, b, c, d⟩ := shape K S R hK hS hR
        unfold jAt at this
        rw [a, b, c, ← List.drop_drop, b, List.drop_left] at this
        exact this
      rw [med_shape K S R hK hS (full_head hf) kn sn, if_pos hf] at hm
      cases hm
    · rfl
  · obtain ⟨K, S, R, rfl, hK, hS, kn, sn, hR⟩ := med_some l hm
    rw [med_shape K S R hK hS hR kn sn, parts_shape K S R hK hS (fun c hc => end_tok (hR c hc)) kn sn]

end Ac
end Go.Proofs.YtejagkpjdfambaaDoor
