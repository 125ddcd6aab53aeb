/-
  Choose: the media type that is liked most.
-/
import Derived.Test.YthfckgdaencagaaGreatDoorALi
import Derived.Deep.RegionWith
import Derived.Deep.RegionHeld3
set_option maxRecDepth 100000
set_option linter.unusedVariables false
set_option linter.unusedSimpArgs false
namespace Go.Proofs.YthfckgdaencagaaGreatDoor
open Go.RowKit Go.Shelf
namespace Ac
open Oc Tg

theorem RdMs.below {W W' : World} {v : Value} {t : List Md} (h : RdMs v t W) (b : Below W.heap.size W W') : RdMs v t W' := by
  obtain ⟨a, c, rfl, h⟩ := h
  refine ⟨a, c, rfl, ?_⟩
  rcases h with h | ⟨g, o, e, hc, hcell⟩
  · exact .inl h
  · exact .inr ⟨g, o, e, hc, fun j hj => (hcell j hj).below b⟩
theorem OkMs.at {t : List Md} (h : ∀ r ∈ t, OkMd r) {k : Nat} (hk : k < t.length) : OkMd (nthM t k) := by
  have e : nthM t k = t[k] := by unfold nthM; rw [List.getD_eq_getElem?_getD, List.getElem?_eq_getElem hk]; rfl
  rw [e]
  exact h _ (List.getElem_mem hk)
/-- The first of the greatest above 0. -/
def bsM (f : Nat → Int) : Nat → Int × Int
  | 0 => (-1, 0)
  | k + 1 => if (bsM f k).2 < f k then ((k : Int), f k) else bsM f k
theorem bsM_yes {f : Nat → Int} {k : Nat} (h : (bsM f k).2 < f k) : bsM f (k + 1) = ((k : Int), f k) := by
  show (if (bsM f k).2 < f k then ((k : Int), f k) else bsM f k) = _
  rw [if_pos h]
theorem bsM_no {f : Nat → Int} {k : Nat} (h : ¬ (bsM f k).2 < f k) : bsM f (k + 1) = bsM f k := by
  show (if (bsM f k).2 < f k then ((k : Int), f k) else bsM f k) = _
  rw [if_neg h]
theorem newM1 (w : World) (v : Value) (T : TypeId) : (w.alloc (.cells #[v] T)).cell? ⟨w.heap.size, 0, none⟩ = some v := by simp
theorem pastM1 (w : World) (o : Obj) {p : Addr} {v : Value} (h : w.cell? p = some v) : (w.alloc o).cell? p = some v :=
  (((Below.refl _ w).alloc (Nat.le_refl _) o).cell (World.block_lt_of_cell? _ _ h)).trans h

set_option maxHeartbeats 2000000 in
theorem cho1_any (v u : Value) (t : List Rng) (os : List Md) (B0 B2 k : Nat) (hk : k < os.length) (hos : ∀ r ∈ os, OkMd r) (ho : os.length ≤ 16777216) (ht : ∀ r ∈ t, OkMd r.md) (hl : t.length ≤ 16777216) (w : World)
    (c0 : w.cell? ⟨B0, 0, none⟩ = some v) (c2 : w.cell? ⟨B2, 0, none⟩ = some u) (hv : RdRg v t w) (hu : RdMs u os w) :
    Calls Tryz.prog 22 #[.int .i64 (k : Int), .pointer (some ⟨B0, 0, none⟩), .pointer (some ⟨B2, 0, none⟩)] w fun e w' => e = .returned (.int .i64 (likM t (nthM os k))) ∧ Below w.heap.size w w' := by
  have hok := OkMs.at hos hk
  obtain ⟨a, c, rfl, hu⟩ := hu
  rcases hu with h | ⟨g2, o2, rfl, hc, hcell⟩
  · rw [h] at hk; simp at hk
  obtain ⟨d0, d1, ux, d2, hp, _⟩ := hcell k hk
  have HC : Hid (∀ W, Below w.heap.size w W → Calls Tryz.prog 23 #[v, .agg #[.string (nthM os k).ty, .string (nthM os k).sub, ux]] W fun e w' => e = .returned (.int .i64 (likM t (nthM os k))) ∧ Below (World.heap W).size W w') := fun W b => Liking_any v ux t (nthM os k) ht hok hl W (hv.below b) (hp.below b)
  clear hcell hos ht hok
  have hki : (k : Int) < (os.length : Int) := by omega
  obtain ⟨av, cv, rfl, _⟩ := hv
  obtain ⟨xa, xc, rfl, _⟩ := hp
  generalize likM t (nthM os k) = Y at *
  generalize (nthM os k).ty = X0 at *
  generalize (nthM os k).sub = X1 at *
  generalize (nthM os k).ps.length = xn at *
  have HBd : Hid (Below w.heap.size w w.drew) := (Below.refl _ _).drew
  have e0 : w.drew.cell? ⟨B0, 0, none⟩ = some (.slice av t.length cv) := c0
  have e2 : w.drew.cell? ⟨B2, 0, none⟩ = some (.slice (some ⟨g2, o2, none⟩) os.length c) := c2
  have ed0 : w.drew.cell? ⟨g2, o2 + k * 3, none⟩ = some (.string X0) := d0
  have ed1 : w.drew.cell? ⟨g2, o2 + k * 3 + 1, none⟩ = some (.string X1) := d1
  have ed2 : w.drew.cell? ⟨g2, o2 + k * 3 + 2, none⟩ = some (.slice xa xn xc) := d2
  go_enter Tryz.func22, Tryz.ntmps22
  go_wp2_with fail
  go_region_held3 (fun W => W.cell? ⟨B0, 0, none⟩ = some (.slice av t.length cv) ∧ W.cell? ⟨B2, 0, none⟩ = some (.slice (some ⟨g2, o2, none⟩) os.length c) ∧ W.cell? ⟨g2, o2 + k * 3, none⟩ = some (.string X0) ∧ W.cell? ⟨g2, o2 + k * 3 + 1, none⟩ = some (.string X1) ∧ W.cell? ⟨g2, o2 + k * 3 + 2, none⟩ = some (.slice xa xn xc)) (first | exact ⟨e0, e2, ed0, ed1, ed2⟩ | exact ⟨m0, m2, md0, md1, md2⟩ | go_keep) (first | (go_at_call 23; refine (HC.out _ HBd.out).mono ?_; rintro e w6 ⟨rfl, hb6⟩; have m0 : w6.cell? ⟨B0, 0, none⟩ = some (.slice av t.length cv) := (hb6.cell (p := ⟨B0, 0, none⟩) (World.block_lt_of_cell? _ _ e0)).trans e0; have m2 : w6.cell? ⟨B2, 0, none⟩ = some (.slice (some ⟨g2, o2, none⟩) os.length c) := (hb6.cell (p := ⟨B2, 0, none⟩) (World.block_lt_of_cell? _ _ e2)).trans e2; have md0 : w6.cell? ⟨g2, o2 + k * 3, none⟩ = some (.string X0) := (hb6.cell (p := ⟨g2, o2 + k * 3, none⟩) (World.block_lt_of_cell? _ _ ed0)).trans ed0; have md1 : w6.cell? ⟨g2, o2 + k * 3 + 1, none⟩ = some (.string X1) := (hb6.cell (p := ⟨g2, o2 + k * 3 + 1, none⟩) (World.block_lt_of_cell? _ _ ed1)).trans ed1; have md2 : w6.cell? ⟨g2, o2 + k * 3 + 2, none⟩ = some (.slice xa xn xc) := (hb6.cell (p := ⟨g2, o2 + k * 3 + 2, none⟩) (World.block_lt_of_cell? _ _ ed2)).trans ed2; have HB7 : Hid (Below w.heap.size w w6) := bel_trans HBd.out hb6))
  go_wp2
  go_ret
  exact ⟨rfl, HB7.out⟩

set_option maxHeartbeats 2000000 in
theorem best_cho (n : Nat) (f : Nat → Int) (hn : n ≤ 16777216) (B0 B1 : Nat) (w : World)
    (HC : Hid (∀ (k : Nat) (W : World), k < n → Below w.heap.size w W → Calls Tryz.prog 22 #[.int .i64 (k : Int), .pointer (some ⟨B0, 0, none⟩), .pointer (some ⟨B1, 0, none⟩)] W fun e w' => e = .returned (.int .i64 (f k)) ∧ Below (World.heap W).size W w')) :
    Calls Tryz.prog 24 #[.agg #[.int .i64 (n : Int), .func (.func 22) #[] #[.pointer (some ⟨B0, 0, none⟩), .pointer (some ⟨B1, 0, none⟩)]]] w fun e w' => e = .returned (.int .i64 (bsM f n).1) ∧ Below w.heap.size w w' := by
  obtain ⟨w1, hw1⟩ : ∃ w1, w1 = w.alloc (.cells #[.int .i64 (n : Int), .func (.func 22) #[] #[.pointer (some ⟨B0, 0, none⟩), .pointer (some ⟨B1, 0, none⟩)]] 68) := ⟨_, rfl⟩
  have hrow : w1.heap[w.heap.size]? = some (.cells #[.int .i64 (n : Int), .func (.func 22) #[] #[.pointer (some ⟨B0, 0, none⟩), .pointer (some ⟨B1, 0, none⟩)]] 68 (0, 0)) := by rw [hw1]; exact heap_alloc_new w _
  have HB1 : Hid (Below w.heap.size w w1) := by show Below _ _ _; rw [hw1]; exact (Below.refl _ w).alloc (Nat.le_refl _) _
  have hz1 : w.heap.size < w1.heap.size := by rw [hw1]; simp
  have c0 := Lib.cell_of_heap hrow 0
  have c1 := Lib.cell_of_heap hrow 1
  simp only [List.getElem?_toArray, List.getElem?_cons_zero, List.getElem?_cons_succ] at c0 c1
  have HC1 : Hid (w1.cell? ⟨w.heap.size, 1, none⟩ = some (.func (.func 22) #[] #[.pointer (some ⟨B0, 0, none⟩), .pointer (some ⟨B1, 0, none⟩)])) := c1
  clear c1 hrow
  go_enter Tryz.func24, Tryz.ntmps24
  go_wp2_with fail
  rw [← hw1]
  clear hw1
  go_wp2_with fail
  go_loopw [3, 4, 9] (fun b m i wr => ∃ k : Nat, k ≤ n ∧ b = .int .i64 (bsM f k).1 ∧ m = .int .i64 (bsM f k).2 ∧ i = .int .i64 k ∧ Hid (Below w1.heap.size w1 wr)) (fun _ _ i _ => n - (intOf i).toNat)
  case atStart => exact ⟨0, Nat.zero_le _, rfl, rfl, rfl, Below.refl _ _⟩
  case round =>
    obtain ⟨k, hk, rfl, rfl, rfl, hbl⟩ := hrel
    have HBw : Hid (Below w.heap.size w wr) := bel_trans HB1.out hbl.out
    clear c0
    by_cases hlt : k < n
    · have d1 : wr.cell? ⟨w.heap.size, 1, none⟩ = some (.func (.func 22) #[] #[.pointer (some ⟨B0, 0, none⟩), .pointer (some ⟨B1, 0, none⟩)]) := (hbl.out.cell (p := ⟨w.heap.size, 1, none⟩) hz1).trans HC1.out
      have YY : (bsM f k).2 < f k → Hid (bsM f (k + 1) = ((k : Int), f k)) := fun h => bsM_yes h
      have NN : f k ≤ (bsM f k).2 → Hid (bsM f (k + 1) = bsM f k) := fun h => bsM_no (Int.not_lt.2 h)
      generalize hX : f k = X at YY NN
      generalize hM : (bsM f k).2 = M at *
      have HX : Hid (f k = X) := hX
      have HM : Hid ((bsM f k).2 = M) := hM
      clear hX hM
      go_wp2_with fail
      refine (HC.out k wr hlt HBw.out).mono ?_
      rintro e w2 ⟨rfl, hb2⟩
      rw [HX.out]
      have HB2 : Hid (Below w1.heap.size w1 w2) := bel_trans hbl.out hb2
      clear hb2
      by_cases hq : M < X
      · have yy := YY hq
        clear YY NN
        go_wp2
        go_roundw
        case rel => exact ⟨k + 1, by omega, by rw [yy.out], by rw [yy.out], by go_num, HB2⟩
        case measure => simp [intOf]; omega
      · have nn := NN (Int.not_lt.1 hq)
        clear YY NN
        go_wp2
        go_roundw
        case rel => exact ⟨k + 1, by omega, by rw [nn.out], by rw [nn.out, HM.out], by go_num, HB2⟩
        case measure => simp [intOf]; omega
    · obtain rfl : k = n := by omega
      go_wp2
      go_ret
      exact ⟨rfl, HBw.out⟩

set_option maxHeartbeats 2000000 in
theorem Choose_any (v u : Value) (t : List Rng) (os : List Md) (hos : ∀ r ∈ os, OkMd r) (ho : os.length ≤ 16777216) (ht : ∀ r ∈ t, OkMd r.md) (hl : t.length ≤ 16777216) (w : World) (hv : RdRg v t w) (hu : RdMs u os w) :
    Calls Tryz.prog 9 #[v, u] w fun e w' => e = .returned (.int .i64 (bsM (fun k => likM t (nthM os k)) os.length).1) ∧ Below w.heap.size w w' := by
  obtain ⟨w3, hw3⟩ : ∃ w3, w3 = (w.alloc (.cells #[v] 23)).alloc (.cells #[u] 31) := ⟨_, rfl⟩
  have hb3 : Below w.heap.size w w3 := by rw [hw3]; exact ((Below.refl _ w).alloc (Nat.le_refl _) _).alloc (by simp) _
  have c0 : w3.cell? ⟨w.heap.size, 0, none⟩ = some v := by rw [hw3]; exact pastM1 _ _ (newM1 w v _)
  have c1 : w3.cell? ⟨w.heap.size + 1, 0, none⟩ = some u := by rw [hw3]; have h := newM1 (w.alloc (.cells #[v] 23)) u 31; rw [World.size_alloc] at h; exact h
  have HB : Hid (Calls Tryz.prog 24 #[.agg #[.int .i64 (os.length : Int), .func (.func 22) #[] #[.pointer (some ⟨w.heap.size, 0, none⟩), .pointer (some ⟨w.heap.size + 1, 0, none⟩)]]] w3 fun e w' => e = .returned (.int .i64 (bsM (fun k => likM t (nthM os k)) os.length).1) ∧ Below w3.heap.size w3 w') :=
    best_cho os.length (fun k => likM t (nthM os k)) ho w.heap.size (w.heap.size + 1) w3 (fun k W hk b => cho1_any v u t os w.heap.size (w.heap.size + 1) k hk hos ho ht hl W ((b.cell (World.block_lt_of_cell? _ _ c0)).trans c0) ((b.cell (World.block_lt_of_cell? _ _ c1)).trans c1) (hv.below (bel_trans hb3 b)) (hu.below (bel_trans hb3 b)))
  have HB3 : Hid (Below w.heap.size w w3) := hb3
  obtain ⟨a, c, rfl, _⟩ := hu
  obtain ⟨av, cv, rfl, _⟩ := hv
  generalize (bsM (fun k => likM t (nthM os k)) os.length).1 = R at *
  clear hos ht hb3
  subst hw3
  go_enter Tryz.func9, Tryz.ntmps9
  go_wp2_with fail
  refine HB.out.mono ?_
  rintro e w2 ⟨rfl, hb2⟩
  have HB2 : Hid (Below w.heap.size w w2) := bel_trans HB3.out hb2
  clear hb2
  go_wp2
  go_ret
  exact ⟨rfl, HB2.out⟩

/-- What is chosen is liked as well as any, and none ahead of it as well. -/
theorem bsM_says (f : Nat → Int) : ∀ n, (bsM f n).1 < (n : Int) ∧ -1 ≤ (bsM f n).1 ∧ 0 ≤ (bsM f n).2 ∧ ((bsM f n).1 = -1 → (bsM f n).2 = 0) ∧ (0 ≤ (bsM f n).1 → f (bsM f n).1.toNat = (bsM f n).2 ∧ 0 < (bsM f n).2) ∧ ∀ i, i < n → f i ≤ (bsM f n).2 ∧ (0 ≤ (bsM f n).1 → (i : Int) < (bsM f n).1 → f i ≠ (bsM f n).2)
  | 0 => ⟨by show (-1 : Int) < 0; decide, by show (-1 : Int) ≤ -1; decide, by show (0 : Int) ≤ 0; decide, fun _ => rfl, fun h => absurd h (by show ¬ (0 : Int) ≤ -1; decide), fun i hi => absurd hi (Nat.not_lt_zero i)⟩
  | n + 1 => by
    obtain ⟨h1, h2, h3, h4, h5, h6⟩ := bsM_says f n
    by_cases h : (bsM f n).2 < f n
    · rw [bsM_yes h]
      refine ⟨by show (n : Int) < ((n + 1 : Nat) : Int); omega, by show -1 ≤ (n : Int); omega, by show 0 ≤ f n; omega, fun e => by have e' : (n : Int) = -1 := e; omega, fun _ => ⟨by simp, by show 0 < f n; omega⟩, fun i hi => ?_⟩
      rcases Nat.lt_or_ge i n with hi' | hi'
      · have := (h6 i hi').1
        exact ⟨by show f i ≤ f n; omega, fun _ _ => by show f i ≠ f n; omega⟩
      · obtain rfl : i = n := by omega
        exact ⟨Int.le_refl _, fun _ e => by have e' : (i : Int) < (i : Int) := e; omega⟩
    · rw [bsM_no h]
      refine ⟨by show (bsM f n).1 < ((n + 1 : Nat) : Int); omega, h2, h3, h4, h5, fun i hi => ?_⟩
      rcases Nat.lt_or_ge i n with hi' | hi'
      · exact h6 i hi'
      · obtain rfl : i = n := by omega
        exact ⟨by omega, fun _ e => by omega⟩

end Ac
end Go.Proofs.YthfckgdaencagaaGreatDoor
