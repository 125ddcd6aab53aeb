/- Several texts as one. -/
import Derived.Test.YtjngpafokkjkdaaGreatDoorMgA1
import Derived.Deep.RegionHeld3
import Derived.BigQuiet
import Derived.Deep.QuietTactic
import Derived.OneCell
/-
  Contracts of the document's calendar: the date of a moment.
-/
set_option linter.unusedVariables false
set_option linter.unusedSimpArgs false
namespace Go.Proofs.YtjngpafokkjkdaaGreatDoor
open Go.RowKit
namespace Bs

def iv7 (st : List Int) : List Value := st.map fun x => Value.int .i64 x
theorem iv7_set (st : List Int) (i : Nat) (x : Int) : (iv7 st).set i (.int .i64 x) = iv7 (st.set i x) := by unfold iv7; rw [List.map_set]

/-- A date of the document's lies in block P. -/
structure Dcs (w : World) (P : Nat) (st : List Int) : Prop where
  len : st.length = 7
  blk : w.heap[P]? = some (.cells (iv7 st).toArray 125 (0, 0))
theorem Dcs.cell {w : World} {P : Nat} {st : List Int} (h : Dcs w P st) (i : Nat) (hi : i < 7) : w.cell? ⟨P, i, none⟩ = some (.int .i64 (g st i)) := by
  have := h.len
  have e : (iv7 st)[i]? = some (.int .i64 (g st i)) := by
    unfold iv7 g
    rw [List.getElem?_map, List.getD_eq_getElem?_getD, List.getElem?_eq_getElem (by omega)]
    rfl
  simp [World.cell?, h.blk, e]
theorem Dcs.lt {w : World} {P : Nat} {st : List Int} (h : Dcs w P st) : P < w.heap.size := (Array.getElem?_eq_some_iff.1 h.blk).1
theorem Dcs.but {bs : List Nat} {w w' : World} {P : Nat} {st : List Int} (h : Dcs w P st) (b : But bs w w') (hn : P ∉ bs) : Dcs w' P st := ⟨h.len, b.heap h.blk hn⟩
theorem Dcs.bel {w w' : World} {P : Nat} {st : List Int} (h : Dcs w P st) (b : Below w.heap.size w w') : Dcs w' P st := h.but (But.of_below b) (fun e => by cases e)
theorem Dcs.set {w : World} {P : Nat} {st : List Int} (h : Dcs w P st) (i : Nat) (hi : i < 7) (x : Int) : Dcs (w.setCell ⟨P, i, none⟩ (.int .i64 x)) P (st.set i x) := by
  refine ⟨by rw [List.length_set]; exact h.len, ?_⟩
  have hl := h.lt
  have hb := h.blk
  rw [← iv7_set]
  unfold World.setCell
  rw [Array.getElem?_modify, if_pos rfl, hb]
  simp
theorem Dcs.free {w : World} {P : Nat} {st : List Int} (h : Dcs w P st) (i : Nat) : w.frozen? ⟨P, i, none⟩ = false := by
  simp [World.frozen?, h.blk]
theorem Dcs.new (w : World) (st : List Int) (h : st.length = 7) : Dcs (w.alloc (.cells (iv7 st).toArray 125)) w.heap.size st := ⟨h, by rw [heap_alloc_new]⟩

theorem day_q (t : Int) : (t.tmod 86400 < 0 → t.tdiv 86400 - 1 = t / 86400 ∧ t.tmod 86400 + 86400 = t % 86400) ∧ (¬ t.tmod 86400 < 0 → t.tdiv 86400 = t / 86400 ∧ t.tmod 86400 = t % 86400) ∧ -86400 < t.tmod 86400 ∧ t.tmod 86400 < 86400 := by
  have e := Int.mul_tdiv_add_tmod t 86400
  have a1 : -86400 < t.tmod 86400 := Int.lt_tmod_of_pos _ (by omega)
  have a2 : t.tmod 86400 < 86400 := Int.tmod_lt_of_pos _ (by omega)
  omega

set_option maxRecDepth 100000 in
set_option maxHeartbeats 4000000 in
theorem rSplit_any (t : Int) (ht : I64 t) (w : World) :
    Calls Tryz.prog 78 #[.int .i64 t] w fun e w' => e = .returned (.tuple #[(splitR t).1, .int .i64 (splitR t).2]) ∧ Below w.heap.size w w' := by
  obtain ⟨t0, t1⟩ := ht
  by_cases h1 : t < -62135596800
  · unfold splitR
    rw [if_neg (by unfold isM; omega)]
    go_enter Tryz.func78, Tryz.ntmps78
    go_wp2
    exact bodyPost_ret (v := .tuple #[dv7 0 0 0 0 0 0 0, .int .i64 40]) (by simp [results, Tryz.results78, go_sem, dv7]) rfl ⟨rfl, ((But.refl [] w).alloc _).to_below⟩
  by_cases h2 : 253402300799 < t
  · unfold splitR
    rw [if_neg (by unfold isM; omega)]
    go_enter Tryz.func78, Tryz.ntmps78
    go_wp2
    exact bodyPost_ret (v := .tuple #[dv7 0 0 0 0 0 0 0, .int .i64 40]) (by simp [results, Tryz.results78, go_sem, dv7]) rfl ⟨rfl, ((But.refl [] w).alloc _).to_below⟩
  unfold splitR
  rw [if_pos (by unfold isM; omega)]
  unfold splitV
  obtain ⟨dq1, dq2, dq3, dq4⟩ := day_q t
  have hD1 : -719162 ≤ t / 86400 := by omega
  have hD2 : t / 86400 ≤ 2932896 := by omega
  have r1 : 0 ≤ t % 86400 ∧ t % 86400 < 86400 := by omega
  have HWD : Hid (∀ w, Calls Tryz.prog 50 #[.int .i64 (t / 86400)] w fun e w' => e = .returned (.int .i64 (wday (t / 86400))) ∧ w' = w) := fun w => rWeekday_any _ (by omega) (by omega) w
  have q1 : t % 86400 / 3600 = (t % 86400).tdiv 3600 := (tq r1.1).symm
  have hmn : t % 86400 % 3600 / 60 = t % 86400 / 60 % 60 := by omega
  rw [hmn]
  generalize hDD : t / 86400 = D at *
  generalize hRR : t % 86400 = R at *
  have tb : -720000 ≤ t.tdiv 86400 ∧ t.tdiv 86400 ≤ 3000000 := by omega
  generalize hTD : t.tdiv 86400 = TD at *
  generalize hTM : t.tmod 86400 = TM at *
  have c1 : R.tdiv 3600 = R / 3600 := tq r1.1
  have c2 : R.tdiv 60 = R / 60 := tq r1.1
  have c3 : (R / 60).tmod 60 = R / 60 % 60 := tr (by omega)
  have c4 : R.tmod 60 = R % 60 := tr r1.1
  clear q1 hmn
  have HJR : Hid (∀ k, 1 ≤ k → k ≤ 10000 → -719162 ≤ jan k ∧ jan k ≤ 2932897) := fun k h1 h2 => by
    have a := jan_mono h1
    have b := jan_mono h2
    rw [jan_one] at a
    rw [jan_end] at b
    exact ⟨a, b⟩
  have HYR : Hid (∀ k : Int, 365 ≤ yd k ∧ yd k ≤ 366) := fun k => by have := feb_or k; rw [yd_feb]; omega
  have HJS : Hid (∀ k, jan (k + 1) = jan k + yd k) := jan_succ
  have HYD : Hid (∀ k, I64 k → ∀ w, Calls Tryz.prog 80 #[.int .i64 k] w fun e w' => e = .returned (.int .i64 (yd k)) ∧ w' = w) := fun k hk w => ryearDays_any k hk w
  have HMD : Hid (∀ y k, I64 y → I64 k → ∀ w, Calls Tryz.prog 79 #[.int .i64 y, .int .i64 k] w fun e w' => e = .returned (.int .i64 (md y k)) ∧ Below w.heap.size w w') := fun y k hy hk w => rMonthDays_any y k hy hk w
  have ed : (TM < 0 ∧ TD - 1 = D ∧ TM + 86400 = R) ∨ (¬ TM < 0 ∧ TD = D ∧ TM = R) := by omega
  clear dq1 dq2
  obtain ⟨W7, hW7⟩ : ∃ W7, W7 = wday D := ⟨_, rfl⟩
  rw [← hW7] at HWD ⊢
  obtain ⟨H4, hH4⟩ : ∃ H4, H4 = R / 3600 := ⟨_, rfl⟩
  rw [← hH4] at c1 ⊢
  obtain ⟨M4, hM4⟩ : ∃ M4, M4 = R / 60 % 60 := ⟨_, rfl⟩
  rw [← hM4] at c3 ⊢
  obtain ⟨S4, hS4⟩ : ∃ S4, S4 = R % 60 := ⟨_, rfl⟩
  rw [← hS4] at c4 ⊢
  have bH : 0 ≤ H4 ∧ H4 ≤ 23 := by omega
  have bM : 0 ≤ M4 ∧ M4 ≤ 59 := by omega
  have bS : 0 ≤ S4 ∧ S4 ≤ 59 := by omega
  clear hW7 hH4 hM4 hS4
  have HYMD : Hid (∀ q k l : Int, 1 ≤ q → q ≤ 9999 → 0 ≤ l → l < md q k → jan q + (cum q k + l) = D → ymd D = (q, k, l + 1)) := fun q k l q1 q2 l1 l2 e => ymd_eq ⟨q1, q2, by omega, by omega⟩ (by unfold dn; omega)
  rcases ed with ⟨hr, e1, e2⟩ | ⟨hr, e1, e2⟩
  all_goals
    go_enter Tryz.func78, Tryz.ntmps78
    go_wp2_with fail
    refine (HWD.out _).mono ?_
    rintro e w' ⟨rfl, rfl⟩
    go_wp2
    obtain ⟨W0, hW0⟩ : ∃ W0, W0 = ((w.alloc (.cells #[.int .i64 0, .int .i64 0, .int .i64 0, .int .i64 0, .int .i64 0, .int .i64 0, .int .i64 0] 125)).alloc (.cells #[.int .i64 1970, .int .i64 1, .int .i64 0, .int .i64 H4, .int .i64 M4, .int .i64 S4, .int .i64 W7] 125)) := ⟨_, rfl⟩
    obtain ⟨P0, hP0⟩ : ∃ P0, P0 = w.heap.size := ⟨_, rfl⟩
    have HD0 : Hid (Dcs W0 (P0 + 1) [1970, 1, 0, H4, M4, S4, W7]) := (by
      have := Dcs.new (w.alloc (.cells #[.int .i64 0, .int .i64 0, .int .i64 0, .int .i64 0, .int .i64 0, .int .i64 0, .int .i64 0] 125)) [1970, 1, 0, H4, M4, S4, W7] rfl
      rw [hW0, hP0]
      rw [show (w.alloc (.cells #[.int .i64 0, .int .i64 0, .int .i64 0, .int .i64 0, .int .i64 0, .int .i64 0, .int .i64 0] 125)).heap.size = w.heap.size + 1 by simp] at this
      exact this : Dcs W0 (P0 + 1) [1970, 1, 0, H4, M4, S4, W7])
    have HZ0 : Hid (Dcs W0 P0 [0, 0, 0, 0, 0, 0, 0]) := hW0 ▸ hP0 ▸ (Dcs.new w [0, 0, 0, 0, 0, 0, 0] rfl).but ((But.refl [] _).alloc _) (fun e => by cases e)
    have HB0 : Hid (Below P0 w W0) := hW0 ▸ hP0 ▸ (((But.refl [] w).alloc _).alloc _).to_below
    rw [← hW0, ← hP0]
    have HP0 : Hid (P0 = w.heap.size) := hP0
    clear hW0 hP0
    go_loopw [4] (fun n wr => ∃ q x : Int, 1 ≤ q ∧ q ≤ 1970 ∧ Hid (jan q + x = D) ∧ n = .int .i64 x ∧ Hid (Dcs wr (P0 + 1) [q, 1, 0, H4, M4, S4, W7]) ∧ Hid (But [P0 + 1] W0 wr) ∧ Hid (x < 366 * 8100)) (fun n _ => (-(intOf n)).toNat)
    case atStart => exact ⟨1970, D, by omega, by omega, (by rw [jan_1970]; omega : jan 1970 + D = D), rfl, HD0, But.refl _ _, (by omega : D < 366 * 8100)⟩
    case round =>
      obtain ⟨q, x, q1, q2, hjx, rfl, HD, HBt, hx0⟩ := hrel
      have qr := HJR.out q (by omega) (by omega)
      have jx := hjx.out
      by_cases hx : x < 0
      · have c0 := HD.out.cell 0 (by omega)
        have f0 := HD.out.free 0
        have hq : 1 < q := by
          by_cases h : q = 1
          · subst h
            rw [jan_one] at jx
            omega
          · omega
        have yr := HYR.out (q - 1)
        have js := HJS.out (q - 1)
        rw [show q - 1 + 1 = q by omega] at js
        clear HD0 HZ0 HB0 hjx
        simp only [g, List.getD_cons_zero] at c0
        have JS : Hid (_ = _) := js
        have JX : Hid (_ = _) := jx
        have xl : -4000000 ≤ x := by omega
        clear js jx qr
        go_wp2_with fail
        refine (HYD.out (q - 1) ⟨by omega, by omega⟩ _).mono ?_
        rintro e w' ⟨rfl, rfl⟩
        go_wp2
        exact ⟨⟨q - 1, x + yd (q - 1), by omega, by omega, (by have := JS.out; have := JX.out; omega : jan (q - 1) + (x + yd (q - 1)) = D), rfl, HD.out.set 0 (by omega) _, HBt.out.setCell (by simp) _, (by omega : x + yd (q - 1) < 366 * 8100)⟩, by simp [intOf]; omega⟩
      · have HDa : Hid (Dcs wr (P0 + 1) [q, 1, 0, H4, M4, S4, W7]) := HD
        have JX : Hid (_ = _) := jx
        have hx1 := hx0.out
        clear hjx jx qr HD0 HD
        go_wp2
        go_loopw [4] (fun n wr => ∃ q x : Int, 1 ≤ q ∧ q ≤ 9999 ∧ 0 ≤ x ∧ x < 366 * 8100 ∧ Hid (jan q + x = D) ∧ n = .int .i64 x ∧ Hid (Dcs wr (P0 + 1) [q, 1, 0, H4, M4, S4, W7]) ∧ Hid (But [P0 + 1] W0 wr)) (fun n _ => (intOf n).toNat)
        case atStart => exact ⟨q, x, by omega, by omega, by omega, hx1, JX, rfl, HDa, HBt⟩
        case round =>
          clear HDa HBt JX hx1 hx hx0 q1 q2
          obtain ⟨q, x, q1, q2, x1, x2, JX, rfl, HD, HBt⟩ := hrel
          have c0 := HD.out.cell 0 (by omega)
          have c1' := HD.out.cell 1 (by omega)
          have f0 := HD.out.free 0
          have yr := HYR.out q
          simp only [g, List.getD_cons_zero, List.getD_cons_succ] at c0 c1'
          by_cases hx : yd q ≤ x
          · have hq : q + 1 ≤ 9999 := by
              by_cases h : q = 9999
              · subst h
                have := HJS.out 9999
                have := JX.out
                have := jan_end
                simp only [show (9999 : Int) + 1 = 10000 from rfl] at *
                omega
              · omega
            have JS : Hid (_ = _) := HJS.out q
            go_wp2_with fail
            refine (HYD.out q ⟨by omega, by omega⟩ _).mono ?_
            rintro e w' ⟨rfl, rfl⟩
            go_wp2_with fail
            refine (HYD.out q ⟨by omega, by omega⟩ _).mono ?_
            rintro e w' ⟨rfl, rfl⟩
            go_wp2
            exact ⟨⟨q + 1, x - yd q, by omega, by omega, by omega, by omega, (by have := JS.out; have := JX.out; omega : jan (q + 1) + (x - yd q) = D), rfl, HD.out.set 0 (by omega) _, HBt.out.setCell (by simp) _⟩, by simp [intOf]; omega⟩
          · go_wp2_with fail
            refine (HYD.out q ⟨by omega, by omega⟩ _).mono ?_
            rintro e w' ⟨rfl, rfl⟩
            go_wp2
            go_loopw [4] (fun n wr => ∃ k l : Int, 1 ≤ k ∧ k ≤ 12 ∧ 0 ≤ l ∧ l ≤ x ∧ Hid (cum q k + l = x) ∧ n = .int .i64 l ∧ Hid (Dcs wr (P0 + 1) [q, k, 0, H4, M4, S4, W7]) ∧ Hid (But [P0 + 1] W0 wr)) (fun n _ => (intOf n).toNat)
            case atStart => exact ⟨1, x, by omega, by omega, by omega, by omega, (by rw [cum_one]; omega : cum q 1 + x = x), rfl, HD, HBt⟩
            case round =>
              clear HD HBt c0 c1' f0
              obtain ⟨k, l, k1, k2, l1, l2, HC, rfl, HD, HBt⟩ := hrel
              have c0 := HD.out.cell 0 (by omega)
              have c1' := HD.out.cell 1 (by omega)
              have f1 := HD.out.free 1
              have mr := md_ge (y := q) k1 k2
              simp only [g, List.getD_cons_zero, List.getD_cons_succ] at c0 c1'
              by_cases hk : md q k ≤ l
              · have hs := cum_succ q k k1 k2
                have hk13 : k + 1 ≤ 12 := by
                  by_cases h : k = 12
                  · subst h
                    have h13 := cum_13 q
                    have := HC.out
                    simp only [show (12 : Int) + 1 = 13 from rfl] at hs
                    omega
                  · omega
                have HS : Hid (_ = _) := hs
                clear hs
                go_wp2_with fail
                refine (HMD.out q k ⟨by omega, by omega⟩ ⟨by omega, by omega⟩ _).mono ?_
                rintro e w2 ⟨rfl, b2⟩
                replace HD : Hid _ := HD.out.bel b2
                replace HBt : Hid _ := HBt.out.trans (But.of_below b2).nil
                clear b2 c0 c1' f1
                have c0 := HD.out.cell 0 (by omega)
                have c1' := HD.out.cell 1 (by omega)
                simp only [g, List.getD_cons_zero, List.getD_cons_succ] at c0 c1'
                go_wp2_with fail
                refine (HMD.out q k ⟨by omega, by omega⟩ ⟨by omega, by omega⟩ _).mono ?_
                rintro e w3 ⟨rfl, b3⟩
                replace HD : Hid _ := HD.out.bel b3
                replace HBt : Hid _ := HBt.out.trans (But.of_below b3).nil
                clear b3 c0 c1'
                have c1' := HD.out.cell 1 (by omega)
                have f1 := HD.out.free 1
                simp only [g, List.getD_cons_zero, List.getD_cons_succ] at c1'
                go_wp2
                exact ⟨⟨k + 1, l - md q k, by omega, by omega, by omega, by omega, (by have := HS.out; have := HC.out; omega : cum q (k + 1) + (l - md q k) = x), rfl, HD.out.set 1 (by omega) _, HBt.out.setCell (by simp) _⟩, by simp [intOf]; omega⟩
              · have HY : Hid (ymd D = (q, k, l + 1)) := HYMD.out q k l q1 q2 l1 (by omega) (by have := HC.out; have := JX.out; omega)
                go_wp2_with fail
                refine (HMD.out q k ⟨by omega, by omega⟩ ⟨by omega, by omega⟩ _).mono ?_
                rintro e w2 ⟨rfl, b2⟩
                replace HD : Hid _ := HD.out.bel b2
                replace HBt : Hid _ := HBt.out.trans (But.of_below b2).nil
                clear b2 c0 c1' f1
                have f2 := HD.out.free 2
                have k0 := HD.out.cell 0 (by omega)
                have k1' := HD.out.cell 1 (by omega)
                have k2' := HD.out.cell 2 (by omega)
                have k3 := HD.out.cell 3 (by omega)
                have k4 := HD.out.cell 4 (by omega)
                have k5 := HD.out.cell 5 (by omega)
                have k6 := HD.out.cell 6 (by omega)
                have hz := HZ0.out.but HBt.out (fun e => by simp at e)
                have z0 := hz.cell 0 (by omega)
                have z1 := hz.cell 1 (by omega)
                have z2 := hz.cell 2 (by omega)
                have z3 := hz.cell 3 (by omega)
                have z4 := hz.cell 4 (by omega)
                have z5 := hz.cell 5 (by omega)
                have z6 := hz.cell 6 (by omega)
                have y0 := hz.free 0
                have y1 := hz.free 1
                have y2 := hz.free 2
                have y3 := hz.free 3
                have y4 := hz.free 4
                have y5 := hz.free 5
                have y6 := hz.free 6
                simp only [g, List.getD_cons_zero, List.getD_cons_succ] at k0 k1' k2' k3 k4 k5 k6 z0 z1 z2 z3 z4 z5 z6
                have HZ : Hid (Below w.heap.size w w2) := (by
                  have b := HBt.out.below (B := P0) (by have := HB0.out.size; have := HP0.out; omega) (fun x e => by simp at e; omega)
                  have e := HP0.out
                  rw [← e]
                  exact HB0.out.trans b : Below w.heap.size w w2)
                clear hz HB0 HBt HZ0
                go_wp2
                refine bodyPost_ret (v := .tuple #[dv7 q k (l + 1) H4 M4 S4 W7, .int .i64 0]) (by simp [results, Tryz.results78, go_sem, dv7, *]) rfl ⟨by rw [HY.out], ?_⟩
                refine HZ.out.trans (But.below (bs := [P0, P0 + 1]) (B := w.heap.size) ?_ ?_ ?_)
                · iterate 8 refine But.setCell ?_ (by simp) _
                  exact But.refl _ _
                · have := HZ.out.size
                  omega
                · intro x e
                  have := HP0.out
                  simp at e
                  omega

end Bs
end Go.Proofs.YtjngpafokkjkdaaGreatDoor

/-
  The document's names, digits, patterns.
-/
set_option linter.unusedVariables false
set_option linter.unusedSimpArgs false
namespace Go.Proofs.YtjngpafokkjkdaaGreatDoor
open Go.RowKit
namespace Bs

set_option maxHeartbeats 1000000 in
theorem rLongName_any (k : Nat) (hk : k < 7) (w : World) :
    Calls Tryz.prog 74 #[.int .i64 (k : Int)] w fun e w' => e = .returned (.string (str (longs.getD k []))) ∧ Below w.heap.size w w' := by
  rcases (by omega : k = 0 ∨ k = 1 ∨ k = 2 ∨ k = 3 ∨ k = 4 ∨ k = 5 ∨ k = 6) with rfl | rfl | rfl | rfl | rfl | rfl | rfl
  all_goals
    go_enter Tryz.func74, Tryz.ntmps74
    go_wp2
    go_ret
    exact ⟨rfl, ((But.refl [] _).alloc _).to_below⟩

theorem short_long : ∀ k : Fin 7, (longs.getD k.val []).take 3 = shorts.getD k.val [] := by decide
theorem str_cut (l : List UInt8) (a b : Nat) : (str l).extract a b = str ((l.take b).drop a) := by
  apply eq_list
  rw [str_list]
  simp [str, ByteArray.data_extract, List.drop_take]

set_option maxHeartbeats 1000000 in
theorem rShortName_any (k : Nat) (hk : k < 7) (w : World) :
    Calls Tryz.prog 73 #[.int .i64 (k : Int)] w fun e w' => e = .returned (.string (str (shorts.getD k []))) ∧ Below w.heap.size w w' := by
  have HL : Hid (Calls Tryz.prog 74 #[.int .i64 (k : Int)] w fun e w' => e = .returned (.string (str (longs.getD k []))) ∧ Below w.heap.size w w') := rLongName_any k hk w
  have hz : 3 ≤ (str (longs.getD k [])).size := by rw [str_size]; have := longs_n' hk; omega
  have HE : Hid ((str (longs.getD k [])).extract 0 3 = str (shorts.getD k [])) := (by rw [str_cut]; exact congrArg str (short_long ⟨k, hk⟩) : _ = _)
  generalize str (longs.getD k []) = S at *
  go_enter Tryz.func73, Tryz.ntmps73
  go_wp2_with fail
  refine Calls.mono HL.out ?_
  rintro e w1 ⟨rfl, b1⟩
  have HB : Hid (Below w.heap.size w w1) := b1
  clear b1
  go_wp2
  go_ret
  exact ⟨ret_string HE.out, HB.out⟩

set_option maxHeartbeats 1000000 in
theorem rMonthName_any (k : Nat) (hk : k < 12) (w : World) :
    Calls Tryz.prog 99 #[.int .i64 (k : Int)] w fun e w' => e = .returned (.string (str (mons.getD k []))) ∧ w' = w := by
  rcases (by omega : k = 0 ∨ k = 1 ∨ k = 2 ∨ k = 3 ∨ k = 4 ∨ k = 5 ∨ k = 6 ∨ k = 7 ∨ k = 8 ∨ k = 9 ∨ k = 10 ∨ k = 11) with rfl | rfl | rfl | rfl | rfl | rfl | rfl | rfl | rfl | rfl | rfl | rfl
  all_goals
    go_enter Tryz.func99, Tryz.ntmps99
    go_wp2
    go_ret
    exact ⟨rfl, rfl⟩

def patL (form : Int) : List UInt8 := if form = 0 then [119, 44, 32, 100, 32, 109, 32, 121, 32, 104, 58, 105, 58, 115, 32, 71, 77, 84] else if form = 1 then [108, 44, 32, 100, 45, 109, 45, 99, 32, 104, 58, 105, 58, 115, 32, 71, 77, 84] else [119, 32, 109, 32, 101, 32, 104, 58, 105, 58, 115, 32, 121]
theorem patL_len (form : Int) : (patL form).length ≤ 18 := by
  unfold patL
  split
  · decide
  · split <;> decide

set_option maxHeartbeats 1000000 in
theorem rpattern_any (form : Int) (hf : I64 form) (w : World) :
    Calls Tryz.prog 75 #[.int .i64 form] w fun e w' => e = .returned (.string (str (patL form))) ∧ w' = w := by
  unfold patL
  by_cases h0 : form = 0
  · subst h0
    go_enter Tryz.func75, Tryz.ntmps75
    go_wp2
    go_ret
    exact ⟨rfl, rfl⟩
  by_cases h1 : form = 1
  · subst h1
    go_enter Tryz.func75, Tryz.ntmps75
    go_wp2
    go_ret
    exact ⟨rfl, rfl⟩
  · have e0 : (form == 0) = false := by simp [h0]
    have e1 : (form == 1) = false := by simp [h1]
    rw [if_neg h0, if_neg h1]
    go_enter Tryz.func75, Tryz.ntmps75
    go_wp2
    go_ret
    exact ⟨rfl, rfl⟩

/- Digits. -/
def lowd (n : Nat) : Nat → List UInt8
  | 0 => []
  | i + 1 => dg (n / 10 ^ i) :: lowd n i
theorem lowd_len (n : Nat) : ∀ i, (lowd n i).length = i
  | 0 => rfl
  | i + 1 => by
    unfold lowd
    rw [List.length_cons, lowd_len n i]
theorem lowd_2 (n : Nat) : lowd n 2 = d2 n := by simp [lowd, d2]
theorem lowd_1 (n : Nat) : lowd n 1 = [dg n] := by simp [lowd]
theorem lowd_4 (n : Nat) : lowd n 4 = d4 n := by simp [lowd, d4]

end Bs
end Go.Proofs.YtjngpafokkjkdaaGreatDoor

/-
  The document's reading of a date, letter by letter, plain: the same as the takers'.
-/
set_option linter.unusedVariables false
set_option linter.unusedSimpArgs false
namespace Go.Proofs.YtjngpafokkjkdaaGreatDoor
namespace Bs

def tkc (c : UInt8) : TK :=
  if c = 119 then .nm 0 0 else if c = 108 then .nm 1 0 else if c = 109 then .nm 2 2 else if c = 100 then .dg 2 1 else if c = 101 then .lo 1
  else if c = 121 then .dg 4 3 else if c = 99 then .dg 2 3 else if c = 104 then .dg 2 4 else if c = 105 then .dg 2 5 else if c = 115 then .dg 2 6 else .ex [c]
def namR (l : List UInt8) (a : Nat) (ns : List (List UInt8)) : Except Nat (Nat × Int) := match nam l a ns with
  | some i => .ok (a + (ns.getD i []).length, (i : Int))
  | none => .error a
def loS (l : List UInt8) (a : Nat) : Except Nat (Nat × Int) := if l[a]? = some 32 then dgs l 1 (a + 1) 0 else dgs l 2 a 0
def rtake (l : List UInt8) (a : Nat) (c : UInt8) : Except Nat (Nat × Int) :=
  if c = 119 then namR l a shorts else if c = 108 then namR l a longs else if c = 109 then namR l a mons else if c = 100 then dgs l 2 a 0 else if c = 101 then loS l a
  else if c = 121 then dgs l 4 a 0 else if c = 99 then dgs l 2 a 0 else if c = 104 then dgs l 2 a 0 else if c = 105 then dgs l 2 a 0 else if c = 115 then dgs l 2 a 0
  else if l[a]? = some c then .ok (a + 1, 0) else .error a
def rput (fs : List Int) (c : UInt8) (v a : Int) : List Int :=
  if c = 119 then fs.set 0 v else if c = 108 then fs.set 0 v else if c = 109 then fs.set 1 (v + 1) else if c = 100 then (fs.set 2 v).set 7 a else if c = 101 then (fs.set 2 v).set 7 a
  else if c = 121 then (fs.set 3 v).set 8 a else if c = 99 then (fs.set 3 v).set 8 a else if c = 104 then (fs.set 4 v).set 9 a else if c = 105 then (fs.set 5 v).set 10 a else if c = 115 then (fs.set 6 v).set 11 a else fs
def tput (st : List Int) (c : UInt8) (v a : Int) : List Int :=
  if c = 119 then put st 0 v a else if c = 108 then put st 0 v a else if c = 109 then put st 2 v a else if c = 100 then put st 1 v a else if c = 101 then put st 1 v a
  else if c = 121 then put st 3 v a else if c = 99 then put st 3 v a else if c = 104 then put st 4 v a else if c = 105 then put st 5 v a else if c = 115 then put st 6 v a else st
def rsteps (l : List UInt8) : List UInt8 → Nat → List Int → Except Nat (Nat × List Int)
  | [], a, fs => .ok (a, fs)
  | c :: cs, a, fs => match rtake l a c with
    | .ok (b, v) => rsteps l cs b (rput fs c v a)
    | .error e => .error e
theorem take1_c (l : List UInt8) (a : Nat) (st : List Int) (c : UInt8) : take1 l a st (tkc c) = match rtake l a c with
    | .ok (b, v) => .ok (b, tput st c v a)
    | .error e => .error e := by
  unfold tkc rtake tput
  by_cases h1 : c = 119
  · simp only [if_pos h1, take1, namR, nms]
    cases nam l a shorts <;> rfl
  by_cases h2 : c = 108
  · simp only [if_neg h1, if_pos h2, take1, namR, nms]
    cases nam l a longs <;> rfl
  by_cases h3 : c = 109
  · simp only [if_neg h1, if_neg h2, if_pos h3, take1, namR, nms]
    cases nam l a mons <;> rfl
  by_cases h4 : c = 100
  · simp only [if_neg h1, if_neg h2, if_neg h3, if_pos h4, take1]
    rfl
  by_cases h5 : c = 101
  · simp only [if_neg h1, if_neg h2, if_neg h3, if_neg h4, if_pos h5, take1, loS]
    split <;> rfl
  by_cases h6 : c = 121
  · simp only [if_neg h1, if_neg h2, if_neg h3, if_neg h4, if_neg h5, if_pos h6, take1]
    rfl
  by_cases h7 : c = 99
  · simp only [if_neg h1, if_neg h2, if_neg h3, if_neg h4, if_neg h5, if_neg h6, if_pos h7, take1]
    rfl
  by_cases h8 : c = 104
  · simp only [if_neg h1, if_neg h2, if_neg h3, if_neg h4, if_neg h5, if_neg h6, if_neg h7, if_pos h8, take1]
    rfl
  by_cases h9 : c = 105
  · simp only [if_neg h1, if_neg h2, if_neg h3, if_neg h4, if_neg h5, if_neg h6, if_neg h7, if_neg h8, if_pos h9, take1]
    rfl
  by_cases h10 : c = 115
  · simp only [if_neg h1, if_neg h2, if_neg h3, if_neg h4, if_neg h5, if_neg h6, if_neg h7, if_neg h8, if_neg h9, if_pos h10, take1]
    rfl
  · simp only [if_neg h1, if_neg h2, if_neg h3, if_neg h4, if_neg h5, if_neg h6, if_neg h7, if_neg h8, if_neg h9, if_neg h10, take1, exs]
    by_cases h : l[a]? = some c
    · simp only [if_pos h]
    · simp only [if_neg h]

def fsOf (seen : Bool) (st : List Int) : List Int := [g st 0, if seen then g st 4 + 1 else 0, g st 2, g st 6, g st 8, g st 10, g st 12, g st 3, g st 7, g st 9, g st 11, g st 13]
def z12 : List Int := [0, 0, 0, 0, 0, 0, 0, 0, 0, 0, 0, 0]
theorem list14 {α : Type} {l : List α} (h : l.length = 14) : ∃ a b c d e f g' h' i j k m n o, l = [a, b, c, d, e, f, g', h', i, j, k, m, n, o] := by
  match l, h with
  | [a, b, c, d, e, f, g', h', i, j, k, m, n, o], _ => exact ⟨a, b, c, d, e, f, g', h', i, j, k, m, n, o, rfl⟩
theorem tput_len {st : List Int} (c : UInt8) (v a : Int) (h : st.length = 14) : (tput st c v a).length = 14 := by
  unfold tput put
  repeat' split
  all_goals simp [h]
theorem rput_fs {st : List Int} (h : st.length = 14) (seen : Bool) (c : UInt8) (v a : Int) : rput (fsOf seen st) c v a = fsOf (seen || c == 109) (tput st c v a) := by
  obtain ⟨x0, x1, x2, x3, x4, x5, x6, x7, x8, x9, xa, xb, xc, xd, rfl⟩ := list14 h
  unfold rput tput
  by_cases h1 : c = 119
  · simp only [if_pos h1]
    subst h1
    simp [fsOf, put, g]
  by_cases h2 : c = 108
  · simp only [if_neg h1, if_pos h2]
    subst h2
    simp [fsOf, put, g]
  by_cases h3 : c = 109
  · simp only [if_neg h1, if_neg h2, if_pos h3]
    subst h3
    simp [fsOf, put, g]
  have hc : (c == 109) = false := by simpa using h3
  rw [hc, Bool.or_false]
  by_cases h4 : c = 100
  · simp only [if_neg h1, if_neg h2, if_neg h3, if_pos h4]
    simp [fsOf, put, g]
  by_cases h5 : c = 101
  · simp only [if_neg h1, if_neg h2, if_neg h3, if_neg h4, if_pos h5]
    simp [fsOf, put, g]
  by_cases h6 : c = 121
  · simp only [if_neg h1, if_neg h2, if_neg h3, if_neg h4, if_neg h5, if_pos h6]
    simp [fsOf, put, g]
  by_cases h7 : c = 99
  · simp only [if_neg h1, if_neg h2, if_neg h3, if_neg h4, if_neg h5, if_neg h6, if_pos h7]
    simp [fsOf, put, g]
  by_cases h8 : c = 104
  · simp only [if_neg h1, if_neg h2, if_neg h3, if_neg h4, if_neg h5, if_neg h6, if_neg h7, if_pos h8]
    simp [fsOf, put, g]
  by_cases h9 : c = 105
  · simp only [if_neg h1, if_neg h2, if_neg h3, if_neg h4, if_neg h5, if_neg h6, if_neg h7, if_neg h8, if_pos h9]
    simp [fsOf, put, g]
  by_cases h10 : c = 115
  · simp only [if_neg h1, if_neg h2, if_neg h3, if_neg h4, if_neg h5, if_neg h6, if_neg h7, if_neg h8, if_neg h9, if_pos h10]
    simp [fsOf, put, g]
  · simp only [if_neg h1, if_neg h2, if_neg h3, if_neg h4, if_neg h5, if_neg h6, if_neg h7, if_neg h8, if_neg h9, if_neg h10]
theorem rsteps_takes (l : List UInt8) : ∀ (cs : List UInt8) (a : Nat) (st : List Int) (seen : Bool), st.length = 14 → rsteps l cs a (fsOf seen st) = match takes l (cs.map tkc) a st with
    | .ok (b, st') => .ok (b, fsOf (seen || cs.contains 109) st')
    | .error e => .error e
  | [], a, st, seen, h => by simp [rsteps, takes]
  | c :: cs, a, st, seen, h => by
    rw [List.map_cons]
    unfold rsteps takes
    rw [take1_c]
    cases hr : rtake l a c with
    | error e => rfl
    | ok r =>
      obtain ⟨b, v⟩ := r
      dsimp only
      rw [rput_fs h, rsteps_takes l cs b (tput st c v a) (seen || c == 109) (tput_len c v a h)]
      have e : (seen || c == 109 || cs.contains 109) = (seen || (c :: cs).contains 109) := by
        rw [List.contains_cons, Bool.or_assoc]
        have : (c == 109) = (109 == c) := by
          rw [Bool.eq_iff_iff, beq_iff_eq, beq_iff_eq]
          exact eq_comm
        rw [this]
      rw [e]
theorem takes_ok {l : List UInt8} {t : TK} {ts : List TK} {a : Nat} {st : List Int} {b : Nat} {st' : List Int} (h : take1 l a st t = .ok (b, st')) : takes l (t :: ts) a st = takes l ts b st' := takes_cons h
theorem takes_er {l : List UInt8} {t : TK} {ts : List TK} {a : Nat} {st : List Int} {e : Nat} (h : take1 l a st t = .error e) : takes l (t :: ts) a st = .error e := by
  conv => lhs; unfold takes
  rw [h]
theorem takes_ex2 (l : List UInt8) (c d : UInt8) (t : List UInt8) (ts : List TK) (a : Nat) (st : List Int) : takes l (.ex (c :: d :: t) :: ts) a st = takes l (.ex [c] :: .ex (d :: t) :: ts) a st := by
  by_cases h : l[a]? = some c
  · have e0 : exs l [c] a = .ok (a + 1) := by simp only [exs, if_pos h]
    have e1 : exs l (c :: d :: t) a = exs l (d :: t) (a + 1) := by
      conv => lhs; unfold exs
      rw [if_pos h]
    rw [takes_ok (t := .ex [c]) (b := a + 1) (st' := st) (by simp only [take1, e0])]
    cases hr : exs l (d :: t) (a + 1) with
    | ok b => rw [takes_ok (t := .ex (c :: d :: t)) (b := b) (st' := st) (by simp only [take1, e1, hr]), takes_ok (t := .ex (d :: t)) (b := b) (st' := st) (by simp only [take1, hr])]
    | error e => rw [takes_er (t := .ex (c :: d :: t)) (e := e) (by simp only [take1, e1, hr]), takes_er (t := .ex (d :: t)) (e := e) (by simp only [take1, hr])]
  · have e0 : exs l [c] a = .error a := by simp only [exs, if_neg h]
    have e1 : exs l (c :: d :: t) a = .error a := by
      unfold exs
      rw [if_neg h]
    rw [takes_er (t := .ex (c :: d :: t)) (e := a) (by simp only [take1, e1]), takes_er (t := .ex [c]) (e := a) (by simp only [take1, e0])]
def patD (form : Int) : List UInt8 := if form = 0 then [119, 44, 32, 100, 32, 109, 32, 121, 32, 104, 58, 105, 58, 115, 32, 71, 77, 84] else if form = 1 then [108, 44, 32, 100, 45, 109, 45, 99, 32, 104, 58, 105, 58, 115, 32, 71, 77, 84] else [119, 32, 109, 32, 101, 32, 104, 58, 105, 58, 115, 32, 121]
theorem takes_congr {l : List UInt8} {ts us : List TK} (h : ∀ a st, takes l ts a st = takes l us a st) (t : TK) (a : Nat) (st : List Int) : takes l (t :: ts) a st = takes l (t :: us) a st := by
  unfold takes
  cases take1 l a st t with
  | error e => rfl
  | ok r =>
    obtain ⟨b, st'⟩ := r
    exact h b st'
theorem pat_takes {form : Int} (hf : form = 0 ∨ form = 1 ∨ form = 2) (l : List UInt8) (a : Nat) (st : List Int) : takes l ((patD form).map tkc) a st = takes l (tks form) a st := by
  rcases hf with rfl | rfl | rfl
  · show takes l [.nm 0 0, .ex [44], .ex [32], .dg 2 1, .ex [32], .nm 2 2, .ex [32], .dg 4 3, .ex [32], .dg 2 4, .ex [58], .dg 2 5, .ex [58], .dg 2 6, .ex [32], .ex [71], .ex [77], .ex [84]] a st = takes l tkF a st
    unfold tkF
    refine takes_congr (fun a st => ?_) _ a st
    rw [takes_ex2]
    refine takes_congr (fun a st => ?_) _ a st
    refine takes_congr (fun a st => ?_) _ a st
    refine takes_congr (fun a st => ?_) _ a st
    refine takes_congr (fun a st => ?_) _ a st
    refine takes_congr (fun a st => ?_) _ a st
    refine takes_congr (fun a st => ?_) _ a st
    refine takes_congr (fun a st => ?_) _ a st
    refine takes_congr (fun a st => ?_) _ a st
    refine takes_congr (fun a st => ?_) _ a st
    refine takes_congr (fun a st => ?_) _ a st
    refine takes_congr (fun a st => ?_) _ a st
    refine takes_congr (fun a st => ?_) _ a st
    refine takes_congr (fun a st => ?_) _ a st
    rw [takes_ex2]
    refine takes_congr (fun a st => ?_) _ a st
    rw [takes_ex2]
    refine takes_congr (fun a st => ?_) _ a st
    rw [takes_ex2]
  · show takes l [.nm 1 0, .ex [44], .ex [32], .dg 2 1, .ex [45], .nm 2 2, .ex [45], .dg 2 3, .ex [32], .dg 2 4, .ex [58], .dg 2 5, .ex [58], .dg 2 6, .ex [32], .ex [71], .ex [77], .ex [84]] a st = takes l tkL a st
    unfold tkL
    refine takes_congr (fun a st => ?_) _ a st
    rw [takes_ex2]
    refine takes_congr (fun a st => ?_) _ a st
    refine takes_congr (fun a st => ?_) _ a st
    refine takes_congr (fun a st => ?_) _ a st
    refine takes_congr (fun a st => ?_) _ a st
    refine takes_congr (fun a st => ?_) _ a st
    refine takes_congr (fun a st => ?_) _ a st
    refine takes_congr (fun a st => ?_) _ a st
    refine takes_congr (fun a st => ?_) _ a st
    refine takes_congr (fun a st => ?_) _ a st
    refine takes_congr (fun a st => ?_) _ a st
    refine takes_congr (fun a st => ?_) _ a st
    refine takes_congr (fun a st => ?_) _ a st
    refine takes_congr (fun a st => ?_) _ a st
    rw [takes_ex2]
    refine takes_congr (fun a st => ?_) _ a st
    rw [takes_ex2]
    refine takes_congr (fun a st => ?_) _ a st
    rw [takes_ex2]
  · rfl
theorem read_pat {form : Int} (hf : form = 0 ∨ form = 1 ∨ form = 2) (l : List UInt8) : rsteps l (patD form) 0 z12 = match takes l (tks form) 0 z14 with
    | .ok (b, st) => .ok (b, fsOf true st)
    | .error e => .error e := by
  have h := rsteps_takes l (patD form) 0 z14 false rfl
  rw [pat_takes hf] at h
  have e : (false || (patD form).contains 109) = true := by rcases hf with rfl | rfl | rfl <;> decide
  rw [e] at h
  exact h
theorem rsteps_at (l : List UInt8) {L : List UInt8} {I : Nat} (h : I < L.length) (a : Nat) (fs : List Int) : rsteps l (L.drop I) a fs = match rtake l a (L.getD I 0) with
    | .ok (b, v) => rsteps l (L.drop (I + 1)) b (rput fs (L.getD I 0) v a)
    | .error e => .error e := by
  rw [List.drop_eq_getElem_cons h, List.getD_eq_getElem?_getD, List.getElem?_eq_getElem h]
  rfl

end Bs
end Go.Proofs.YtjngpafokkjkdaaGreatDoor
