/-
  Contracts of the document's calendar: the date of a moment.
-/
import Derived.Test.YtjngpafokkjkdaaGreatDoorRDay
import Derived.Deep.RegionHeld3
import Derived.BigQuiet
import Derived.Deep.QuietTactic
import Derived.OneCell
set_option linter.unusedVariables false
set_option linter.unusedSimpArgs false
namespace Go.Proofs.YtjngpafokkjkdaaGreatDoor
open Go.RowKit
namespace Bs

def iv7 (st : List Int) : List Value := st.map fun x => Value.int .i64 x
theorem iv7_set (st : List Int) (i : Nat) (x : Int) : (iv7 st).set i (.int .i64 x) = iv7 (st.set i x) := by unfold iv7; rw [List.map_set]

/-- A date of the document's lies in block P. -/
structure Dcs (w : World) (P : Nat) (st : List Int) : Prop where
  len : st.length = 7
  blk : w.heap[P]? = some (.cells (iv7 st).toArray 125 (0, 0))
theorem Dcs.cell {w : World} {P : Nat} {st : List Int} (h : Dcs w P st) (i : Nat) (hi : i < 7) : w.cell? ⟨P, i, none⟩ = some (.int .i64 (g st i)) := by
  have := h.len
  have e : (iv7 st)[i]? = some (.int .i64 (g st i)) := by
    unfold iv7 g
    rw [List.getElem?_map, List.getD_eq_getElem?_getD, List.getElem?_eq_getElem (by omega)]
    rfl
  simp [World.cell?, h.blk, e]
theorem Dcs.lt {w : World} {P : Nat} {st : List Int} (h : Dcs w P st) : P < w.heap.size := (Array.getElem?_eq_some_iff.1 h.blk).1
theorem Dcs.but {bs : List Nat} {w w' : World} {P : Nat} {st : List Int} (h : Dcs w P st) (b : But bs w w') (hn : P ∉ bs) : Dcs w' P st := ⟨h.len, b.heap h.blk hn⟩
theorem Dcs.bel {w w' : World} {P : Nat} {st : List Int} (h : Dcs w P st) (b : Below w.heap.size w w') : Dcs w' P st := h.but (But.of_below b) (fun e => by cases e)
theorem Dcs.set {w : World} {P : Nat} {st : List Int} (h : Dcs w P st) (i : Nat) (hi : i < 7) (x : Int) : Dcs (w.setCell ⟨P, i, none⟩ (.int .i64 x)) P (st.set i x) := by
  refine ⟨by rw [List.length_set]; exact h.len, ?_⟩
  have hl := h.lt
  have hb := h.blk
  rw [← iv7_set]
  unfold World.setCell
  rw [Array.getElem?_modify, if_pos rfl, hb]
  simp
theorem Dcs.free {w : World} {P : Nat} {st : List Int} (h : Dcs w P st) (i : Nat) : w.frozen? ⟨P, i, none⟩ = false := by
  simp [World.frozen?, h.blk]
theorem Dcs.new (w : World) (st : List Int) (h : st.length = 7) : Dcs (w.alloc (.cells (iv7 st).toArray 125)) w.heap.size st := ⟨h, by rw [heap_alloc_new]⟩

theorem day_q (t : Int) : (t.tmod 86400 < 0 → t.tdiv 86400 - 1 = t / 86400 ∧ t.tmod 86400 + 86400 = t % 86400) ∧ (¬ t.tmod 86400 < 0 → t.tdiv 86400 = t / 86400 ∧ t.tmod 86400 = t % 86400) ∧ -86400 < t.tmod 86400 ∧ t.tmod 86400 < 86400 := by
  have e := Int.mul_tdiv_add_tmod t 86400
  have a1 : -86400 < t.tmod 86400 := Int.lt_tmod_of_pos _ (by omega)
  have a2 : t.tmod 86400 < 86400 := Int.tmod_lt_of_pos _ (by omega)
  omega

set_option maxRecDepth 100000 in
set_option maxHeartbeats 4000000 in
theorem rSplit_any (t : Int) (ht : I64 t) (w : World) :
    Calls Tryz.prog 78 #[.int .i64 t] w fun e w' => e = .returned (.tuple #[(splitR t).1, .int .i64 (splitR t).2]) ∧ Below w.heap.size w w' := by
  obtain ⟨t0, t1⟩ := ht
  by_cases h1 : t < -62135596800
  · unfold splitR
    rw [if_neg (by unfold isM; omega)]
    go_enter Tryz.func78, Tryz.ntmps78
    go_wp2
    exact bodyPost_ret (v := .tuple #[dv7 0 0 0 0 0 0 0, .int .i64 40]) (by simp [results, Tryz.results78, go_sem, dv7]) rfl ⟨rfl, ((But.refl [] w).alloc _).to_below⟩
  by_cases h2 : 253402300799 < t
  · unfold splitR
    rw [if_neg (by unfold isM; omega)]
    go_enter Tryz.func78, Tryz.ntmps78
    go_wp2
    exact bodyPost_ret (v := .tuple #[dv7 0 0 0 0 0 0 0, .int .i64 40]) (by simp [results, Tryz.results78, go_sem, dv7]) rfl ⟨rfl, ((But.refl [] w).alloc _).to_below⟩
  unfold splitR
  rw [if_pos (by unfold isM; omega)]
  unfold splitV
  obtain ⟨dq1, dq2, dq3, dq4⟩ := day_q t
  have hD1 : -719162 ≤ t / 86400 := by omega
  have hD2 : t / 86400 ≤ 2932896 := by omega
  have r1 : 0 ≤ t % 86400 ∧ t % 86400 < 86400 := by omega
  have HWD : Hid (∀ w, Calls Tryz.prog 50 #[.int .i64 (t / 86400)] w fun e w' => e = .returned (.int .i64 (wday (t / 86400))) ∧ w' = w) := fun w => rWeekday_any _ (by omega) (by omega) w
  have q1 : t % 86400 / 3600 = (t % 86400).tdiv 3600 := (tq r1.1).symm
  have hmn : t % 86400 % 3600 / 60 = t % 86400 / 60 % 60 := by omega
  rw [hmn]
  generalize hDD : t / 86400 = D at *
  generalize hRR : t % 86400 = R at *
  have tb : -720000 ≤ t.tdiv 86400 ∧ t.tdiv 86400 ≤ 3000000 := by omega
  generalize hTD : t.tdiv 86400 = TD at *
  generalize hTM : t.tmod 86400 = TM at *
  have c1 : R.tdiv 3600 = R / 3600 := tq r1.1
  have c2 : R.tdiv 60 = R / 60 := tq r1.1
  have c3 : (R / 60).tmod 60 = R / 60 % 60 := tr (by omega)
  have c4 : R.tmod 60 = R % 60 := tr r1.1
  clear q1 hmn
  have HJR : Hid (∀ k, 1 ≤ k → k ≤ 10000 → -719162 ≤ jan k ∧ jan k ≤ 2932897) := fun k h1 h2 => by
    have a := jan_mono h1
    have b := jan_mono h2
    rw [jan_one] at a
    rw [jan_end] at b
    exact ⟨a, b⟩
  have HYR : Hid (∀ k : Int, 365 ≤ yd k ∧ yd k ≤ 366) := fun k => by have := feb_or k; rw [yd_feb]; omega
  have HJS : Hid (∀ k, jan (k + 1) = jan k + yd k) := jan_succ
  have HYD : Hid (∀ k, I64 k → ∀ w, Calls Tryz.prog 80 #[.int .i64 k] w fun e w' => e = .returned (.int .i64 (yd k)) ∧ w' = w) := fun k hk w => ryearDays_any k hk w
  have HMD : Hid (∀ y k, I64 y → I64 k → ∀ w, Calls Tryz.prog 79 #[.int .i64 y, .int .i64 k] w fun e w' => e = .returned (.int .i64 (md y k)) ∧ Below w.heap.size w w') := fun y k hy hk w => rMonthDays_any y k hy hk w
  have ed : (TM < 0 ∧ TD - 1 = D ∧ TM + 86400 = R) ∨ (¬ TM < 0 ∧ TD = D ∧ TM = R) := by omega
  clear dq1 dq2
  obtain ⟨W7, hW7⟩ : ∃ W7, W7 = wday D := ⟨_, rfl⟩
  rw [← hW7] at HWD ⊢
  obtain ⟨H4, hH4⟩ : ∃ H4, H4 = R / 3600 := ⟨_, rfl⟩
  rw [← hH4] at c1 ⊢
  obtain ⟨M4, hM4⟩ : ∃ M4, M4 = R / 60 % 60 := ⟨_, rfl⟩
  rw [← hM4] at c3 ⊢
  obtain ⟨S4, hS4⟩ : ∃ S4, S4 = R % 60 := ⟨_, rfl⟩
  rw [← hS4] at c4 ⊢
  have bH : 0 ≤ H4 ∧ H4 ≤ 23 := by omega
  have bM : 0 ≤ M4 ∧ M4 ≤ 59 := by omega
  have bS : 0 ≤ S4 ∧ S4 ≤ 59 := by omega
  clear hW7 hH4 hM4 hS4
  have HYMD : Hid (∀ q k l : Int, 1 ≤ q → q ≤ 9999 → 0 ≤ l → l < md q k → jan q + (cum q k + l) = D → ymd D = (q, k, l + 1)) := fun q k l q1 q2 l1 l2 e => ymd_eq ⟨q1, q2, by omega, by omega⟩ (by unfold dn; omega)
  rcases ed with ⟨hr, e1, e2⟩ | ⟨hr, e1, e2⟩
  all_goals
    go_enter Tryz.func78, Tryz.ntmps78
    go_wp2_with fail
    refine (HWD.out _).mono ?_
    rintro e w' ⟨rfl, rfl⟩
    go_wp2
    obtain ⟨W0, hW0⟩ : ∃ W0, W0 = ((w.alloc (.cells #[.int .i64 0, .int .i64 0, .int .i64 0, .int .i64 0, .int .i64 0, .int .i64 0, .int .i64 0] 125)).alloc (.cells #[.int .i64 1970, .int .i64 1, .int .i64 0, .int .i64 H4, .int .i64 M4, .int .i64 S4, .int .i64 W7] 125)) := ⟨_, rfl⟩
    obtain ⟨P0, hP0⟩ : ∃ P0, P0 = w.heap.size := ⟨_, rfl⟩
    have HD0 : Hid (Dcs W0 (P0 + 1) [1970, 1, 0, H4, M4, S4, W7]) := (by
      have := Dcs.new (w.alloc (.cells #[.int .i64 0, .int .i64 0, .int .i64 0, .int .i64 0, .int .i64 0, .int .i64 0, .int .i64 0] 125)) [1970, 1, 0, H4, M4, S4, W7] rfl
      rw [hW0, hP0]
      rw [show (w.alloc (.cells #[.int .i64 0, .int .i64 0, .int .i64 0, .int .i64 0, .int .i64 0, .int .i64 0, .int .i64 0] 125)).heap.size = w.heap.size + 1 by simp] at this
      exact this : Dcs W0 (P0 + 1) [1970, 1, 0, H4, M4, S4, W7])
    have HZ0 : Hid (Dcs W0 P0 [0, 0, 0, 0, 0, 0, 0]) := hW0 ▸ hP0 ▸ (Dcs.new w [0, 0, 0, 0, 0, 0, 0] rfl).but ((But.refl [] _).alloc _) (fun e => by cases e)
    have HB0 : Hid (Below P0 w W0) := hW0 ▸ hP0 ▸ (((But.refl [] w).alloc _).alloc _).to_below
    rw [← hW0, ← hP0]
    have HP0 : Hid (P0 = w.heap.size) := hP0
    clear hW0 hP0
    go_loopw [4] (fun n wr => ∃ q x : Int, 1 ≤ q ∧ q ≤ 1970 ∧ Hid (jan q + x = D) ∧ n = .int .i64 x ∧ Hid (Dcs wr (P0 + 1) [q, 1, 0, H4, M4, S4, W7]) ∧ Hid (But [P0 + 1] W0 wr) ∧ Hid (x < 366 * 8100)) (fun n _ => (-(intOf n)).toNat)
    case atStart => exact ⟨1970, D, by omega, by omega, (by rw [jan_1970]; omega : jan 1970 + D = D), rfl, HD0, But.refl _ _, (by omega : D < 366 * 8100)⟩
    case round =>
      obtain ⟨q, x, q1, q2, hjx, rfl, HD, HBt, hx0⟩ := hrel
      have qr := HJR.out q (by omega) (by omega)
      have jx := hjx.out
      by_cases hx : x < 0
      · have c0 := HD.out.cell 0 (by omega)
        have f0 := HD.out.free 0
        have hq : 1 < q := by
          by_cases h : q = 1
          · subst h
            rw [jan_one] at jx
            omega
          · omega
        have yr := HYR.out (q - 1)
        have js := HJS.out (q - 1)
        rw [show q - 1 + 1 = q by omega] at js
        clear HD0 HZ0 HB0 hjx
        simp only [g, List.getD_cons_zero] at c0
        have JS : Hid (_ = _) := js
        have JX : Hid (_ = _) := jx
        have xl : -4000000 ≤ x := by omega
        clear js jx qr
        go_wp2_with fail
        refine (HYD.out (q - 1) ⟨by omega, by omega⟩ _).mono ?_
        rintro e w' ⟨rfl, rfl⟩
        go_wp2
        exact ⟨⟨q - 1, x + yd (q - 1), by omega, by omega, (by have := JS.out; have := JX.out; omega : jan (q - 1) + (x + yd (q - 1)) = D), rfl, HD.out.set 0 (by omega) _, HBt.out.setCell (by simp) _, (by omega : x + yd (q - 1) < 366 * 8100)⟩, by simp [intOf]; omega⟩
      · have HDa : Hid (Dcs wr (P0 + 1) [q, 1, 0, H4, M4, S4, W7]) := HD
        have JX : Hid (_ = _) := jx
        have hx1 := hx0.out
        clear hjx jx qr HD0 HD
        go_wp2
        go_loopw [4] (fun n wr => ∃ q x : Int, 1 ≤ q ∧ q ≤ 9999 ∧ 0 ≤ x ∧ x < 366 * 8100 ∧ Hid (jan q + x = D) ∧ n = .int .i64 x ∧ Hid (Dcs wr (P0 + 1) [q, 1, 0, H4, M4, S4, W7]) ∧ Hid (But [P0 + 1] W0 wr)) (fun n _ => (intOf n).toNat)
        case atStart => exact ⟨q, x, by omega, by omega, by omega, hx1, JX, rfl, HDa, HBt⟩
        case round =>
          clear HDa HBt JX hx1 hx hx0 q1 q2
          obtain ⟨q, x, q1, q2, x1, x2, JX, rfl, HD, HBt⟩ := hrel
          have c0 := HD.out.cell 0 (by omega)
          have c1' := HD.out.cell 1 (by omega)
          have f0 := HD.out.free 0
          have yr := HYR.out q
          simp only [g, List.getD_cons_zero, List.getD_cons_succ] at c0 c1'
          by_cases hx : yd q ≤ x
          · have hq : q + 1 ≤ 9999 := by
              by_cases h : q = 9999
              · subst h
                have := HJS.out 9999
                have := JX.out
                have := jan_end
                simp only [show (9999 : Int) + 1 = 10000 from rfl] at *
                omega
              · omega
            have JS : Hid (_ = _) := HJS.out q
            go_wp2_with fail
            refine (HYD.out q ⟨by omega, by omega⟩ _).mono ?_
            rintro e w' ⟨rfl, rfl⟩
            go_wp2_with fail
            refine (HYD.out q ⟨by omega, by omega⟩ _).mono ?_
            rintro e w' ⟨rfl, rfl⟩
            go_wp2
            exact ⟨⟨q + 1, x - yd q, by omega, by omega, by omega, by omega, (by have := JS.out; have := JX.out; omega : jan (q + 1) + (x - yd q) = D), rfl, HD.out.set 0 (by omega) _, HBt.out.setCell (by simp) _⟩, by simp [intOf]; omega⟩
          · go_wp2_with fail
            refine (HYD.out q ⟨by omega, by omega⟩ _).mono ?_
            rintro e w' ⟨rfl, rfl⟩
            go_wp2
            go_loopw [4] (fun n wr => ∃ k l : Int, 1 ≤ k ∧ k ≤ 12 ∧ 0 ≤ l ∧ l ≤ x ∧ Hid (cum q k + l = x) ∧ n = .int .i64 l ∧ Hid (Dcs wr (P0 + 1) [q, k, 0, H4, M4, S4, W7]) ∧ Hid (But [P0 + 1] W0 wr)) (fun n _ => (intOf n).toNat)
            case atStart => exact ⟨1, x, by omega, by omega, by omega, by omega, (by rw [cum_one]; omega : cum q 1 + x = x), rfl, HD, HBt⟩
            case round =>
              clear HD HBt c0 c1' f0
              obtain ⟨k, l, k1, k2, l1, l2, HC, rfl, HD, HBt⟩ := hrel
              have c0 := HD.out.cell 0 (by omega)
              have c1' := HD.out.cell 1 (by omega)
              have f1 := HD.out.free 1
              have mr := md_ge (y := q) k1 k2
              simp only [g, List.getD_cons_zero, List.getD_cons_succ] at c0 c1'
              by_cases hk : md q k ≤ l
              · have hs := cum_succ q k k1 k2
                have hk13 : k + 1 ≤ 12 := by
                  by_cases h : k = 12
                  · subst h
                    have h13 := cum_13 q
                    have := HC.out
                    simp only [show (12 : Int) + 1 = 13 from rfl] at hs
                    omega
                  · omega
                have HS : Hid (_ = _) := hs
                clear hs
                go_wp2_with fail
                refine (HMD.out q k ⟨by omega, by omega⟩ ⟨by omega, by omega⟩ _).mono ?_
                rintro e w2 ⟨rfl, b2⟩
                replace HD : Hid _ := HD.out.bel b2
                replace HBt : Hid _ := HBt.out.trans (But.of_below b2).nil
                clear b2 c0 c1' f1
                have c0 := HD.out.cell 0 (by omega)
                have c1' := HD.out.cell 1 (by omega)
                simp only [g, List.getD_cons_zero, List.getD_cons_succ] at c0 c1'
                go_wp2_with fail
                refine (HMD.out q k ⟨by omega, by omega⟩ ⟨by omega, by omega⟩ _).mono ?_
                rintro e w3 ⟨rfl, b3⟩
                replace HD : Hid _ := HD.out.bel b3
                replace HBt : Hid _ := HBt.out.trans (But.of_below b3).nil
                clear b3 c0 c1'
                have c1' := HD.out.cell 1 (by omega)
                have f1 := HD.out.free 1
                simp only [g, List.getD_cons_zero, List.getD_cons_succ] at c1'
                go_wp2
                exact ⟨⟨k + 1, l - md q k, by omega, by omega, by omega, by omega, (by have := HS.out; have := HC.out; omega : cum q (k + 1) + (l - md q k) = x), rfl, HD.out.set 1 (by omega) _, HBt.out.setCell (by simp) _⟩, by simp [intOf]; omega⟩
              · have HY : Hid (ymd D = (q, k, l + 1)) := HYMD.out q k l q1 q2 l1 (by omega) (by have := HC.out; have := JX.out; omega)
                go_wp2_with fail
                refine (HMD.out q k ⟨by omega, by omega⟩ ⟨by omega, by omega⟩ _).mono ?_
                rintro e w2 ⟨rfl, b2⟩
                replace HD : Hid _ := HD.out.bel b2
                replace HBt : Hid _ := HBt.out.trans (But.of_below b2).nil
                clear b2 c0 c1' f1
                have f2 := HD.out.free 2
                have k0 := HD.out.cell 0 (by omega)
                have k1' := HD.out.cell 1 (by omega)
                have k2' := HD.out.cell 2 (by omega)
                have k3 := HD.out.cell 3 (by omega)
                have k4 := HD.out.cell 4 (by omega)
                have k5 := HD.out.cell 5 (by omega)
                have k6 := HD.out.cell 6 (by omega)
                have hz := HZ0.out.but HBt.out (fun e => by simp at e)
                have z0 := hz.cell 0 (by omega)
                have z1 := hz.cell 1 (by omega)
                have z2 := hz.cell 2 (by omega)
                have z3 := hz.cell 3 (by omega)
                have z4 := hz.cell 4 (by omega)
                have z5 := hz.cell 5 (by omega)
                have z6 := hz.cell 6 (by omega)
                have y0 := hz.free 0
                have y1 := hz.free 1
                have y2 := hz.free 2
                have y3 := hz.free 3
                have y4 := hz.free 4
                have y5 := hz.free 5
                have y6 := hz.free 6
                simp only [g, List.getD_cons_zero, List.getD_cons_succ] at k0 k1' k2' k3 k4 k5 k6 z0 z1 z2 z3 z4 z5 z6
                have HZ : Hid (Below w.heap.size w w2) := (by
                  have b := HBt.out.below (B := P0) (by have := HB0.out.size; have := HP0.out; omega) (fun x e => by simp at e; omega)
                  have e := HP0.out
                  rw [← e]
                  exact HB0.out.trans b : Below w.heap.size w w2)
                clear hz HB0 HBt HZ0
                go_wp2
                refine bodyPost_ret (v := .tuple #[dv7 q k (l + 1) H4 M4 S4 W7, .int .i64 0]) (by simp [results, Tryz.results78, go_sem, dv7, *]) rfl ⟨by rw [HY.out], ?_⟩
                refine HZ.out.trans (But.below (bs := [P0, P0 + 1]) (B := w.heap.size) ?_ ?_ ?_)
                · iterate 8 refine But.setCell ?_ (by simp) _
                  exact But.refl _ _
                · have := HZ.out.size
                  omega
                · intro x e
                  have := HP0.out
                  simp at e
                  omega

end Bs
end Go.Proofs.YtjngpafokkjkdaaGreatDoor
