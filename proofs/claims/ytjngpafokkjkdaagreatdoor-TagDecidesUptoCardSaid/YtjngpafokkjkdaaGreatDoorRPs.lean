/-
  The document's Parse; the walk of StampParses.
-/
import Derived.Test.YtjngpafokkjkdaaGreatDoorRRd
import Derived.Test.YtjngpafokkjkdaaGreatDoorMgV
set_option linter.unusedVariables false
set_option linter.unusedSimpArgs false
namespace Go.Proofs.YtjngpafokkjkdaaGreatDoor
open Go.RowKit
namespace Bs

theorem ret_4 {r : Int × Int × Int × Int} {a b c d : Int} (h : r = (a, b, c, d)) : Ending.returned (.tuple #[.int .i64 a, .int .i64 b, .int .i64 c, .int .i64 d]) = .returned (.tuple #[.int .i64 r.1, .int .i64 r.2.1, .int .i64 r.2.2.1, .int .i64 r.2.2.2]) := by rw [h]
theorem pars_er {l : List UInt8} {now : Int} {e : Nat} (hM : isM now) (h : takes l (tks (formS l)) 0 z14 = .error e) : parseS l now = (0, 0, 44, (e : Int)) := by
  unfold parseS
  rw [if_neg (fun c => c hM), h]
  rfl
theorem pars_short {l : List UInt8} {now : Int} {b : Nat} {st : List Int} (hM : isM now) (h : takes l (tks (formS l)) 0 z14 = .ok (b, st)) (hb : b ≠ l.length) : parseS l now = (0, 0, 44, (b : Int)) := by
  unfold parseS
  rw [if_neg (fun c => c hM), h]
  simp only [pars2]
  rw [if_pos hb]
theorem pars_ok {l : List UInt8} {now : Int} {b : Nat} {k p0 d p1 m q2 Y p3 h p4 i p5 s p6 : Int} (hM : isM now) (ht : takes l (tks (formS l)) 0 z14 = .ok (b, [k, p0, d, p1, m, q2, Y, p3, h, p4, i, p5, s, p6])) (hb : b = l.length) :
    parseS l now =
      if yrS (formS l) Y now < 1 ∨ 9999 < yrS (formS l) Y now then (0, 0, 41, p3)
      else if ¬ (1 ≤ d ∧ d ≤ md (yrS (formS l) Y now) (m + 1)) then (0, 0, 41, p1)
      else if 23 < h then (0, 0, 42, p4)
      else if 59 < i then (0, 0, 42, p5)
      else if 60 < s then (0, 0, 42, p6)
      else if k ≠ wday (dn (yrS (formS l) Y now) (m + 1) d) then (0, 0, 43, 0)
      else if 253402300799 < dn (yrS (formS l) Y now) (m + 1) d * 86400 + h * 3600 + i * 60 + s then (0, 0, 40, 0)
      else (dn (yrS (formS l) Y now) (m + 1) d * 86400 + h * 3600 + i * 60 + s, formS l, 0, 0) := by
  unfold parseS
  rw [if_neg (fun c => c hM), ht]
  simp only [pars2]
  rw [if_neg (fun c => c hb)]
  have ey : yS l now [k, p0, d, p1, m, q2, Y, p3, h, p4, i, p5, s, p6] = yrS (formS l) Y now := by
    unfold yS yrS
    rfl
  rw [ey]
  generalize yrS (formS l) Y now = y
  simp only [momS, g, List.getD_cons_zero, List.getD_cons_succ]
  by_cases h1 : y < 1 ∨ 9999 < y
  · simp only [if_pos h1]; rfl
  simp only [if_neg h1]
  by_cases h2 : ¬ (1 ≤ d ∧ d ≤ md y (m + 1))
  · simp only [if_pos h2]; rfl
  simp only [if_neg h2]
  by_cases h3 : 23 < h
  · simp only [if_pos h3]; rfl
  simp only [if_neg h3]
  by_cases h4 : 59 < i
  · simp only [if_pos h4]; rfl
  simp only [if_neg h4]
  by_cases h5 : 60 < s
  · simp only [if_pos h5]; rfl
  simp only [if_neg h5]
  by_cases h6 : k ≠ wday (dn y (m + 1) d)
  · simp only [if_pos h6]; rfl
  simp only [if_neg h6]
  by_cases h7 : 253402300799 < dn y (m + 1) d * 86400 + h * 3600 + i * 60 + s
  · simp only [if_pos h7]; rfl
  · simp only [if_neg h7]; rfl

set_option maxRecDepth 100000 in
set_option maxHeartbeats 8000000 in
theorem rParse_any (l : List UInt8) (now : Int) (hl : l.length ≤ 140737488355328) (hn : I64 now) (w : World) :
    Calls Tryz.prog 33 #[.string (str l), .int .i64 now] w fun e w' => e = .returned (.tuple #[.int .i64 (parseS l now).1, .int .i64 (parseS l now).2.1, .int .i64 (parseS l now).2.2.1, .int .i64 (parseS l now).2.2.2]) ∧ Below w.heap.size w w' := by
  by_cases hM : isM now
  case neg =>
    have HPS : Hid (parseS l now = (0, 0, 40, 0)) := if_pos hM
    rcases (by unfold isM at hM; omega : now < -62135596800 ∨ (¬ now < -62135596800 ∧ 253402300799 < now)) with h1 | ⟨h1, h2⟩
    all_goals
      go_enter Tryz.func33, Tryz.ntmps33
      go_wp2
      exact bodyPost_ret (v := .tuple #[.int .i64 (parseS l now).1, .int .i64 (parseS l now).2.1, .int .i64 (parseS l now).2.2.1, .int .i64 (parseS l now).2.2.2]) (by rw [HPS.out]; simp [results, Tryz.results33, go_sem]) rfl ⟨rfl, Below.refl _ _⟩
  have hM1 := hM.1
  have hM2 := hM.2
  have hfr := formS_r l
  have HF : Hid (∀ w, Calls Tryz.prog 46 #[.string (str l)] w fun e w' => e = .returned (.int .i64 (formS l)) ∧ Below w.heap.size w w') := fun w => rFormOf_any l hl w
  have HRD : Hid (∀ w, Calls Tryz.prog 47 #[.string (str l), .int .i64 (formS l)] w fun e w' => e = .returned (.tuple #[.agg (iv7 (rdR l (rsteps l (patD (formS l)) 0 z12)).1).toArray, .bool (rdR l (rsteps l (patD (formS l)) 0 z12)).2.1, .int .i64 ((rdR l (rsteps l (patD (formS l)) 0 z12)).2.2 : Int)]) ∧ Below w.heap.size w w') := fun w => rread_any l (formS l) hl ⟨by omega, by omega⟩ w
  rw [read_pat hfr] at HRD
  cases ht : takes l (tks (formS l)) 0 z14 with
  | error e0 =>
    have HPS : Hid (parseS l now = (0, 0, 44, (e0 : Int))) := pars_er hM ht
    rw [ht] at HRD
    simp only [rdR, iv7, z12, List.map_cons, List.map_nil] at HRD
    clear ht hM
    go_enter Tryz.func33, Tryz.ntmps33
    go_wp2_with fail
    refine (HF.out _).mono ?_
    rintro e w1 ⟨rfl, b1⟩
    have HB1 : Hid (Below w.heap.size w w1) := b1
    clear b1
    go_wp2_with fail
    refine (HRD.out _).mono ?_
    rintro e w2 ⟨rfl, b2⟩
    have HB2 : Hid (Below w.heap.size w w2) := bel_trans HB1.out b2
    clear b2
    go_wp2
    exact bodyPost_ret (v := .tuple #[.int .i64 (parseS l now).1, .int .i64 (parseS l now).2.1, .int .i64 (parseS l now).2.2.1, .int .i64 (parseS l now).2.2.2]) (by rw [HPS.out]; simp [results, Tryz.results33, go_sem]) rfl ⟨rfl, bel_trans HB2.out ((But.refl [] w2).alloc _).to_below⟩
  | ok r =>
    obtain ⟨b, st⟩ := r
    rw [ht] at HRD
    simp only [rdR] at HRD
    by_cases hb : b = l.length
    case neg =>
      have HPS : Hid (parseS l now = (0, 0, 44, (b : Int))) := pars_short hM ht hb
      have hbe : (b == l.length) = false := by simpa using hb
      rw [hbe] at HRD
      simp only [iv7, fsOf, List.map_cons, List.map_nil, if_true] at HRD
      clear ht hM hb hbe
      generalize g st 0 = x0 at *
      generalize g st 4 + 1 = x1 at *
      generalize g st 2 = x2 at *
      generalize g st 6 = x3 at *
      generalize g st 8 = x4 at *
      generalize g st 10 = x5 at *
      generalize g st 12 = x6 at *
      generalize g st 3 = x7 at *
      generalize g st 7 = x8 at *
      generalize g st 9 = x9 at *
      generalize g st 11 = xa at *
      generalize g st 13 = xb at *
      go_enter Tryz.func33, Tryz.ntmps33
      go_wp2_with fail
      refine (HF.out _).mono ?_
      rintro e w1 ⟨rfl, b1⟩
      have HB1 : Hid (Below w.heap.size w w1) := b1
      clear b1
      go_wp2_with fail
      refine (HRD.out _).mono ?_
      rintro e w2 ⟨rfl, b2⟩
      have HB2 : Hid (Below w.heap.size w w2) := bel_trans HB1.out b2
      clear b2
      go_wp2
      exact bodyPost_ret (v := .tuple #[.int .i64 (parseS l now).1, .int .i64 (parseS l now).2.1, .int .i64 (parseS l now).2.2.1, .int .i64 (parseS l now).2.2.2]) (by rw [HPS.out]; simp [results, Tryz.results33, go_sem]) rfl ⟨rfl, bel_trans HB2.out ((But.refl [] w2).alloc _).to_below⟩
    have hbe : (b == l.length) = true := by simpa using hb
    rw [hbe] at HRD
    obtain ⟨Y, m, h, i, s, k, d, dt, p0, p1, q2, p3, p4, p5, p6, hY, hm, hd, hh, hi, hs, hk, hdt, hst, hl'⟩ := takes_txt' hfr ht hb
    subst hst
    have HPS0 : Hid (_ = _) := pars_ok hM ht hb
    simp only [iv7, fsOf, List.map_cons, List.map_nil, if_true, g, List.getD_cons_zero, List.getD_cons_succ] at HRD
    clear ht hb hbe hdt hl'
    obtain ⟨y, hy⟩ : ∃ y, y = yrS (formS l) Y now := ⟨_, rfl⟩
    rw [← hy] at HPS0
    have hyr : -100 ≤ y ∧ y ≤ 11000 := by
      rw [hy]
      unfold yrS
      split
      · have r := near_r Y (yearOfM now)
        have hy : 1 ≤ yearOfM now ∧ yearOfM now ≤ 9999 := by
          obtain ⟨y1, y2, _⟩ := (ymd_is (D := now / 86400) (by omega) (by omega)).1
          exact ⟨y1, y2⟩
        omega
      · split at hY <;> omega
    have HNR : Hid (formS l = 1 → ∀ w, Calls Tryz.prog 48 #[.int .i64 (Y : Int), .int .i64 now] w fun e w' => e = .returned (.int .i64 y) ∧ Below w.heap.size w w') := fun hf1 w => by
      rw [if_pos hf1] at hY
      have := rnear_any Y now (by omega) (by omega) hn hM w
      rw [hy]
      unfold yrS
      rw [if_pos hf1]
      exact this
    have HYE : Hid (formS l ≠ 1 → y = (Y : Int)) := fun hf1 => by
      rw [hy]
      unfold yrS
      rw [if_neg hf1]
    have HDY : Hid (∀ w, Calls Tryz.prog 49 #[.int .i64 y, .int .i64 ((m : Int) + 1), .int .i64 (d : Int)] w fun e w' => e = .returned (.tuple #[.int .i64 (daysS y ((m : Int) + 1) d).1, .int .i64 (daysS y ((m : Int) + 1) d).2]) ∧ Below w.heap.size w w') := fun w => rDays_any y ((m : Int) + 1) d ⟨by omega, by omega⟩ ⟨by omega, by omega⟩ ⟨by omega, by omega⟩ w
    clear hy hM hY
    generalize formS l = F at *
    go_enter Tryz.func33, Tryz.ntmps33
    go_wp2_with fail
    refine (HF.out _).mono ?_
    rintro e w1 ⟨rfl, b1⟩
    have HB1 : Hid (Below w.heap.size w w1) := b1
    clear b1
    go_wp2_with fail
    refine (HRD.out _).mono ?_
    rintro e w2 ⟨rfl, b2⟩
    have HD3 : Hid (Fcs (w2.alloc (.cells #[.int .i64 (k : Int), .int .i64 ((m : Int) + 1), .int .i64 (d : Int), .int .i64 (Y : Int), .int .i64 (h : Int), .int .i64 (i : Int), .int .i64 (s : Int), .int .i64 p1, .int .i64 p3, .int .i64 p4, .int .i64 p5, .int .i64 p6] 89)) w2.heap.size [(k : Int), (m : Int) + 1, (d : Int), (Y : Int), (h : Int), (i : Int), (s : Int), p1, p3, p4, p5, p6]) := Fcs.new w2 [(k : Int), (m : Int) + 1, (d : Int), (Y : Int), (h : Int), (i : Int), (s : Int), p1, p3, p4, p5, p6] rfl
    have HB3 : Hid (Below w.heap.size w (w2.alloc (.cells #[.int .i64 (k : Int), .int .i64 ((m : Int) + 1), .int .i64 (d : Int), .int .i64 (Y : Int), .int .i64 (h : Int), .int .i64 (i : Int), .int .i64 (s : Int), .int .i64 p1, .int .i64 p3, .int .i64 p4, .int .i64 p5, .int .i64 p6] 89))) := bel_trans (bel_trans HB1.out b2) ((But.refl [] w2).alloc _).to_below
    have hsz : w.heap.size ≤ w2.heap.size := Nat.le_trans HB1.out.size b2.size
    clear b2
    by_cases hF1 : F = 1
    · subst hF1
      have HN1 : Hid (∀ w, Calls Tryz.prog 48 #[.int .i64 (Y : Int), .int .i64 now] w fun e w' => e = .returned (.int .i64 y) ∧ Below w.heap.size w w') := HNR.out rfl
      clear HNR HYE
      go_wp2_with fail
      refine (HN1.out _).mono ?_
      rintro e w4 ⟨rfl, b4⟩
      have HD4 : Hid (Fcs w4 w2.heap.size [(k : Int), (m : Int) + 1, (d : Int), (Y : Int), (h : Int), (i : Int), (s : Int), p1, p3, p4, p5, p6]) := HD3.out.bel b4
      have HB4 : Hid (Below w.heap.size w w4) := bel_trans HB3.out b4
      have f3 := HD4.out.free 3
      have HD4' : Hid (Fcs (w4.setCell ⟨w2.heap.size, 3, none⟩ (.int .i64 y)) w2.heap.size [(k : Int), (m : Int) + 1, (d : Int), y, (h : Int), (i : Int), (s : Int), p1, p3, p4, p5, p6]) := HD4.out.set 3 (by omega) y
      have HB4' : Hid (Below w.heap.size w (w4.setCell ⟨w2.heap.size, 3, none⟩ (.int .i64 y))) := HB4.out.trans (But.below (bs := [w2.heap.size]) ((But.refl _ w4).setCell (by simp) _) HB4.out.size (fun x hx => by simp at hx; omega))
      clear b4
      have c0 := HD4.out.cell 0 (by omega)
      have c1 := HD4.out.cell 1 (by omega)
      have c2 := HD4.out.cell 2 (by omega)
      have c3 := HD4.out.cell 3 (by omega)
      have c4 := HD4.out.cell 4 (by omega)
      have c5 := HD4.out.cell 5 (by omega)
      have c6 := HD4.out.cell 6 (by omega)
      have c7 := HD4.out.cell 7 (by omega)
      have c8 := HD4.out.cell 8 (by omega)
      have c9 := HD4.out.cell 9 (by omega)
      have c10 := HD4.out.cell 10 (by omega)
      have c11 := HD4.out.cell 11 (by omega)
      simp only [g, List.getD_cons_zero, List.getD_cons_succ] at c0 c1 c2 c3 c4 c5 c6 c7 c8 c9 c10 c11
      have HPS1 : Hid (_ = _) := HPS0
      by_cases e1 : y < 1
      · have HPS : Hid (parseS l now = (0, 0, 41, p3)) := HPS0.out.trans (if_pos (.inl e1))
        clear HPS0 HPS1
        go_wp2_with fail
        go_quiet (fail)
        go_wp2
        exact bodyPost_ret (v := .tuple #[.int .i64 (parseS l now).1, .int .i64 (parseS l now).2.1, .int .i64 (parseS l now).2.2.1, .int .i64 (parseS l now).2.2.2]) (by rw [HPS.out]; simp [results, Tryz.results33, go_sem]) rfl ⟨rfl, bel_drewN HB4'.out _⟩
      by_cases e2 : 9999 < y
      · have HPS : Hid (parseS l now = (0, 0, 41, p3)) := HPS0.out.trans (if_pos (.inr e2))
        clear HPS0 HPS1
        go_wp2_with fail
        go_quiet (fail)
        go_wp2
        exact bodyPost_ret (v := .tuple #[.int .i64 (parseS l now).1, .int .i64 (parseS l now).2.1, .int .i64 (parseS l now).2.2.1, .int .i64 (parseS l now).2.2.2]) (by rw [HPS.out]; simp [results, Tryz.results33, go_sem]) rfl ⟨rfl, bel_drewN HB4'.out _⟩
      have HPS2 : Hid (_ = _) := HPS0.out.trans (if_neg (by omega))
      clear HPS0 HPS1
      by_cases e3 : 1 ≤ (d : Int) ∧ (d : Int) ≤ md y ((m : Int) + 1)
      case neg =>
        have HPS : Hid (parseS l now = (0, 0, 41, p1)) := HPS2.out.trans (if_pos e3)
        rw [daysS_no (fun c => e3 c.2.2)] at HDY
        clear HPS2
        go_wp2_with fail
        refine (HDY.out _).mono ?_
        rintro e w5 ⟨rfl, b5⟩
        have HD5 : Hid (Fcs w5 w2.heap.size _) := HD4'.out.bel b5
        have HB5 : Hid (Below w.heap.size w w5) := bel_trans HB4'.out b5
        clear b5
        have c7 := HD5.out.cell 7 (by omega)
        simp only [g, List.getD_cons_zero, List.getD_cons_succ] at c7
        go_wp2_with fail
        go_quiet (fail)
        go_wp2
        exact bodyPost_ret (v := .tuple #[.int .i64 (parseS l now).1, .int .i64 (parseS l now).2.1, .int .i64 (parseS l now).2.2.1, .int .i64 (parseS l now).2.2.2]) (by rw [HPS.out]; simp [results, Tryz.results33, go_sem]) rfl ⟨rfl, bel_drewN HB5.out _⟩
      have hI : IsD y ((m : Int) + 1) d := ⟨by omega, by omega, e3.1, e3.2⟩
      have dr := dn_range hI
      have HPS3 : Hid (_ = _) := HPS2.out.trans (if_neg (fun c => c e3))
      clear HPS2
      rw [daysS_ok hI] at HDY
      clear e3 hI
      have HWD : Hid (∀ w, Calls Tryz.prog 50 #[.int .i64 (dn y ((m : Int) + 1) d)] w fun e w' => e = .returned (.int .i64 (wday (dn y ((m : Int) + 1) d))) ∧ w' = w) := fun w => rWeekday_any _ (by omega) (by omega) w
      generalize dn y ((m : Int) + 1) d = D at *
      generalize wday D = K at *
      go_wp2_with fail
      refine (HDY.out _).mono ?_
      rintro e w5 ⟨rfl, b5⟩
      have HD5 : Hid (Fcs w5 w2.heap.size _) := HD4'.out.bel b5
      have HB5 : Hid (Below w.heap.size w w5) := bel_trans HB4'.out b5
      clear b5
      have c0 := HD5.out.cell 0 (by omega)
      have c4 := HD5.out.cell 4 (by omega)
      have c5 := HD5.out.cell 5 (by omega)
      have c6 := HD5.out.cell 6 (by omega)
      have c9 := HD5.out.cell 9 (by omega)
      have c10 := HD5.out.cell 10 (by omega)
      have c11 := HD5.out.cell 11 (by omega)
      simp only [g, List.getD_cons_zero, List.getD_cons_succ] at c0 c4 c5 c6 c9 c10 c11
      by_cases e4 : 23 < (h : Int)
      · have HPS : Hid (parseS l now = (0, 0, 42, p4)) := HPS3.out.trans (if_pos e4)
        clear HPS3
        go_wp2_with fail
        go_quiet (fail)
        go_wp2
        exact bodyPost_ret (v := .tuple #[.int .i64 (parseS l now).1, .int .i64 (parseS l now).2.1, .int .i64 (parseS l now).2.2.1, .int .i64 (parseS l now).2.2.2]) (by rw [HPS.out]; simp [results, Tryz.results33, go_sem]) rfl ⟨rfl, bel_drewN HB5.out _⟩
      have HPS4 : Hid (_ = _) := HPS3.out.trans (if_neg e4)
      clear HPS3
      by_cases e5 : 59 < (i : Int)
      · have HPS : Hid (parseS l now = (0, 0, 42, p5)) := HPS4.out.trans (if_pos e5)
        clear HPS4
        go_wp2_with fail
        go_quiet (fail)
        go_wp2
        exact bodyPost_ret (v := .tuple #[.int .i64 (parseS l now).1, .int .i64 (parseS l now).2.1, .int .i64 (parseS l now).2.2.1, .int .i64 (parseS l now).2.2.2]) (by rw [HPS.out]; simp [results, Tryz.results33, go_sem]) rfl ⟨rfl, bel_drewN HB5.out _⟩
      have HPS5 : Hid (_ = _) := HPS4.out.trans (if_neg e5)
      clear HPS4
      by_cases e6 : 60 < (s : Int)
      · have HPS : Hid (parseS l now = (0, 0, 42, p6)) := HPS5.out.trans (if_pos e6)
        clear HPS5
        go_wp2_with fail
        go_quiet (fail)
        go_wp2
        exact bodyPost_ret (v := .tuple #[.int .i64 (parseS l now).1, .int .i64 (parseS l now).2.1, .int .i64 (parseS l now).2.2.1, .int .i64 (parseS l now).2.2.2]) (by rw [HPS.out]; simp [results, Tryz.results33, go_sem]) rfl ⟨rfl, bel_drewN HB5.out _⟩
      have HPS6 : Hid (_ = _) := HPS5.out.trans (if_neg e6)
      clear HPS5
      go_wp2_with fail
      go_quiet ((go_at_call 50; exact Calls.quiet_of_same (HWD.out _)))
      by_cases e7 : (k : Int) = K
      case neg =>
        have HPS : Hid (parseS l now = (0, 0, 43, 0)) := HPS6.out.trans (if_pos e7)
        have hne : ((k : Int) != K) = true := by simpa using e7
        clear HPS6
        go_wp2
        exact bodyPost_ret (v := .tuple #[.int .i64 (parseS l now).1, .int .i64 (parseS l now).2.1, .int .i64 (parseS l now).2.2.1, .int .i64 (parseS l now).2.2.2]) (by rw [HPS.out]; simp [results, Tryz.results33, go_sem]) rfl ⟨rfl, bel_drewN HB5.out _⟩
      have HPS7 : Hid (_ = _) := HPS6.out.trans (if_neg (fun c => c e7))
      have hne : ((k : Int) != K) = false := by simpa using e7
      clear HPS6
      by_cases e8 : 253402300799 < D * 86400 + (h : Int) * 3600 + (i : Int) * 60 + (s : Int)
      · have HPS : Hid (parseS l now = (0, 0, 40, 0)) := HPS7.out.trans (if_pos e8)
        clear HPS7
        go_wp2
        exact bodyPost_ret (v := .tuple #[.int .i64 (parseS l now).1, .int .i64 (parseS l now).2.1, .int .i64 (parseS l now).2.2.1, .int .i64 (parseS l now).2.2.2]) (by rw [HPS.out]; simp [results, Tryz.results33, go_sem]) rfl ⟨rfl, bel_drewN HB5.out _⟩
      · have HPS : Hid (parseS l now = (D * 86400 + (h : Int) * 3600 + (i : Int) * 60 + (s : Int), 1, 0, 0)) := HPS7.out.trans (if_neg e8)
        clear HPS7
        go_wp2
        exact bodyPost_ret (v := .tuple #[.int .i64 (parseS l now).1, .int .i64 (parseS l now).2.1, .int .i64 (parseS l now).2.2.1, .int .i64 (parseS l now).2.2.2]) (by rw [HPS.out]; simp [results, Tryz.results33, go_sem]) rfl ⟨rfl, bel_drewN HB5.out _⟩
    · have hyY := HYE.out hF1
      subst hyY
      have hq1 : (F == 1) = false := by simpa using hF1
      clear HNR HYE
      have HPS1 : Hid (_ = _) := HPS0
      by_cases e1 : (Y : Int) < 1
      · have HPS : Hid (parseS l now = (0, 0, 41, p3)) := HPS0.out.trans (if_pos (.inl e1))
        clear HPS0 HPS1
        go_wp2_with fail
        go_quiet (fail)
        go_wp2
        exact bodyPost_ret (v := .tuple #[.int .i64 (parseS l now).1, .int .i64 (parseS l now).2.1, .int .i64 (parseS l now).2.2.1, .int .i64 (parseS l now).2.2.2]) (by rw [HPS.out]; simp [results, Tryz.results33, go_sem]) rfl ⟨rfl, bel_drewN HB3.out _⟩
      by_cases e2 : 9999 < (Y : Int)
      · have HPS : Hid (parseS l now = (0, 0, 41, p3)) := HPS0.out.trans (if_pos (.inr e2))
        clear HPS0 HPS1
        go_wp2_with fail
        go_quiet (fail)
        go_wp2
        exact bodyPost_ret (v := .tuple #[.int .i64 (parseS l now).1, .int .i64 (parseS l now).2.1, .int .i64 (parseS l now).2.2.1, .int .i64 (parseS l now).2.2.2]) (by rw [HPS.out]; simp [results, Tryz.results33, go_sem]) rfl ⟨rfl, bel_drewN HB3.out _⟩
      have HPS2 : Hid (_ = _) := HPS0.out.trans (if_neg (by omega))
      clear HPS0 HPS1
      by_cases e3 : 1 ≤ (d : Int) ∧ (d : Int) ≤ md (Y : Int) ((m : Int) + 1)
      case neg =>
        have HPS : Hid (parseS l now = (0, 0, 41, p1)) := HPS2.out.trans (if_pos e3)
        rw [daysS_no (fun c => e3 c.2.2)] at HDY
        clear HPS2
        go_wp2_with fail
        refine (HDY.out _).mono ?_
        rintro e w5 ⟨rfl, b5⟩
        have HD5 : Hid (Fcs w5 w2.heap.size _) := HD3.out.bel b5
        have HB5 : Hid (Below w.heap.size w w5) := bel_trans HB3.out b5
        clear b5
        have c7 := HD5.out.cell 7 (by omega)
        simp only [g, List.getD_cons_zero, List.getD_cons_succ] at c7
        go_wp2_with fail
        go_quiet (fail)
        go_wp2
        exact bodyPost_ret (v := .tuple #[.int .i64 (parseS l now).1, .int .i64 (parseS l now).2.1, .int .i64 (parseS l now).2.2.1, .int .i64 (parseS l now).2.2.2]) (by rw [HPS.out]; simp [results, Tryz.results33, go_sem]) rfl ⟨rfl, bel_drewN HB5.out _⟩
      have hI : IsD (Y : Int) ((m : Int) + 1) d := ⟨by omega, by omega, e3.1, e3.2⟩
      have dr := dn_range hI
      have HPS3 : Hid (_ = _) := HPS2.out.trans (if_neg (fun c => c e3))
      clear HPS2
      rw [daysS_ok hI] at HDY
      clear e3 hI
      have HWD : Hid (∀ w, Calls Tryz.prog 50 #[.int .i64 (dn (Y : Int) ((m : Int) + 1) d)] w fun e w' => e = .returned (.int .i64 (wday (dn (Y : Int) ((m : Int) + 1) d))) ∧ w' = w) := fun w => rWeekday_any _ (by omega) (by omega) w
      generalize dn (Y : Int) ((m : Int) + 1) d = D at *
      generalize wday D = K at *
      go_wp2_with fail
      refine (HDY.out _).mono ?_
      rintro e w5 ⟨rfl, b5⟩
      have HD5 : Hid (Fcs w5 w2.heap.size _) := HD3.out.bel b5
      have HB5 : Hid (Below w.heap.size w w5) := bel_trans HB3.out b5
      clear b5
      have c0 := HD5.out.cell 0 (by omega)
      have c4 := HD5.out.cell 4 (by omega)
      have c5 := HD5.out.cell 5 (by omega)
      have c6 := HD5.out.cell 6 (by omega)
      have c9 := HD5.out.cell 9 (by omega)
      have c10 := HD5.out.cell 10 (by omega)
      have c11 := HD5.out.cell 11 (by omega)
      simp only [g, List.getD_cons_zero, List.getD_cons_succ] at c0 c4 c5 c6 c9 c10 c11
      by_cases e4 : 23 < (h : Int)
      · have HPS : Hid (parseS l now = (0, 0, 42, p4)) := HPS3.out.trans (if_pos e4)
        clear HPS3
        go_wp2_with fail
        go_quiet (fail)
        go_wp2
        exact bodyPost_ret (v := .tuple #[.int .i64 (parseS l now).1, .int .i64 (parseS l now).2.1, .int .i64 (parseS l now).2.2.1, .int .i64 (parseS l now).2.2.2]) (by rw [HPS.out]; simp [results, Tryz.results33, go_sem]) rfl ⟨rfl, bel_drewN HB5.out _⟩
      have HPS4 : Hid (_ = _) := HPS3.out.trans (if_neg e4)
      clear HPS3
      by_cases e5 : 59 < (i : Int)
      · have HPS : Hid (parseS l now = (0, 0, 42, p5)) := HPS4.out.trans (if_pos e5)
        clear HPS4
        go_wp2_with fail
        go_quiet (fail)
        go_wp2
        exact bodyPost_ret (v := .tuple #[.int .i64 (parseS l now).1, .int .i64 (parseS l now).2.1, .int .i64 (parseS l now).2.2.1, .int .i64 (parseS l now).2.2.2]) (by rw [HPS.out]; simp [results, Tryz.results33, go_sem]) rfl ⟨rfl, bel_drewN HB5.out _⟩
      have HPS5 : Hid (_ = _) := HPS4.out.trans (if_neg e5)
      clear HPS4
      by_cases e6 : 60 < (s : Int)
      · have HPS : Hid (parseS l now = (0, 0, 42, p6)) := HPS5.out.trans (if_pos e6)
        clear HPS5
        go_wp2_with fail
        go_quiet (fail)
        go_wp2
        exact bodyPost_ret (v := .tuple #[.int .i64 (parseS l now).1, .int .i64 (parseS l now).2.1, .int .i64 (parseS l now).2.2.1, .int .i64 (parseS l now).2.2.2]) (by rw [HPS.out]; simp [results, Tryz.results33, go_sem]) rfl ⟨rfl, bel_drewN HB5.out _⟩
      have HPS6 : Hid (_ = _) := HPS5.out.trans (if_neg e6)
      clear HPS5
      go_wp2_with fail
      go_quiet ((go_at_call 50; exact Calls.quiet_of_same (HWD.out _)))
      by_cases e7 : (k : Int) = K
      case neg =>
        have HPS : Hid (parseS l now = (0, 0, 43, 0)) := HPS6.out.trans (if_pos e7)
        have hne : ((k : Int) != K) = true := by simpa using e7
        clear HPS6
        go_wp2
        exact bodyPost_ret (v := .tuple #[.int .i64 (parseS l now).1, .int .i64 (parseS l now).2.1, .int .i64 (parseS l now).2.2.1, .int .i64 (parseS l now).2.2.2]) (by rw [HPS.out]; simp [results, Tryz.results33, go_sem]) rfl ⟨rfl, bel_drewN HB5.out _⟩
      have HPS7 : Hid (_ = _) := HPS6.out.trans (if_neg (fun c => c e7))
      have hne : ((k : Int) != K) = false := by simpa using e7
      clear HPS6
      by_cases e8 : 253402300799 < D * 86400 + (h : Int) * 3600 + (i : Int) * 60 + (s : Int)
      · have HPS : Hid (parseS l now = (0, 0, 40, 0)) := HPS7.out.trans (if_pos e8)
        clear HPS7
        go_wp2
        exact bodyPost_ret (v := .tuple #[.int .i64 (parseS l now).1, .int .i64 (parseS l now).2.1, .int .i64 (parseS l now).2.2.1, .int .i64 (parseS l now).2.2.2]) (by rw [HPS.out]; simp [results, Tryz.results33, go_sem]) rfl ⟨rfl, bel_drewN HB5.out _⟩
      · have HPS : Hid (parseS l now = (D * 86400 + (h : Int) * 3600 + (i : Int) * 60 + (s : Int), F, 0, 0)) := HPS7.out.trans (if_neg e8)
        clear HPS7
        go_wp2
        exact bodyPost_ret (v := .tuple #[.int .i64 (parseS l now).1, .int .i64 (parseS l now).2.1, .int .i64 (parseS l now).2.2.1, .int .i64 (parseS l now).2.2.2]) (by rw [HPS.out]; simp [results, Tryz.results33, go_sem]) rfl ⟨rfl, bel_drewN HB5.out _⟩

end Bs
end Go.Proofs.YtjngpafokkjkdaaGreatDoor
