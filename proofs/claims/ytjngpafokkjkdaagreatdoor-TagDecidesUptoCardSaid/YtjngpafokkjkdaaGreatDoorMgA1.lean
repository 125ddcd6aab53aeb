/- Several texts as one. -/
import Derived.Test.YtjngpafokkjkdaaGreatDoorMgZ
import Derived.Test.YtjngpafokkjkdaaGreatDoorMgQ
/-
  Texts that differ say unlike moments; texts in the first form and their moments.
-/
set_option linter.unusedVariables false
set_option linter.unusedSimpArgs false
namespace Go.Proofs.YtjngpafokkjkdaaGreatDoor
namespace Bs

def Leapt (l : List UInt8) : Prop := ∃ i, i + 3 ≤ l.length ∧ (l.drop i).take 3 = [58, 54, 48]
theorem leapt_of {l A B : List UInt8} (h : l = A ++ ([58, 54, 48] ++ B)) : Leapt l := by
  refine ⟨A.length, ?_, ?_⟩
  · rw [h]
    simp
  · rw [h, List.drop_left]
    rfl
theorem Says.no60 {l : List UInt8} {now t f : Int} {Y m h i s k d : Nat} {dt : List UInt8} (S : Says l now t f Y m h i s k d dt) (hl : ¬ Leapt l) : s ≤ 59 := by
  by_cases h60 : s = 60
  · exfalso
    apply hl
    have e : d2 60 = [54, 48] := rfl
    have hl := S.hl
    rw [h60] at hl
    unfold txt clk at hl
    rw [e] at hl
    rcases S.hf with rfl | rfl | rfl
    · exact leapt_of (A := shorts.getD k [] ++ [44, 32] ++ dt ++ [32] ++ mons.getD (m + 1 - 1) [] ++ [32] ++ d4 Y ++ ([32] ++ d2 h ++ [58] ++ d2 i)) (B := [32, 71, 77, 84]) (by rw [hl]; simp)
    · exact leapt_of (A := longs.getD k [] ++ [44, 32] ++ dt ++ [45] ++ mons.getD (m + 1 - 1) [] ++ [45] ++ d2 Y ++ ([32] ++ d2 h ++ [58] ++ d2 i)) (B := [32, 71, 77, 84]) (by rw [hl]; simp)
    · exact leapt_of (A := shorts.getD k [] ++ [32] ++ mons.getD (m + 1 - 1) [] ++ [32] ++ dt ++ ([32] ++ d2 h ++ [58] ++ d2 i)) (B := [32] ++ d4 Y) (by rw [hl]; simp)
  · have := S.hs
    omega
/-- The same moment: the same pieces. -/
theorem Says.same {a b : List UInt8} {now t f : Int} {Y m h i s k d Y' m' h' i' s' k' d' : Nat} {dt dt' : List UInt8} (S : Says a now t f Y m h i s k d dt) (T : Says b now t f Y' m' h' i' s' k' d' dt') (hs : s ≤ 59) (hs' : s' ≤ 59) :
    Y = Y' ∧ m = m' ∧ h = h' ∧ i = i' ∧ s = s' ∧ k = k' ∧ d = d' := by
  have e := S.ht.symm.trans T.ht
  have a1 := S.hh
  have a2 := S.hi
  have b1 := T.hh
  have b2 := T.hi
  have hw := S.hw
  have hw' := T.hw
  generalize hD : dn (yrS f Y now) ((m : Int) + 1) d = D at *
  generalize hD' : dn (yrS f Y' now) ((m' : Int) + 1) d' = D' at *
  have e1 : D = D' := by omega
  subst e1
  obtain ⟨c1, c2, c3⟩ := dn_inj S.is T.is (hD.trans hD'.symm)
  have hY := S.hY
  have hY' := T.hY
  refine ⟨?_, by omega, by omega, by omega, by omega, by omega, by omega⟩
  unfold yrS at c1
  by_cases h1 : f = 1
  · rw [if_pos h1] at c1 hY hY'
    rw [if_pos h1] at c1
    unfold nearS at c1
    omega
  · rw [if_neg h1, if_neg h1] at c1
    omega
def cut9 (l : List UInt8) : List UInt8 := l.take 8 ++ l.drop 9
theorem cut9_txt {Y m h i s k d : Nat} {dt : List UInt8} (hk : k < 7) (hm : m < 12) (hdt : DayT 2 d dt) : cut9 (txt 2 Y (m + 1) h i s k dt) = (shorts.getD k [] ++ ([32] ++ (mons.getD m [] ++ [32]))) ++ (dg d :: (clk h i s ++ ([32] ++ d4 Y))) ∧ 9 < (txt 2 Y (m + 1) h i s k dt).length := by
  obtain ⟨x, hx⟩ : ∃ x, dt = [x, dg d] := by
    rcases hdt with rfl | ⟨_, _, rfl⟩
    · exact ⟨_, rfl⟩
    · exact ⟨_, rfl⟩
  subst hx
  have n1 := shorts_n' hk
  have n2 := mons_n' hm
  have e : txt 2 Y (m + 1) h i s k [x, dg d] = (shorts.getD k [] ++ ([32] ++ (mons.getD m [] ++ [32]))) ++ ([x] ++ (dg d :: (clk h i s ++ ([32] ++ d4 Y)))) := by
    unfold txt
    simp
  have hl : (shorts.getD k [] ++ ([32] ++ (mons.getD m [] ++ [32]))).length = 8 := by
    simp only [List.length_append, n1, n2]
    rfl
  generalize shorts.getD k [] ++ ([32] ++ (mons.getD m [] ++ [32])) = A at *
  have hB : 1 ≤ (dg d :: (clk h i s ++ ([32] ++ d4 Y))).length := by simp
  generalize dg d :: (clk h i s ++ ([32] ++ d4 Y)) = B at *
  rw [e]
  unfold cut9
  refine ⟨?_, ?_⟩
  · rw [show (A ++ ([x] ++ B)).take 8 = A by rw [← hl, List.take_left], show (A ++ ([x] ++ B)).drop 9 = B by rw [← List.append_assoc, show 9 = (A ++ [x]).length by simp [hl]]; exact List.drop_left]
  · simp only [List.length_append, hl, List.length_cons, List.length_nil]
    omega
theorem clk_inj {h i s h' i' s' : Nat} {r r' : List UInt8} (hh : h < 100) (hi : i < 100) (hs : s < 100) (hh' : h' < 100) (hi' : i' < 100) (hs' : s' < 100) (e : clk h i s ++ r = clk h' i' s' ++ r') : h = h' ∧ i = i' ∧ s = s' ∧ r = r' := by
  unfold clk d2 at e
  simp only [List.append_assoc, List.cons_append, List.nil_append, List.cons.injEq, true_and] at e
  obtain ⟨h1, h2, h3, h4, h5, h6, h7⟩ := e
  have h1 := dg_inj h1
  have h2 := dg_inj h2
  have h3 := dg_inj h3
  have h4 := dg_inj h4
  have h5 := dg_inj h5
  have h6 := dg_inj h6
  exact ⟨by omega, by omega, by omega, h7⟩
theorem shorts_inj : ∀ i j : Fin 7, shorts.getD i.val [] = shorts.getD j.val [] → i = j := by decide
theorem mons_inj : ∀ i j : Fin 12, mons.getD i.val [] = mons.getD j.val [] → i = j := by decide
theorem shorts_inj' {i j : Nat} (hi : i < 7) (hj : j < 7) (h : shorts.getD i [] = shorts.getD j []) : i = j := congrArg Fin.val (shorts_inj ⟨i, hi⟩ ⟨j, hj⟩ h)
theorem mons_inj' {i j : Nat} (hi : i < 12) (hj : j < 12) (h : mons.getD i [] = mons.getD j []) : i = j := congrArg Fin.val (mons_inj ⟨i, hi⟩ ⟨j, hj⟩ h)
theorem app_inj {a b c d : List UInt8} (h : a ++ b = c ++ d) (hl : a.length = c.length) : a = c ∧ b = d := List.append_inj h hl

theorem one_cut {a b : List UInt8} {now t t' : Int} {Y m h i s k d Y' m' h' i' s' k' d' : Nat} {dt dt' : List UInt8} (S : Says a now t 2 Y m h i s k d dt) (T : Says b now t' 2 Y' m' h' i' s' k' d' dt') (e : cut9 a = cut9 b) : t = t' := by
  rw [S.hl, T.hl, (cut9_txt S.hk S.hm S.hdt).1, (cut9_txt T.hk T.hm T.hdt).1] at e
  have a1 := S.hh
  have a2 := S.hi
  have a3 := S.hs
  have b1 := T.hh
  have b2 := T.hi
  have b3 := T.hs
  obtain ⟨e1, e2⟩ := app_inj e (by simp only [List.length_append, shorts_n' S.hk, shorts_n' T.hk, mons_n' S.hm, mons_n' T.hm])
  obtain ⟨e3, e4⟩ := app_inj e1 (by rw [shorts_n' S.hk, shorts_n' T.hk])
  obtain ⟨_, e5⟩ := app_inj e4 rfl
  obtain ⟨e6, _⟩ := app_inj e5 (by rw [mons_n' S.hm, mons_n' T.hm])
  have hk := shorts_inj' S.hk T.hk e3
  have hm := mons_inj' S.hm T.hm e6
  simp only [List.cons.injEq] at e2
  have hd := dg_inj e2.1
  obtain ⟨c1, c2, c3, c4⟩ := clk_inj (by omega) (by omega) (by omega) (by omega) (by omega) (by omega) e2.2
  obtain ⟨_, c5⟩ := app_inj c4 rfl
  have hY := S.hY
  have hY' := T.hY
  have cY := d4_inj (by simpa using hY) (by simpa using hY') c5
  subst hk hm c1 c2 c3 cY
  have w1 := S.hw
  have w2 := T.hw
  have i1 := S.is
  have i2 := T.is
  have hml := md_le (yrS 2 Y now) ((m : Int) + 1)
  obtain ⟨_, _, d1, d2'⟩ := i1
  obtain ⟨_, _, d3, d4'⟩ := i2
  have w3 := w1.symm.trans w2
  unfold wday dn at w3
  have hdd : d = d' := by omega
  subst hdd
  rw [S.ht, T.ht]
theorem one_same {a b : List UInt8} {now t f : Int} {Y m h i s k d Y' m' h' i' s' k' d' : Nat} {dt dt' : List UInt8} (S : Says a now t f Y m h i s k d dt) (T : Says b now t f Y' m' h' i' s' k' d' dt') (hs : ¬ Leapt a) (hs' : ¬ Leapt b) : (f ≠ 2 ∧ a = b) ∨ (f = 2 ∧ 9 < a.length ∧ cut9 a = cut9 b) := by
  obtain ⟨rfl, rfl, rfl, rfl, rfl, rfl, rfl⟩ := S.same T (S.no60 hs) (T.no60 hs')
  by_cases h2 : f = 2
  · subst h2
    have e1 := cut9_txt (Y := Y) (h := h) (i := i) (s := s) S.hk S.hm S.hdt
    have e2 := cut9_txt (Y := Y) (h := h) (i := i) (s := s) T.hk T.hm T.hdt
    refine .inr ⟨rfl, ?_, ?_⟩
    · rw [S.hl]
      exact e1.2
    · rw [S.hl, T.hl, e1.1, e2.1]
  · have d1 : dt = d2 d := S.hdt.resolve_right (fun c => h2 c.1)
    have d2' : dt' = d2 d := T.hdt.resolve_right (fun c => h2 c.1)
    exact .inl ⟨h2, by rw [S.hl, T.hl, d1, d2']⟩

/- Texts in the first form. -/
theorem fix_len {t : Int} (ht : isM t) : (writeR t 0).1.length = 29 ∧ (writeR t 0).2 = 0 := by
  obtain ⟨y, m, d, h, i, s, k, e1, e2, e3, e4, e5, e6, e7, hI, hD, hm, hd, hy, hh, hi, hs, hk⟩ := parts_of ht
  rw [writeR_ok ht (.inl rfl) e1 e2 e3 e4 e5 e6 e7]
  refine ⟨?_, rfl⟩
  have n1 := shorts_n' hk
  have n2 := mons_n' hm
  show (shorts.getD k [] ++ [44, 32] ++ d2 d ++ [32] ++ mons.getD (m + 1 - 1) [] ++ [32] ++ d4 y ++ clk h i s ++ [32, 71, 77, 84]).length = 29
  simp only [List.length_append, n1, Nat.add_sub_cancel, n2]
  rfl
theorem fix_inj {a b : Int} (ha : isM a) (hb : isM b) (h : (writeR a 0).1 = (writeR b 0).1) : a = b := by
  have e1 := back_to (f := 0) (now := 0) ha (by unfold isM; omega) (.inl rfl) (.inl (by decide))
  have e2 := back_to (f := 0) (now := 0) hb (by unfold isM; omega) (.inl rfl) (.inl (by decide))
  rw [h, e2] at e1
  exact (congrArg Prod.fst e1).symm

end Bs
end Go.Proofs.YtjngpafokkjkdaaGreatDoor

/-
  Contracts of the document's calendar.
-/
set_option linter.unusedVariables false
set_option linter.unusedSimpArgs false
namespace Go.Proofs.YtjngpafokkjkdaaGreatDoor
open Go.RowKit
namespace Bs

set_option maxHeartbeats 400000 in
theorem rLeap_any (y : Int) (hy : I64 y) (w : World) :
    Calls Tryz.prog 100 #[.int .i64 y] w fun e w' => e = .returned (.bool (leap y)) ∧ w' = w := by
  obtain ⟨h0, h1⟩ := hy
  rw [leap_t]
  by_cases a : y.tmod 4 = 0 <;> by_cases b : y.tmod 100 = 0 <;> by_cases c : y.tmod 400 = 0
  all_goals
    go_enter Tryz.func100, Tryz.ntmps100
    go_wp2
    go_ret
    exact ⟨ret_bool (by simp [a, b, c]), rfl⟩

set_option maxHeartbeats 400000 in
theorem ryearDays_any (y : Int) (hy : I64 y) (w : World) :
    Calls Tryz.prog 80 #[.int .i64 y] w fun e w' => e = .returned (.int .i64 (yd y)) ∧ w' = w := by
  have HL : Hid (Calls Tryz.prog 100 #[.int .i64 y] w fun e w' => e = .returned (.bool (leap y)) ∧ w' = w) := rLeap_any y hy w
  unfold yd
  cases hl : leap y
  all_goals
    rw [hl] at HL
    go_enter Tryz.func80, Tryz.ntmps80
    go_wp2_with fail
    refine Calls.mono HL.out ?_
    rintro e w' ⟨rfl, rfl⟩
    go_wp2
    go_ret
    exact ⟨rfl, rfl⟩

set_option maxHeartbeats 1000000 in
theorem rMonthDays_any (y m : Int) (hy : I64 y) (hm : I64 m) (w : World) :
    Calls Tryz.prog 79 #[.int .i64 y, .int .i64 m] w fun e w' => e = .returned (.int .i64 (md y m)) ∧ Below w.heap.size w w' := by
  obtain ⟨m0, m1⟩ := hm
  have HL : Hid (Calls Tryz.prog 100 #[.int .i64 y] w fun e w' => e = .returned (.bool (leap y)) ∧ w' = w) := rLeap_any y hy w
  by_cases h : 1 ≤ m ∧ m ≤ 12
  · rcases months h.1 h.2 with rfl | rfl | rfl | rfl | rfl | rfl | rfl | rfl | rfl | rfl | rfl | rfl
    case inr.inl =>
      cases hl : leap y
      all_goals
        rw [hl] at HL
        go_enter Tryz.func79, Tryz.ntmps79
        go_wp2_with fail
        refine Calls.mono HL.out ?_
        rintro e w' ⟨rfl, rfl⟩
        go_wp2
        go_ret
        exact ⟨ret_int (by simp [md, feb, hl]), by first | exact Below.refl _ _ | exact ((But.refl [] _).alloc _).to_below⟩
    all_goals
      go_enter Tryz.func79, Tryz.ntmps79
      go_wp2
      go_ret
      exact ⟨rfl, ((But.refl [] _).alloc _).to_below⟩
  · by_cases h3 : m < 1
    · go_enter Tryz.func79, Tryz.ntmps79
      go_wp2
      go_ret
      exact ⟨ret_int (by unfold md; rw [if_pos (by omega)]), Below.refl _ _⟩
    · have h4 : 12 < m := by omega
      go_enter Tryz.func79, Tryz.ntmps79
      go_wp2
      go_ret
      exact ⟨ret_int (by unfold md; rw [if_pos (by omega)]), Below.refl _ _⟩

set_option maxHeartbeats 400000 in
theorem rWeekday_any (n : Int) (h0 : -1000000000 ≤ n) (h1 : n ≤ 1000000000) (w : World) :
    Calls Tryz.prog 50 #[.int .i64 n] w fun e w' => e = .returned (.int .i64 (wday n)) ∧ w' = w := by
  have a1 : -7 < (n + 3).tmod 7 := Int.lt_tmod_of_pos _ (by omega)
  have a2 : (n + 3).tmod 7 < 7 := Int.tmod_lt_of_pos _ (by omega)
  have a3 : ((n + 3).tmod 7 + 7).tmod 7 = wday n := by
    unfold wday
    rw [tr (by omega), Int.add_emod_right]
    have e : (n + 3) % 7 = (7 * (n + 3).tdiv 7 + (n + 3).tmod 7) % 7 := by rw [Int.mul_tdiv_add_tmod]
    rw [e, Int.mul_add_emod_self_left]
  have A3 : Hid (_ = _) := a3
  clear a3
  go_enter Tryz.func50, Tryz.ntmps50
  go_wp2
  go_ret
  first | exact ⟨ret_int A3.out, rfl⟩ | exact ⟨ret_int (by rw [← A3.out]; exact (tr (by omega)).symm), rfl⟩

end Bs
end Go.Proofs.YtjngpafokkjkdaaGreatDoor

/-
  Contracts of the document's calendar: a day's number.
-/
set_option linter.unusedVariables false
set_option linter.unusedSimpArgs false
namespace Go.Proofs.YtjngpafokkjkdaaGreatDoor
open Go.RowKit
namespace Bs

set_option maxRecDepth 100000 in
set_option maxHeartbeats 1000000 in
theorem rDays_any (y m d : Int) (hy : I64 y) (hm : I64 m) (hd : I64 d) (w : World) :
    Calls Tryz.prog 49 #[.int .i64 y, .int .i64 m, .int .i64 d] w fun e w' => e = .returned (.tuple #[.int .i64 (daysS y m d).1, .int .i64 (daysS y m d).2]) ∧ Below w.heap.size w w' := by
  obtain ⟨d0, d1⟩ := hd
  have HM : Hid (∀ k, I64 k → ∀ w, Calls Tryz.prog 79 #[.int .i64 y, .int .i64 k] w fun e w' => e = .returned (.int .i64 (md y k)) ∧ Below w.heap.size w w') := fun k hk w => rMonthDays_any y k hy hk w
  have HYD : Hid (∀ k, I64 k → ∀ w, Calls Tryz.prog 80 #[.int .i64 k] w fun e w' => e = .returned (.int .i64 (yd k)) ∧ w' = w) := fun k hk w => ryearDays_any k hk w
  obtain ⟨y0, y1⟩ := hy
  by_cases h1 : y < 1
  · rw [daysS_no (fun h => by have := h.1; omega)]
    go_enter Tryz.func49, Tryz.ntmps49
    go_wp2
    go_ret2
    exact ⟨rfl, Below.refl _ _⟩
  by_cases h2 : 9999 < y
  · rw [daysS_no (fun h => by have := h.2.1; omega)]
    go_enter Tryz.func49, Tryz.ntmps49
    go_wp2
    go_ret2
    exact ⟨rfl, Below.refl _ _⟩
  by_cases h3 : d < 1
  · rw [daysS_no (fun h => by have := h.2.2.1; omega)]
    go_enter Tryz.func49, Tryz.ntmps49
    go_wp2
    go_ret2
    exact ⟨rfl, Below.refl _ _⟩
  by_cases h4 : md y m < d
  · rw [daysS_no (fun h => by have := h.2.2.2; omega)]
    go_enter Tryz.func49, Tryz.ntmps49
    go_wp2_with fail
    refine (HM.out m hm w).mono ?_
    rintro e w1 ⟨rfl, b1⟩
    have HB : Hid (Below w.heap.size w w1) := b1
    clear b1
    go_wp2
    go_ret2
    exact ⟨rfl, HB.out⟩
  have hI : IsD y m d := ⟨by omega, by omega, by omega, by omega⟩
  rw [daysS_ok hI]
  obtain ⟨m1, m2⟩ := hI.m
  have jr := jan_r (y := y) (by omega) (by omega)
  have dr := dn_range hI
  have hdm := md_le y m
  go_enter Tryz.func49, Tryz.ntmps49
  go_wp2_with fail
  refine (HM.out m hm w).mono ?_
  rintro e w1 ⟨rfl, b1⟩
  have HB : Hid (Below w.heap.size w w1) := b1
  clear b1
  go_wp2
  have jr0 := jan_1970
  have ydr : ∀ k : Int, 365 ≤ yd k ∧ yd k ≤ 366 := fun k => by have := feb_or k; rw [yd_feb]; omega
  have HYR : Hid (∀ k : Int, 365 ≤ yd k ∧ yd k ≤ 366) := ydr
  clear ydr
  have HJS : Hid (∀ k, jan (k + 1) = jan k + yd k) := jan_succ
  have HJR : Hid (∀ k, 1 ≤ k → k ≤ 10000 → -719162 ≤ jan k ∧ jan k ≤ 2932897) := fun k h1 h2 => by
    have a := jan_mono h1
    have b := jan_mono h2
    rw [jan_one] at a
    rw [jan_end] at b
    exact ⟨a, b⟩
  go_loopw [8, 9] (fun n i wr => ∃ k : Int, 1 ≤ k ∧ k ≤ m ∧ n = .int .i64 (d - 1 + cum y k) ∧ i = .int .i64 k ∧ Hid (Below w.heap.size w wr)) (fun _ i _ => (m - intOf i).toNat)
  case atStart => exact ⟨1, by omega, by omega, by rw [cum_one]; simp, rfl, HB⟩
  case round =>
    clear HB
    obtain ⟨k, k1, k2, rfl, rfl, HB⟩ := hrel
    have cr := cum_r y k
    have mr := md_le y k
    by_cases hk : k < m
    · go_wp2_with fail
      refine (HM.out k ⟨by omega, by omega⟩ _).mono ?_
      rintro e w2 ⟨rfl, b2⟩
      have HB2 : Hid (Below w.heap.size w w2) := bel_trans HB.out b2
      clear b2
      go_wp2
      exact ⟨⟨k + 1, by omega, by omega, by rw [cum_succ y k k1 (by omega)]; congr 1; omega, rfl, HB2⟩, by simp [intOf]; omega⟩
    · obtain rfl : k = m := by omega
      go_wp2
      go_loopw [8, 10] (fun n i wr => ∃ q : Int, 1970 ≤ q ∧ (q ≤ y ∨ q = 1970) ∧ n = .int .i64 (d - 1 + cum y k + jan q) ∧ i = .int .i64 q ∧ Hid (Below w.heap.size w wr)) (fun _ i _ => (y - intOf i).toNat)
      case atStart => exact ⟨1970, by omega, by omega, by rw [jr0]; simp, rfl, HB⟩
      case round =>
        clear HB
        obtain ⟨q, q1, q2, rfl, rfl, HB⟩ := hrel
        have qr := HJR.out q (by omega) (by omega)
        have yr := HYR.out q
        by_cases hq : q < y
        · have hjs := HJS.out q
          go_wp2_with fail
          refine (HYD.out q ⟨by omega, by omega⟩ _).mono ?_
          rintro e w2 ⟨rfl, rfl⟩
          go_wp2
          exact ⟨⟨q + 1, by omega, by omega, by congr 1; omega, rfl, HB⟩, by simp [intOf]; omega⟩
        · go_wp2
          have hz : (y ≤ 1970 ∧ q = 1970) ∨ (1970 ≤ y ∧ q = y) := by omega
          go_loopw [8, 11] (fun n i wr => ∃ r : Int, y ≤ r ∧ (r ≤ 1970 ∨ r = y) ∧ n = .int .i64 (d - 1 + cum y k + jan q + jan y - jan r) ∧ i = .int .i64 r ∧ Hid (Below w.heap.size w wr)) (fun _ i _ => (1970 - intOf i).toNat)
          case atStart => exact ⟨y, by omega, by omega, by congr 1; omega, rfl, HB⟩
          case round =>
            clear HB
            obtain ⟨r, r1, r2, rfl, rfl, HB⟩ := hrel
            have rr := HJR.out r (by omega) (by omega)
            have yr2 := HYR.out r
            by_cases hr : r < 1970
            · have hjs := HJS.out r
              go_wp2_with fail
              refine (HYD.out r ⟨by omega, by omega⟩ _).mono ?_
              rintro e w2 ⟨rfl, rfl⟩
              go_wp2
              exact ⟨⟨r + 1, by omega, by omega, by congr 1; omega, rfl, HB⟩, by simp [intOf]; omega⟩
            · go_wp2
              go_ret2
              refine ⟨ret_pair ?_ rfl, HB.out⟩
              unfold dn
              rcases hz with ⟨hz1, rfl⟩ | ⟨hz1, rfl⟩
              · obtain rfl : r = 1970 := by omega
                omega
              · obtain rfl : r = q := by omega
                omega

end Bs
end Go.Proofs.YtjngpafokkjkdaaGreatDoor
