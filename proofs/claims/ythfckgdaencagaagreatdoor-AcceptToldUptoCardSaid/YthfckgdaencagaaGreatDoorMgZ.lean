/- Several texts as one. -/
import Derived.Test.YthfckgdaencagaaGreatDoorMgC
import Derived.Test.YthfckgdaencagaaGreatDoorMgR
import Derived.Test.YthfckgdaencagaaGreatDoorMgS
import Derived.Test.YthfckgdaencagaaGreatDoorMgD
/-
  Qualities, plainly: over lists of bytes.
-/
set_option linter.unusedVariables false
set_option linter.unusedSimpArgs false
namespace Go.Proofs.YthfckgdaencagaaGreatDoor
namespace Ac
open Oc Tg

/-- The digits that are read as thousandths. -/
def qd (l : List UInt8) : List UInt8 := cutA 46 l ++ cutB 46 l ++ List.replicate (3 - (cutB 46 l).length) 48
/-- What a quality says: thousandths, and the error. -/
def qual (l : List UInt8) : Int × Int :=
  if (cutA 46 l).length ≠ 1 ∨ 3 < (cutB 46 l).length then (0, 71) else if (numR 10 (qd l) 1000).2 = 0 then ((numR 10 (qd l) 1000).1, 0) else (0, 71)

theorem num_bad (l : List UInt8) (most : Int) (c : UInt8) (hc : c ∈ l) (h : 10 ≤ valI (c.toNat : Int)) : numR 10 l most = (0, 11) := by
  unfold numR
  rw [if_pos]
  simp only [Bool.or_eq_true, List.any_eq_true]
  exact .inr ⟨c, hc, decide_eq_true h⟩
theorem num_ge (l : List UInt8) : ∀ n : Int, 0 ≤ n → n ≤ l.foldl (fun n c => n * 10 + valI (c.toNat : Int)) n := by
  induction l with
  | nil => intro n _; exact Int.le_refl _
  | cons c r ih =>
    intro n hn
    have h := (valI_bd (c := (c.toNat : Int)) (by omega)).1
    have := ih (n * 10 + valI (c.toNat : Int)) (by omega)
    simp only [List.foldl_cons]
    omega

theorem qual_nil : qual [] = (0, 71) := by decide
theorem cutA_two (a b : UInt8) (r : List UInt8) (ha : a ≠ 46) (hb : b ≠ 46) : 2 ≤ (cutA 46 (a :: b :: r)).length := by
  have h1 : (a != 46) = true := by simp [ha]
  have h2 : (b != 46) = true := by simp [hb]
  simp [cutA, List.takeWhile, h1, h2]
theorem cut_dot (a : UInt8) (r : List UInt8) (ha : a ≠ 46) : cutA 46 (a :: 46 :: r) = [a] ∧ cutB 46 (a :: 46 :: r) = r := by
  have h1 : (a != 46) = true := by simp [ha]
  have h2 : ((46 : UInt8) != 46) = false := by decide
  simp [cutA, cutB, List.takeWhile, List.dropWhile, h1, h2]
theorem cut_one1 (a : UInt8) (ha : a ≠ 46) : cutA 46 [a] = [a] ∧ cutB 46 [a] = [] := by
  have h1 : (a != 46) = true := by simp [ha]
  simp [cutA, cutB, List.takeWhile, List.dropWhile, h1]
theorem cut_first (r : List UInt8) : cutA 46 (46 :: r) = [] := by
  have h2 : ((46 : UInt8) != 46) = false := by decide
  simp [cutA, List.takeWhile, h2]
theorem qual_dot (a : UInt8) (r : List UInt8) (ha : a ≠ 46) (hr : r.length ≤ 3) : qual (a :: 46 :: r) = (if (numR 10 (a :: (r ++ List.replicate (3 - r.length) 48)) 1000).2 = 0 then ((numR 10 (a :: (r ++ List.replicate (3 - r.length) 48)) 1000).1, 0) else (0, 71)) := by
  obtain ⟨h1, h2⟩ := cut_dot a r ha
  unfold qual qd
  rw [h1, h2, if_neg (by simp; omega)]
  simp
theorem qual_one (a : UInt8) (ha : a ≠ 46) : qual [a] = (if (numR 10 [a, 48, 48, 48] 1000).2 = 0 then ((numR 10 [a, 48, 48, 48] 1000).1, 0) else (0, 71)) := by
  obtain ⟨h1, h2⟩ := cut_one1 a ha
  unfold qual qd
  rw [h1, h2, if_neg (by simp)]
  rfl
theorem val_ge2 (c : UInt8) (h0 : c ≠ 48) (h1 : c ≠ 49) : 2 ≤ valI (c.toNat : Int) := by
  have a0 : c.toNat ≠ 48 := fun e => h0 (UInt8.toNat_inj.1 e)
  have a1 : c.toNat ≠ 49 := fun e => h1 (UInt8.toNat_inj.1 e)
  unfold valI
  (repeat' split) <;> omega
theorem num_four (a : UInt8) (p : List UInt8) (hp : p.length = 3) (h : 2 ≤ valI (a.toNat : Int)) : (numR 10 (a :: p) 1000).2 ≠ 0 := by
  unfold numR
  split
  · decide
  · have hge : 2000 ≤ numOf 10 (a :: p) := by
      match p, hp with
      | [x, y, z], _ =>
        have hx := (valI_bd (c := (x.toNat : Int)) (by omega)).1
        have hy := (valI_bd (c := (y.toNat : Int)) (by omega)).1
        have hz := (valI_bd (c := (z.toNat : Int)) (by omega)).1
        simp only [numOf, List.foldl_cons, List.foldl_nil]
        omega
    rw [if_pos (by omega)]
    decide
/-- What makes it no quality. -/
theorem qual_first (a : UInt8) (r : List UInt8) (h0 : a ≠ 48) (h1 : a ≠ 49) : qual (a :: r) = (0, 71) := by
  by_cases ha : a = 46
  · subst ha
    unfold qual
    rw [cut_first, if_pos (by simp)]
  · match r with
    | [] => rw [qual_one a ha, if_neg (num_four a [48, 48, 48] rfl (val_ge2 a h0 h1))]
    | b :: r =>
      by_cases hb : b = 46
      · subst hb
        by_cases hr : r.length ≤ 3
        · rw [qual_dot a r ha hr, if_neg (num_four a _ (by simp; omega) (val_ge2 a h0 h1))]
        · obtain ⟨c1, c2⟩ := cut_dot a r ha
          unfold qual
          rw [c1, c2, if_pos (by omega)]
      · unfold qual
        have := cutA_two a b r ha hb
        rw [if_pos (by omega)]
theorem qual_second (a b : UInt8) (r : List UInt8) (hb : b ≠ 46) : qual (a :: b :: r) = (0, 71) := by
  by_cases ha : a = 46
  · subst ha
    unfold qual
    rw [cut_first, if_pos (by simp)]
  · unfold qual
    have := cutA_two a b r ha hb
    rw [if_pos (by omega)]
theorem qual_long (a b : UInt8) (r : List UInt8) (hr : 3 < r.length) : qual (a :: b :: r) = (0, 71) := by
  by_cases hb : b = 46
  · subst hb
    by_cases ha : a = 46
    · subst ha
      unfold qual
      rw [cut_first, if_pos (by simp)]
    · obtain ⟨c1, c2⟩ := cut_dot a r ha
      unfold qual
      rw [c1, c2, if_pos (by omega)]
  · exact qual_second a b r hb
theorem qual_digit (a b : UInt8) (r : List UInt8) (c : UInt8) (hc : c ∈ r) (h : 10 ≤ valI (c.toNat : Int)) : qual (a :: b :: r) = (0, 71) := by
  by_cases hb : b = 46
  · subst hb
    by_cases hr : r.length ≤ 3
    · by_cases ha : a = 46
      · subst ha
        unfold qual
        rw [cut_first, if_pos (by simp)]
      · rw [qual_dot a r ha hr, num_bad _ _ c (by simp [hc]) h, if_neg (by decide)]
    · exact qual_long a 46 r (by omega)
  · exact qual_second a b r hb

/-- The digit at a place behind the dot, and what the first ones say. -/
def qdig (l : List UInt8) (j : Nat) : Int := if 2 + j < l.length then ((l.getD (2 + j) 0).toNat : Int) - 48 else 0
def qacc (l : List UInt8) : Nat → Int
  | 0 => 0
  | k + 1 => 10 * qacc l k + qdig l k
theorem num_is (a : UInt8) (ha : a = 48 ∨ a = 49) (x y z : UInt8) (hx : valI (x.toNat : Int) < 10) (hy : valI (y.toNat : Int) < 10) (hz : valI (z.toNat : Int) < 10) (n : Int)
    (hn : n = (if a = 49 then 1000 else 0) + (100 * valI (x.toNat : Int) + 10 * valI (y.toNat : Int) + valI (z.toNat : Int))) :
    (if (numR 10 [a, x, y, z] 1000).2 = 0 then ((numR 10 [a, x, y, z] 1000).1, 0) else (0, 71)) = (if 1000 < n then ((0 : Int), (71 : Int)) else (n, 0)) := by
  have hv : valI (a.toNat : Int) = if a = 49 then 1 else 0 := by rcases ha with rfl | rfl <;> decide
  have hno : numOf 10 [a, x, y, z] = n := by
    simp only [numOf, List.foldl_cons, List.foldl_nil]
    rw [hv, hn]
    split <;> omega
  have hva : valI (a.toNat : Int) < 10 := by rw [hv]; split <;> decide
  have e : numR 10 [a, x, y, z] 1000 = if 1000 < n then (0, 12) else (n, 0) := by
    unfold numR
    rw [if_neg (by simp; omega), hno]
  rw [e]
  split <;> simp
theorem val_of (x : UInt8) (h : valI (x.toNat : Int) < 10) : (x.toNat : Int) - 48 = valI (x.toNat : Int) := by
  unfold valI at *
  (repeat' split) <;> (repeat' split at h) <;> omega
/-- What the document's loop comes to. -/
theorem qual_end (l : List UInt8) (a : UInt8) (h0 : l.head? = some a) (ha : a = 48 ∨ a = 49) (h5 : l.length ≤ 5) (h1 : 1 < l.length → l.getD 1 0 = 46) (hall : ∀ j, 2 ≤ j → j < l.length → valI ((l.getD j 0).toNat : Int) < 10) :
    qual l = (if 1000 < (if a = 49 then 1000 else 0) + qacc l 3 then (0, 71) else ((if a = 49 then 1000 else 0) + qacc l 3, 0)) := by
  have ha46 : a ≠ 46 := by rcases ha with rfl | rfl <;> decide
  have z0 : valI 48 = 0 := by decide
  match l, h0 with
  | [b], h0 =>
    obtain rfl : b = a := by simpa using h0
    rw [qual_one b ha46]
    exact num_is b ha 48 48 48 (by decide) (by decide) (by decide) _ (by simp [qacc, qdig, z0])
  | [b, c], h0 =>
    obtain rfl : b = a := by simpa using h0
    obtain rfl : c = 46 := by simpa using h1 (by simp)
    rw [qual_dot b [] ha46 (by simp)]
    exact num_is b ha 48 48 48 (by decide) (by decide) (by decide) _ (by simp [qacc, qdig, z0])
  | [b, c, x], h0 =>
    obtain rfl : b = a := by simpa using h0
    obtain rfl : c = 46 := by simpa using h1 (by simp)
    have hx : valI (x.toNat : Int) < 10 := by simpa using hall 2 (by omega) (by simp)
    rw [qual_dot b [x] ha46 (by simp)]
    exact num_is b ha x 48 48 hx (by decide) (by decide) _ (by simp [qacc, qdig, z0, val_of x hx]; omega)
  | [b, c, x, y], h0 =>
    obtain rfl : b = a := by simpa using h0
    obtain rfl : c = 46 := by simpa using h1 (by simp)
    have hx : valI (x.toNat : Int) < 10 := by simpa using hall 2 (by omega) (by simp)
    have hy : valI (y.toNat : Int) < 10 := by simpa using hall 3 (by omega) (by simp)
    rw [qual_dot b [x, y] ha46 (by simp)]
    exact num_is b ha x y 48 hx hy (by decide) _ (by simp [qacc, qdig, z0, val_of x hx, val_of y hy]; omega)
  | [b, c, x, y, z], h0 =>
    obtain rfl : b = a := by simpa using h0
    obtain rfl : c = 46 := by simpa using h1 (by simp)
    have hx : valI (x.toNat : Int) < 10 := by simpa using hall 2 (by omega) (by simp)
    have hy : valI (y.toNat : Int) < 10 := by simpa using hall 3 (by omega) (by simp)
    have hz : valI (z.toNat : Int) < 10 := by simpa using hall 4 (by omega) (by simp)
    rw [qual_dot b [x, y, z] ha46 (by simp)]
    exact num_is b ha x y z hx hy hz _ (by simp [qacc, qdig, z0, val_of x hx, val_of y hy, val_of z hz] <;> omega)
  | b :: c :: x :: y :: z :: u :: r, _ => simp at h5

end Ac
end Go.Proofs.YthfckgdaencagaaGreatDoor

/-
  Quality, and the document's.
-/
set_option linter.unusedVariables false
set_option linter.unusedSimpArgs false
namespace Go.Proofs.YthfckgdaencagaaGreatDoor
open Go.RowKit Go.Shelf
namespace Ac
open Oc Tg

theorem zeros_list (k : Nat) (h : k ≤ 3) : ((⟨#[48, 48, 48]⟩ : ByteArray).extract k 3).data.toList = List.replicate (3 - k) 48 := by
  match k, h with
  | 0, _ => rfl
  | 1, _ => rfl
  | 2, _ => rfl
  | 3, _ => rfl

set_option maxRecDepth 100000 in
set_option maxHeartbeats 1000000 in
theorem Quality_any (s : ByteArray) (hs : s.size ≤ 4000000000) (w : World) (hw : ML w) :
    Calls Tryz.prog 17 #[.string s] w fun e w' => e = .returned (.tuple #[.int .i64 (qual s.data.toList).1, .int .i64 (qual s.data.toList).2]) ∧ Below w.heap.size w w' := by
  have HC := Cut_one s 46 hs w hw
  clear hw
  have hq : (if (cutA 46 s.data.toList).length ≠ 1 ∨ 3 < (cutB 46 s.data.toList).length then (0, 71) else if (numR 10 (qd s.data.toList) 1000).2 = 0 then ((numR 10 (qd s.data.toList) 1000).1, 0) else (0, 71)) = qual s.data.toList := rfl
  have hqd : qd s.data.toList = cutA 46 s.data.toList ++ cutB 46 s.data.toList ++ List.replicate (3 - (cutB 46 s.data.toList).length) 48 := rfl
  have la := cutA_len 46 s.data.toList
  have lb := cutB_len 46 s.data.toList
  rw [size_list] at la lb
  generalize qual s.data.toList = Q at *
  obtain ⟨Q1, Q2⟩ := Q
  generalize cutA 46 s.data.toList = A at *
  generalize cutB 46 s.data.toList = D at *
  generalize has 46 s.data.toList = H at *
  generalize qd s.data.toList = QD at *
  have sa : (str A).size = A.length := str_size A
  have sd : (str D).size = D.length := str_size D
  by_cases h1 : A.length = 1
  · by_cases h3 : 3 < D.length
    · have HQ : Hid ((Q1, Q2) = ((0 : Int), (71 : Int))) := by rw [if_pos (.inr h3)] at hq; exact hq.symm
      clear hq hqd
      have q1 : ((A.length : Int) != 1) = false := by simp; omega
      have q2 : decide (3 < (D.length : Int)) = true := decide_eq_true (by omega)
      go_enter Tryz.func17, Tryz.ntmps17
      go_wp2_with fail
      refine HC.mono ?_
      rintro e w2 ⟨rfl, hb2⟩
      go_wp2
      go_ret2
      obtain ⟨rfl, rfl⟩ := Prod.mk.injEq _ _ _ _ ▸ HQ.out
      exact ⟨rfl, hb2⟩
    · rw [if_neg (by omega)] at hq
      have q1 : ((A.length : Int) != 1) = false := by simp; omega
      have q2 : decide (3 < (D.length : Int)) = false := decide_eq_false (by omega)
      have HZ : Hid ((str A ++ str D ++ ((⟨#[48, 48, 48]⟩ : ByteArray).extract D.length 3)).data.toList = QD) := by
        show _ = _
        rw [hqd, ← zeros_list D.length (by omega)]
        simp [str_list]
      have hz : (str A ++ str D ++ ((⟨#[48, 48, 48]⟩ : ByteArray).extract D.length 3)).size = 4 := by
        rw [← size_list, HZ.out, hqd]; simp; omega
      have HD : Hid (∀ w, Calls Tryz.prog 36 #[.string (str A ++ str D ++ ((⟨#[48, 48, 48]⟩ : ByteArray).extract D.length 3)), .int .i64 1000] w fun e w' => e = .returned (.tuple #[.int .i64 (numR 10 QD 1000).1, .int .i64 (numR 10 QD 1000).2]) ∧ Below w.heap.size w w') := fun w => by
        have := Decimal_any (str A ++ str D ++ ((⟨#[48, 48, 48]⟩ : ByteArray).extract D.length 3)) (by rw [hz]; unfold maxLen; omega) 1000 (by omega) (by omega) w
        rw [HZ.out] at this
        exact this
      clear hqd hz HZ
      have HQ : Hid ((if (numR 10 QD 1000).2 = 0 then ((numR 10 QD 1000).1, 0) else (0, 71)) = (Q1, Q2)) := hq
      clear hq
      have hn : (numR 10 QD 1000).2 = 0 ∨ (numR 10 QD 1000).2 ≠ 0 := by omega
      generalize (numR 10 QD 1000).1 = n1 at *
      generalize (numR 10 QD 1000).2 = n2 at *
      go_enter Tryz.func17, Tryz.ntmps17
      go_wp2_with fail
      refine HC.mono ?_
      rintro e w2 ⟨rfl, hb2⟩
      have HB2 : Hid (Below w.heap.size w w2) := hb2
      clear hb2 HC
      go_wp2_with (go_at_call 36; refine (HD.out _).mono ?_; rintro e w3 ⟨rfl, hb3⟩)
      all_goals have HB3 : Hid (Below w.heap.size w w3) := bel_trans HB2.out hb3
      all_goals go_ret2
      · rename_i hne
        have := HQ.out
        rw [if_neg (by simpa using hne)] at this
        cases this
        exact ⟨rfl, HB3.out⟩
      · rename_i hne
        have := HQ.out
        rw [if_pos (by simpa using hne)] at this
        cases this
        exact ⟨rfl, HB3.out⟩
  · have HQ : Hid ((Q1, Q2) = ((0 : Int), (71 : Int))) := by rw [if_pos (.inl h1)] at hq; exact hq.symm
    clear hq hqd
    have q1 : ((A.length : Int) != 1) = true := by simp; omega
    go_enter Tryz.func17, Tryz.ntmps17
    go_wp2_with fail
    refine HC.mono ?_
    rintro e w2 ⟨rfl, hb2⟩
    go_wp2
    go_ret2
    obtain ⟨rfl, rfl⟩ := Prod.mk.injEq _ _ _ _ ▸ HQ.out
    exact ⟨rfl, hb2⟩

end Ac
end Go.Proofs.YthfckgdaencagaaGreatDoor
