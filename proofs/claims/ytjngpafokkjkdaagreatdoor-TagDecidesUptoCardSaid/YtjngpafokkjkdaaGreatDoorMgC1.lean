/- Several texts as one. -/
import Derived.Test.YtjngpafokkjkdaaGreatDoorMgB1
/-
  The document's reading of a date: its small functions.
-/
set_option linter.unusedVariables false
set_option linter.unusedSimpArgs false
namespace Go.Proofs.YtjngpafokkjkdaaGreatDoor
open Go.RowKit
namespace Bs

theorem patD_patL (form : Int) : patD form = patL form := rfl
theorem str_ext' (l : List UInt8) (a n : Nat) : (str l).extract a (a + n) = str ((l.drop a).take n) := by
  apply eq_list
  rw [str_list]
  simp [str, ByteArray.data_extract]
theorem str_app2 (a b : List UInt8) : str a ++ str b = str (a ++ b) := by
  apply eq_list
  simp [str]
theorem hp_false {l t : List UInt8} (h : l.length < t.length) : hp l t = false := by
  unfold hp
  apply decide_eq_false
  intro e
  have := congrArg List.length e
  rw [List.length_take] at this
  omega

set_option maxHeartbeats 1000000 in
theorem rbegins_any (l t : List UInt8) (a : Nat) (hl : l.length ≤ 140737488355328) (ha : a ≤ l.length) (ht : t.length ≤ 100) (w : World) :
    Calls Tryz.prog 72 #[.string (str l), .int .i64 (a : Int), .string (str t)] w fun e w' => e = .returned (.bool (hp (l.drop a) t)) ∧ w' = w := by
  have hs := str_size l
  have hst := str_size t
  by_cases hlt : a + t.length ≤ l.length
  · have hlt' : (a : Int) + (t.length : Int) ≤ (l.length : Int) := by omega
    have hd : decide ((a : Int) + (t.length : Int) ≤ (l.length : Int)) = true := decide_eq_true hlt'
    have hcut := str_ext' l a t.length
    have he : ((str ((l.drop a).take t.length)).toList == (str t).toList) = hp (l.drop a) t := by
      rw [eq_toList]
      unfold hp
      exact decide_eq_decide.2 ⟨str_inj, fun e => congrArg str e⟩
    generalize hp (l.drop a) t = B at *
    generalize str ((l.drop a).take t.length) = X at *
    go_enter Tryz.func72, Tryz.ntmps72
    go_wp2
    go_ret
    exact ⟨rfl, rfl⟩
  · have hlt' : ¬ (a : Int) + (t.length : Int) ≤ (l.length : Int) := by omega
    rw [hp_false (by rw [List.length_drop]; omega)]
    go_enter Tryz.func72, Tryz.ntmps72
    go_wp2
    go_ret
    exact ⟨rfl, rfl⟩

set_option maxRecDepth 100000 in
set_option maxHeartbeats 1000000 in
theorem rFormOf_any (l : List UInt8) (hl : l.length ≤ 140737488355328) (w : World) :
    Calls Tryz.prog 46 #[.string (str l)] w fun e w' => e = .returned (.int .i64 (formS l)) ∧ Below w.heap.size w w' := by
  go_enter Tryz.func46, Tryz.ntmps46
  go_wp2
  go_loopw [3] (fun i wr => ∃ k : Nat, k ≤ 7 ∧ i = .int .i64 (k : Int) ∧ Hid (formF l (7 - k) k = formS l) ∧ Hid (Below w.heap.size w wr)) (fun i _ => 7 - (intOf i).toNat)
  case atStart => exact ⟨0, by omega, rfl, (rfl : formF l (7 - 0) 0 = formS l), Below.refl _ _⟩
  case round =>
    obtain ⟨k, hk, rfl, hf, HB⟩ := hrel
    by_cases hkn : k < 7
    · have hst : formF l (7 - k) k = if hp l (shorts.getD k [] ++ [44]) then 0 else if hp l (longs.getD k [] ++ [44]) then 1 else formF l (7 - (k + 1)) (k + 1) := by
        rw [show 7 - k = (7 - (k + 1)) + 1 by omega]
        conv => lhs; unfold formF
      have n1 := shorts_n' hkn
      have n2 := longs_n' hkn
      have z1 : (str (shorts.getD k [])).size + (⟨#[44]⟩ : ByteArray).size ≤ 100 := by have : (⟨#[44]⟩ : ByteArray).size = 1 := rfl; rw [str_size]; omega
      have z2 : (str (longs.getD k [])).size + (⟨#[44]⟩ : ByteArray).size ≤ 100 := by have : (⟨#[44]⟩ : ByteArray).size = 1 := rfl; rw [str_size]; omega
      have A1 : Hid (∀ w, Calls Tryz.prog 72 #[.string (str l), .int .i64 0, .string (str (shorts.getD k []) ++ ⟨#[44]⟩)] w fun e w' => e = .returned (.bool (hp l (shorts.getD k [] ++ [44]))) ∧ w' = w) := fun w => (by
        rw [show (⟨#[44]⟩ : ByteArray) = str [44] from rfl, str_app2]
        exact rbegins_any l _ 0 hl (by omega) (by rw [List.length_append]; simp only [List.length_cons, List.length_nil]; omega) w)
      have A2 : Hid (∀ w, Calls Tryz.prog 72 #[.string (str l), .int .i64 0, .string (str (longs.getD k []) ++ ⟨#[44]⟩)] w fun e w' => e = .returned (.bool (hp l (longs.getD k [] ++ [44]))) ∧ w' = w) := fun w => (by
        rw [show (⟨#[44]⟩ : ByteArray) = str [44] from rfl, str_app2]
        exact rbegins_any l _ 0 hl (by omega) (by rw [List.length_append]; simp only [List.length_cons, List.length_nil]; omega) w)
      have C1 : Hid (∀ w, Calls Tryz.prog 73 #[.int .i64 (k : Int)] w fun e w' => e = .returned (.string (str (shorts.getD k []))) ∧ Below w.heap.size w w') := fun w => rShortName_any k hkn w
      have C2 : Hid (∀ w, Calls Tryz.prog 74 #[.int .i64 (k : Int)] w fun e w' => e = .returned (.string (str (longs.getD k []))) ∧ Below w.heap.size w w') := fun w => rLongName_any k hkn w
      rw [hf.out] at hst
      generalize hp l (shorts.getD k [] ++ [44]) = p1 at *
      generalize hp l (longs.getD k [] ++ [44]) = p2 at *
      have HST : Hid (_ = _) := hst
      clear hst n1 n2
      generalize str (shorts.getD k []) = S1 at *
      generalize str (longs.getD k []) = S2 at *
      go_wp2_with fail
      refine (C1.out _).mono ?_
      rintro e w1 ⟨rfl, b1⟩
      have HB1 : Hid (Below w.heap.size w w1) := bel_trans HB.out b1
      clear b1
      go_wp2_with fail
      refine (A1.out _).mono ?_
      rintro e w' ⟨rfl, rfl⟩
      cases p1
      · go_wp2_with fail
        refine (C2.out _).mono ?_
        rintro e w2 ⟨rfl, b2⟩
        have HB2 : Hid (Below w.heap.size w w2) := bel_trans HB1.out b2
        clear b2
        go_wp2_with fail
        refine (A2.out _).mono ?_
        rintro e w' ⟨rfl, rfl⟩
        cases p2
        · go_wp2
          exact ⟨⟨k + 1, by omega, by go_num, (HST.out.symm : formF l (7 - (k + 1)) (k + 1) = formS l), HB2⟩, by simp [intOf]; omega⟩
        · go_wp2
          go_ret
          exact ⟨by rw [HST.out]; rfl, HB2.out⟩
      · go_wp2
        go_ret
        exact ⟨by rw [HST.out]; rfl, HB1.out⟩
    · obtain rfl : k = 7 := by omega
      go_wp2
      go_ret
      exact ⟨by rw [← hf.out]; rfl, HB.out⟩

def pr2 : Except Nat (Nat × Int) → Int × Int
  | .ok (b, v) => (v, (b : Int))
  | .error e => (-1, (e : Int))
theorem ret_p2 {r : Int × Int} {a b : Int} (h : r = (a, b)) : Ending.returned (.tuple #[.int .i64 a, .int .i64 b]) = .returned (.tuple #[.int .i64 r.1, .int .i64 r.2]) := by rw [h]
theorem dgs_place (l : List UInt8) : ∀ (k a : Nat) (v : Int) (r : Nat × Int), dgs l k a v = .ok r → r.1 = a + k
  | 0, a, v, r, h => by
    unfold dgs at h
    cases h
    rfl
  | k + 1, a, v, r, h => by
    obtain ⟨c, _, _, h'⟩ := dgs_un h
    have := dgs_place l k (a + 1) _ r h'
    omega

set_option maxRecDepth 100000 in
set_option maxHeartbeats 2000000 in
theorem rnumber_dg (l : List UInt8) (a wd : Nat) (hl : l.length ≤ 140737488355328) (ha : a ≤ l.length) (hwd : wd ≤ 4) (w : World) :
    Calls Tryz.prog 77 #[.string (str l), .int .i64 (a : Int), .int .i64 (wd : Int), .bool false] w fun e w' => e = .returned (.tuple #[.int .i64 (pr2 (dgs l wd a 0)).1, .int .i64 (pr2 (dgs l wd a 0)).2]) ∧ w' = w := by
  have hs := str_size l
  go_enter Tryz.func77, Tryz.ntmps77
  go_wp2
  go_loop [10, 11] (fun n i => ∃ (k : Nat) (v : Int), k ≤ wd ∧ a + k ≤ l.length ∧ n = .int .i64 v ∧ i = .int .i64 (k : Int) ∧ 0 ≤ v ∧ Hid (v + 1 ≤ 10 ^ k) ∧ Hid (dgs l (wd - k) (a + k) v = dgs l wd a 0)) (fun _ i => wd - (intOf i).toNat)
  case atStart => exact ⟨0, 0, by omega, by omega, rfl, rfl, by omega, (by decide : (0 : Int) + 1 ≤ 10 ^ 0), (rfl : dgs l (wd - 0) (a + 0) 0 = dgs l wd a 0)⟩
  case round =>
    obtain ⟨k, v, hk, hak, rfl, rfl, hv0, hv, he⟩ := hrel
    by_cases hkn : k < wd
    · obtain ⟨m, hm⟩ : ∃ m, wd - k = m + 1 := ⟨wd - k - 1, by omega⟩
      have hv3 : v ≤ 999 := by
        have := hv.out
        rcases (by omega : k = 0 ∨ k = 1 ∨ k = 2 ∨ k = 3) with rfl | rfl | rfl | rfl <;> simp at this <;> omega
      obtain ⟨q, hq⟩ : ∃ q, a + k = q := ⟨_, rfl⟩
      have hidx : (a : Int) + (k : Int) = (q : Int) := by omega
      rw [hq] at he hak
      have HQ : Hid (a + k = q) := hq
      by_cases hql : q = l.length
      · have HS : Hid (dgs l wd a 0 = .error l.length) := (by
          rw [← he.out, hm]
          unfold dgs
          rw [List.getElem?_eq_none (by omega), hql] : dgs l wd a 0 = .error l.length)
        have hge : (l.length : Int) ≤ (q : Int) := by omega
        go_wp2
        go_ret2
        exact ⟨ret_p2 (by rw [HS.out]; rfl), rfl⟩
      · have hlt : q < l.length := by omega
        have hg : l[q]? = some (l.getD (q) 0) := by rw [List.getD_eq_getElem?_getD, List.getElem?_eq_getElem hlt]; rfl
        have hge : ¬ (l.length : Int) ≤ (q : Int) := by omega
        have e1 : (((str l)[q]'(by omega)).toNat : Int) = ((l.getD (q) 0).toNat : Int) := by rw [← at_lt, str_list]
        have hu := (l.getD (q) 0).toNat_lt
        by_cases hdg : dgt (l.getD (q) 0) = true
        · have HS : Hid (dgs l (wd - (k + 1)) (q + 1) (v * 10 + ((((l.getD (q) 0).toNat : Nat) : Int) - 48)) = dgs l wd a 0) := (by
            rw [← he.out, hm]
            conv => rhs; unfold dgs
            rw [hg]
            dsimp only
            rw [if_pos hdg, show wd - (k + 1) = m by omega]
            rfl : _ = _)
          have hr : 48 ≤ (l.getD (q) 0).toNat ∧ (l.getD (q) 0).toNat ≤ 57 := by simpa [dgt] using hdg
          clear hg hdg he
          generalize (l.getD (q) 0).toNat = X at *
          have w1 : IntKind.u8.wrap ((X : Int) - 48) = (X : Int) - 48 := by simp [IntKind.wrap, IntKind.signed, IntKind.bits]; omega
          have x1 : ¬ (X : Int) < 48 := by omega
          have x2 : ¬ (57 : Int) < (X : Int) := by omega
          go_wp2
          refine ⟨⟨k + 1, v * 10 + ((X : Int) - 48), by omega, by omega, by congr 1; omega, by go_num, by omega, ?_, (by have := HS.out; have e := HQ.out; rw [← e] at this; exact this : dgs l (wd - (k + 1)) (a + (k + 1)) (v * 10 + ((X : Int) - 48)) = dgs l wd a 0)⟩, by simp [intOf]; omega⟩
          have := hv.out
          exact (by rw [Int.pow_succ]; omega : v * 10 + ((X : Int) - 48) + 1 ≤ 10 ^ (k + 1))
        · have HS : Hid (dgs l wd a 0 = .error (q)) := (by
            rw [← he.out, hm]
            unfold dgs
            rw [hg]
            dsimp only
            rw [if_neg hdg] : dgs l wd a 0 = .error (q))
          have hr : ¬ (48 ≤ (l.getD (q) 0).toNat ∧ (l.getD (q) 0).toNat ≤ 57) := by simpa [dgt] using hdg
          clear hg hdg he
          generalize (l.getD (q) 0).toNat = X at *
          rcases (by omega : X < 48 ∨ 57 < X) with hx | hx
          · have hx' : (X : Int) < 48 := by omega
            go_wp2
            go_ret2
            exact ⟨ret_p2 (by rw [HS.out]; exact Prod.ext rfl rfl), rfl⟩
          · have hx' : ¬ (X : Int) < 48 := by omega
            have hx2 : (57 : Int) < (X : Int) := by omega
            go_wp2
            go_ret2
            exact ⟨ret_p2 (by rw [HS.out]; exact Prod.ext rfl rfl), rfl⟩
    · obtain rfl : k = wd := by omega
      have HS : Hid (dgs l k a 0 = .ok (a + k, v)) := (by rw [← he.out, Nat.sub_self]; rfl : dgs l k a 0 = .ok (a + k, v))
      go_wp2
      go_ret2
      exact ⟨ret_p2 (by rw [HS.out]; exact Prod.ext rfl (by show ((a + k : Nat) : Int) = _; omega)), rfl⟩

end Bs
end Go.Proofs.YtjngpafokkjkdaaGreatDoor

/-
  The document's reading of a date: a day with a blank, names, the year of two digits.
-/
set_option linter.unusedVariables false
set_option linter.unusedSimpArgs false
namespace Go.Proofs.YtjngpafokkjkdaaGreatDoor
open Go.RowKit
namespace Bs

theorem lo_end {l : List UInt8} {a : Nat} (h : a = l.length) : loS l a = .error l.length := by
  have e : l[a]? = none := List.getElem?_eq_none (by omega)
  unfold loS
  rw [if_neg (by rw [e]; simp)]
  unfold dgs
  rw [e, h]
theorem lo_32 {l : List UInt8} {a : Nat} (h : l[a]? = some 32) : loS l a = dgs l 1 (a + 1) 0 := if_pos h
theorem lo_dg {l : List UInt8} {a : Nat} {c : UInt8} (h : l[a]? = some c) (h2 : c ≠ 32) : loS l a = dgs l 2 a 0 := by
  unfold loS
  rw [if_neg (by rw [h]; simpa using h2)]

set_option maxRecDepth 100000 in
set_option maxHeartbeats 2000000 in
theorem rnumber_lo (l : List UInt8) (a : Nat) (hl : l.length ≤ 140737488355328) (ha : a ≤ l.length) (w : World) :
    Calls Tryz.prog 77 #[.string (str l), .int .i64 (a : Int), .int .i64 2, .bool true] w fun e w' => e = .returned (.tuple #[.int .i64 (pr2 (loS l a)).1, .int .i64 (pr2 (loS l a)).2]) ∧ w' = w := by
  have hs := str_size l
  go_enter Tryz.func77, Tryz.ntmps77
  go_wp2
  go_loop [10, 11] (fun n i => ∃ (k : Nat) (v : Int), k ≤ 2 ∧ a + k ≤ l.length ∧ n = .int .i64 v ∧ i = .int .i64 (k : Int) ∧ 0 ≤ v ∧ v ≤ 99 ∧ Hid (k ≤ 1 → v ≤ 9) ∧ Hid ((k = 0 ∧ v = 0) ∨ (1 ≤ k ∧ dgs l (2 - k) (a + k) v = loS l a))) (fun _ i => 2 - (intOf i).toNat)
  case atStart => exact ⟨0, 0, by omega, by omega, rfl, rfl, by omega, by omega, (fun _ => by omega : 0 ≤ 1 → (0 : Int) ≤ 9), (.inl ⟨rfl, rfl⟩ : (0 = 0 ∧ (0 : Int) = 0) ∨ (1 ≤ 0 ∧ dgs l (2 - 0) (a + 0) 0 = loS l a))⟩
  case round =>
    obtain ⟨k, v, hk, hak, rfl, rfl, hv0, hv9, hvk, he⟩ := hrel
    by_cases hkn : k < 2
    · obtain ⟨q, hq⟩ : ∃ q, a + k = q := ⟨_, rfl⟩
      have hidx : (a : Int) + (k : Int) = (q : Int) := by omega
      rw [hq] at he hak
      have HQ : Hid (a + k = q) := hq
      have hv1 := hvk.out (by omega)
      by_cases hql : q = l.length
      · have HS : Hid (loS l a = .error l.length) := (by
          rcases he.out with ⟨h1, h2⟩ | ⟨h1, h2⟩
          · exact lo_end (by omega)
          · rw [← h2, show 2 - k = 0 + 1 by omega]
            unfold dgs
            rw [List.getElem?_eq_none (by omega), hql] : loS l a = .error l.length)
        have hge : (l.length : Int) ≤ (q : Int) := by omega
        clear he hq
        go_wp2
        go_ret2
        exact ⟨ret_p2 (by rw [HS.out]; rfl), rfl⟩
      · have hlt : q < l.length := by omega
        have hg : l[q]? = some (l.getD q 0) := by rw [List.getD_eq_getElem?_getD, List.getElem?_eq_getElem hlt]; rfl
        have hge : ¬ (l.length : Int) ≤ (q : Int) := by omega
        have e1 : (((str l)[q]'(by omega)).toNat : Int) = ((l.getD q 0).toNat : Int) := by rw [← at_lt, str_list]
        have hu := (l.getD q 0).toNat_lt
        have h32 : (l.getD q 0).toNat = 32 ↔ l.getD q 0 = 32 := by
          constructor
          · intro h
            apply UInt8.toNat_inj.1
            rw [h]
            rfl
          · intro h
            rw [h]
            rfl
        by_cases hb : k = 0 ∧ l.getD q 0 = 32
        · obtain ⟨rfl, hb⟩ := hb
          have h0 : v = 0 := by
            rcases he.out with ⟨_, h2⟩ | ⟨h1, _⟩
            · exact h2
            · omega
          subst h0
          have HS : Hid (dgs l (2 - (0 + 1)) (a + (0 + 1)) 0 = loS l a) := (by
            have e := lo_32 (l := l) (a := a) (by rw [show a = q by omega, hg, hb])
            rw [e] : dgs l (2 - (0 + 1)) (a + (0 + 1)) 0 = loS l a)
          have hX := h32.2 hb
          have haq : a = q := by omega
          subst haq
          clear hg hb he h32 hq hidx HQ
          generalize (l.getD a 0).toNat = X at *
          subst hX
          go_wp2
          exact ⟨⟨0 + 1, 0, by omega, by omega, rfl, by go_num, by omega, by omega, (fun _ => by omega : 0 + 1 ≤ 1 → (0 : Int) ≤ 9), (.inr ⟨by omega, HS.out⟩ : (0 + 1 = 0 ∧ (0 : Int) = 0) ∨ (1 ≤ 0 + 1 ∧ dgs l (2 - (0 + 1)) (a + (0 + 1)) 0 = loS l a))⟩, by simp [intOf]⟩
        · have HD : Hid (dgs l (2 - k) q v = loS l a) := (by
            rcases he.out with ⟨h1, h2⟩ | ⟨h1, h2⟩
            · subst h1 h2
              rw [show q = a by omega] at hg ⊢
              exact (lo_dg hg (fun c => hb ⟨rfl, by rw [show q = a by omega]; exact c⟩)).symm
            · exact h2 : dgs l (2 - k) q v = loS l a)
          have hkx : ¬ (k = 0 ∧ (l.getD q 0).toNat = 32) := fun c => hb ⟨c.1, h32.1 c.2⟩
          have H00 : Hid (k = 0 → v = 0) := fun h => (by
            rcases he.out with ⟨_, h2⟩ | ⟨h1, _⟩
            · exact h2
            · omega)
          clear he hb h32
          obtain ⟨m, hm⟩ : ∃ m, 2 - k = m + 1 := ⟨2 - k - 1, by omega⟩
          by_cases hdg : dgt (l.getD q 0) = true
          · have HS : Hid (dgs l (2 - (k + 1)) (q + 1) (v * 10 + ((((l.getD q 0).toNat : Nat) : Int) - 48)) = loS l a) := (by
              rw [← HD.out, hm]
              conv => rhs; unfold dgs
              rw [hg]
              dsimp only
              rw [if_pos hdg, show 2 - (k + 1) = m by omega]
              rfl : _ = _)
            have hr : 48 ≤ (l.getD q 0).toNat ∧ (l.getD q 0).toNat ≤ 57 := by simpa [dgt] using hdg
            clear hg hdg HD hm hq hkx
            generalize (l.getD q 0).toNat = X at *
            have w1 : IntKind.u8.wrap ((X : Int) - 48) = (X : Int) - 48 := by simp [IntKind.wrap, IntKind.signed, IntKind.bits]; omega
            have x1 : ¬ (X : Int) < 48 := by omega
            have x2 : ¬ (57 : Int) < (X : Int) := by omega
            have x3 : ((X : Int) == 32) = false := by simp; omega
            by_cases hk0 : k = 0
            · have h0 := H00.out hk0
              have haq : a = q := by omega
              subst haq
              clear H00 HQ hidx
              subst hk0
              subst h0
              go_wp2
              exact ⟨⟨0 + 1, 0 * 10 + ((X : Int) - 48), by omega, by omega, by congr 1; omega, by go_num, by omega, by omega, (fun _ => by omega : 0 + 1 ≤ 1 → 0 * 10 + ((X : Int) - 48) ≤ 9), (.inr ⟨by omega, HS.out⟩ : (0 + 1 = 0 ∧ 0 * 10 + ((X : Int) - 48) = 0) ∨ (1 ≤ 0 + 1 ∧ dgs l (2 - (0 + 1)) (a + (0 + 1)) (0 * 10 + ((X : Int) - 48)) = loS l a))⟩, by simp [intOf]⟩
            · have hk1 : ((k : Int) == 0) = false := by simp; omega
              clear H00
              go_wp2
              exact ⟨⟨k + 1, v * 10 + ((X : Int) - 48), by omega, by omega, by congr 1; omega, by go_num, by omega, by omega, (fun _ => by omega : k + 1 ≤ 1 → v * 10 + ((X : Int) - 48) ≤ 9), (.inr ⟨by omega, (by have := HS.out; have e := HQ.out; rw [← e] at this; exact this)⟩ : (k + 1 = 0 ∧ v * 10 + ((X : Int) - 48) = 0) ∨ (1 ≤ k + 1 ∧ dgs l (2 - (k + 1)) (a + (k + 1)) (v * 10 + ((X : Int) - 48)) = loS l a))⟩, by simp [intOf]; omega⟩
          · have HS : Hid (loS l a = .error q) := (by
              rw [← HD.out, hm]
              unfold dgs
              rw [hg]
              dsimp only
              rw [if_neg hdg] : loS l a = .error q)
            have hr : ¬ (48 ≤ (l.getD q 0).toNat ∧ (l.getD q 0).toNat ≤ 57) := by simpa [dgt] using hdg
            clear hg hdg HD hm hq
            generalize (l.getD q 0).toNat = X at *
            by_cases hk0 : k = 0
            · have x3 : ((X : Int) == 32) = false := by simp; omega
              have haq : a = q := by omega
              subst haq
              clear H00 HQ hidx
              subst hk0
              rcases (by omega : X < 48 ∨ 57 < X) with hx | hx
              · have hx' : (X : Int) < 48 := by omega
                go_wp2
                go_ret2
                exact ⟨ret_p2 (by rw [HS.out]; rfl), rfl⟩
              · have hx' : ¬ (X : Int) < 48 := by omega
                have hx2 : (57 : Int) < (X : Int) := by omega
                go_wp2
                go_ret2
                exact ⟨ret_p2 (by rw [HS.out]; rfl), rfl⟩
            · have hk1 : ((k : Int) == 0) = false := by simp; omega
              clear H00
              rcases (by omega : X < 48 ∨ 57 < X) with hx | hx
              · have hx' : (X : Int) < 48 := by omega
                go_wp2
                go_ret2
                exact ⟨ret_p2 (by rw [HS.out]; rfl), rfl⟩
              · have hx' : ¬ (X : Int) < 48 := by omega
                have hx2 : (57 : Int) < (X : Int) := by omega
                go_wp2
                go_ret2
                exact ⟨ret_p2 (by rw [HS.out]; rfl), rfl⟩
    · obtain rfl : k = 2 := by omega
      have HS : Hid (loS l a = .ok (a + 2, v)) := (by
        rcases he.out with ⟨h1, h2⟩ | ⟨h1, h2⟩
        · omega
        · rw [← h2]
          rfl : loS l a = .ok (a + 2, v))
      go_wp2
      go_ret2
      exact ⟨ret_p2 (by rw [HS.out]; exact Prod.ext rfl (by show ((a + 2 : Nat) : Int) = _; omega)), rfl⟩

theorem nam_at' {l : List UInt8} {a : Nat} {ns : List (List UInt8)} {i : Nat} (hi : i < ns.length) (h : ∀ j, j < i → hp (l.drop a) (ns.getD j []) = false) (hh : hp (l.drop a) (ns.getD i []) = true) : nam l a ns = some i := by
  unfold nam
  rw [List.findIdx?_eq_some_iff_getElem]
  have e : ∀ j (hj : j < ns.length), ns.getD j [] = ns[j] := fun j hj => by rw [List.getD_eq_getElem?_getD, List.getElem?_eq_getElem hj]; rfl
  refine ⟨hi, by rw [← e i hi]; exact hh, fun j hj => ?_⟩
  rw [← e j (by omega), h j hj]
  simp
theorem nam_none' {l : List UInt8} {a : Nat} {ns : List (List UInt8)} (h : ∀ j, j < ns.length → hp (l.drop a) (ns.getD j []) = false) : nam l a ns = none := by
  unfold nam
  rw [List.findIdx?_eq_none_iff]
  intro x hx
  obtain ⟨j, hj, rfl⟩ := List.getElem_of_mem hx
  have := h j hj
  rw [List.getD_eq_getElem?_getD, List.getElem?_eq_getElem hj] at this
  exact this

set_option maxRecDepth 100000 in
set_option maxHeartbeats 2000000 in
theorem rname_shorts (l : List UInt8) (a : Nat) (hl : l.length ≤ 140737488355328) (ha : a ≤ l.length) (w : World) :
    Calls Tryz.prog 76 #[.string (str l), .int .i64 (a : Int), .int .i64 7, .int .u8 119] w fun e w' => e = .returned (.tuple #[.int .i64 (pr2 (namR l a shorts)).1, .int .i64 (pr2 (namR l a shorts)).2]) ∧ Below w.heap.size w w' := by
  have hs := str_size l
  go_enter Tryz.func76, Tryz.ntmps76
  go_wp2
  go_loopw [10] (fun i wr => ∃ k : Nat, k ≤ 7 ∧ i = .int .i64 (k : Int) ∧ Hid (∀ j, j < k → hp (l.drop a) (shorts.getD j []) = false) ∧ Hid (Below w.heap.size w wr)) (fun i _ => 7 - (intOf i).toNat)
  case atStart => exact ⟨0, by omega, rfl, fun j hj => by omega, Below.refl _ _⟩
  case round =>
    obtain ⟨k, hk, rfl, HN, HB⟩ := hrel
    by_cases hkn : k < 7
    · have C1 : Hid (∀ w, Calls Tryz.prog 73 #[.int .i64 (k : Int)] w fun e w' => e = .returned (.string (str (shorts.getD k []))) ∧ Below w.heap.size w w') := fun w => rShortName_any k hkn w
      have n1 := shorts_n' hkn
      have A1 : Hid (∀ w, Calls Tryz.prog 72 #[.string (str l), .int .i64 (a : Int), .string (str (shorts.getD k []))] w fun e w' => e = .returned (.bool (hp (l.drop a) (shorts.getD k []))) ∧ w' = w) := fun w => rbegins_any l _ a hl ha (by omega) w
      have zs : (str (shorts.getD k [])).size = (shorts.getD k []).length := str_size _
      have HT : Hid (hp (l.drop a) (shorts.getD k []) = true → namR l a shorts = .ok (a + (shorts.getD k []).length, (k : Int))) := fun h => by
        unfold namR
        rw [show nam l a shorts = some k from nam_at' hkn HN.out h]
      have HF : Hid (hp (l.drop a) (shorts.getD k []) = false → ∀ j, j < k + 1 → hp (l.drop a) (shorts.getD j []) = false) := fun h j hj => by
        rcases (by omega : j < k ∨ j = k) with h' | rfl
        · exact HN.out j h'
        · exact h
      generalize hp (l.drop a) (shorts.getD k []) = p at *
      generalize str (shorts.getD k []) = S at *
      generalize (shorts.getD k []).length = NL at *
      go_wp2_with fail
      refine (C1.out _).mono ?_
      rintro e w1 ⟨rfl, b1⟩
      have HB1 : Hid (Below w.heap.size w w1) := bel_trans HB.out b1
      clear b1
      go_wp2_with fail
      refine (A1.out _).mono ?_
      rintro e w' ⟨rfl, rfl⟩
      cases p
      · have HF' : Hid _ := HF.out rfl
        go_wp2
        exact ⟨⟨k + 1, by omega, by go_num, HF', HB1⟩, by simp [intOf]; omega⟩
      · have HT' : Hid (_ = _) := HT.out rfl
        go_wp2
        go_ret2
        exact ⟨ret_p2 (by rw [HT'.out]; exact Prod.ext rfl (by show ((a + NL : Nat) : Int) = _; omega)), HB1.out⟩
    · obtain rfl : k = 7 := by omega
      have HT : Hid (namR l a shorts = .error a) := (by
        unfold namR
        rw [show nam l a shorts = none from nam_none' (fun j hj => HN.out j hj)] : namR l a shorts = .error a)
      go_wp2
      go_ret2
      exact ⟨ret_p2 (by rw [HT.out]; rfl), HB.out⟩

set_option maxRecDepth 100000 in
set_option maxHeartbeats 2000000 in
theorem rname_longs (l : List UInt8) (a : Nat) (hl : l.length ≤ 140737488355328) (ha : a ≤ l.length) (w : World) :
    Calls Tryz.prog 76 #[.string (str l), .int .i64 (a : Int), .int .i64 7, .int .u8 108] w fun e w' => e = .returned (.tuple #[.int .i64 (pr2 (namR l a longs)).1, .int .i64 (pr2 (namR l a longs)).2]) ∧ Below w.heap.size w w' := by
  have hs := str_size l
  go_enter Tryz.func76, Tryz.ntmps76
  go_wp2
  go_loopw [10] (fun i wr => ∃ k : Nat, k ≤ 7 ∧ i = .int .i64 (k : Int) ∧ Hid (∀ j, j < k → hp (l.drop a) (longs.getD j []) = false) ∧ Hid (Below w.heap.size w wr)) (fun i _ => 7 - (intOf i).toNat)
  case atStart => exact ⟨0, by omega, rfl, fun j hj => by omega, Below.refl _ _⟩
  case round =>
    obtain ⟨k, hk, rfl, HN, HB⟩ := hrel
    by_cases hkn : k < 7
    · have C1 : Hid (∀ w, Calls Tryz.prog 74 #[.int .i64 (k : Int)] w fun e w' => e = .returned (.string (str (longs.getD k []))) ∧ Below w.heap.size w w') := fun w => rLongName_any k hkn w
      have n1 := longs_n' hkn
      have A1 : Hid (∀ w, Calls Tryz.prog 72 #[.string (str l), .int .i64 (a : Int), .string (str (longs.getD k []))] w fun e w' => e = .returned (.bool (hp (l.drop a) (longs.getD k []))) ∧ w' = w) := fun w => rbegins_any l _ a hl ha (by omega) w
      have zs : (str (longs.getD k [])).size = (longs.getD k []).length := str_size _
      have HT : Hid (hp (l.drop a) (longs.getD k []) = true → namR l a longs = .ok (a + (longs.getD k []).length, (k : Int))) := fun h => by
        unfold namR
        rw [show nam l a longs = some k from nam_at' hkn HN.out h]
      have HF : Hid (hp (l.drop a) (longs.getD k []) = false → ∀ j, j < k + 1 → hp (l.drop a) (longs.getD j []) = false) := fun h j hj => by
        rcases (by omega : j < k ∨ j = k) with h' | rfl
        · exact HN.out j h'
        · exact h
      generalize hp (l.drop a) (longs.getD k []) = p at *
      generalize str (longs.getD k []) = S at *
      generalize (longs.getD k []).length = NL at *
      go_wp2_with fail
      refine (C1.out _).mono ?_
      rintro e w1 ⟨rfl, b1⟩
      have HB1 : Hid (Below w.heap.size w w1) := bel_trans HB.out b1
      clear b1
      go_wp2_with fail
      refine (A1.out _).mono ?_
      rintro e w' ⟨rfl, rfl⟩
      cases p
      · have HF' : Hid _ := HF.out rfl
        go_wp2
        exact ⟨⟨k + 1, by omega, by go_num, HF', HB1⟩, by simp [intOf]; omega⟩
      · have HT' : Hid (_ = _) := HT.out rfl
        go_wp2
        go_ret2
        exact ⟨ret_p2 (by rw [HT'.out]; exact Prod.ext rfl (by show ((a + NL : Nat) : Int) = _; omega)), HB1.out⟩
    · obtain rfl : k = 7 := by omega
      have HT : Hid (namR l a longs = .error a) := (by
        unfold namR
        rw [show nam l a longs = none from nam_none' (fun j hj => HN.out j hj)] : namR l a longs = .error a)
      go_wp2
      go_ret2
      exact ⟨ret_p2 (by rw [HT.out]; rfl), HB.out⟩

set_option maxRecDepth 100000 in
set_option maxHeartbeats 2000000 in
theorem rname_mons (l : List UInt8) (a : Nat) (hl : l.length ≤ 140737488355328) (ha : a ≤ l.length) (w : World) :
    Calls Tryz.prog 76 #[.string (str l), .int .i64 (a : Int), .int .i64 12, .int .u8 109] w fun e w' => e = .returned (.tuple #[.int .i64 (pr2 (namR l a mons)).1, .int .i64 (pr2 (namR l a mons)).2]) ∧ Below w.heap.size w w' := by
  have hs := str_size l
  go_enter Tryz.func76, Tryz.ntmps76
  go_wp2
  go_loopw [10] (fun i wr => ∃ k : Nat, k ≤ 12 ∧ i = .int .i64 (k : Int) ∧ Hid (∀ j, j < k → hp (l.drop a) (mons.getD j []) = false) ∧ Hid (Below w.heap.size w wr)) (fun i _ => 12 - (intOf i).toNat)
  case atStart => exact ⟨0, by omega, rfl, fun j hj => by omega, Below.refl _ _⟩
  case round =>
    obtain ⟨k, hk, rfl, HN, HB⟩ := hrel
    by_cases hkn : k < 12
    · have C1 : Hid (∀ w, Calls Tryz.prog 99 #[.int .i64 (k : Int)] w fun e w' => e = .returned (.string (str (mons.getD k []))) ∧ w' = w) := fun w => rMonthName_any k hkn w
      have n1 := mons_n' hkn
      have A1 : Hid (∀ w, Calls Tryz.prog 72 #[.string (str l), .int .i64 (a : Int), .string (str (mons.getD k []))] w fun e w' => e = .returned (.bool (hp (l.drop a) (mons.getD k []))) ∧ w' = w) := fun w => rbegins_any l _ a hl ha (by omega) w
      have zs : (str (mons.getD k [])).size = (mons.getD k []).length := str_size _
      have HT : Hid (hp (l.drop a) (mons.getD k []) = true → namR l a mons = .ok (a + (mons.getD k []).length, (k : Int))) := fun h => by
        unfold namR
        rw [show nam l a mons = some k from nam_at' hkn HN.out h]
      have HF : Hid (hp (l.drop a) (mons.getD k []) = false → ∀ j, j < k + 1 → hp (l.drop a) (mons.getD j []) = false) := fun h j hj => by
        rcases (by omega : j < k ∨ j = k) with h' | rfl
        · exact HN.out j h'
        · exact h
      generalize hp (l.drop a) (mons.getD k []) = p at *
      generalize str (mons.getD k []) = S at *
      generalize (mons.getD k []).length = NL at *
      go_wp2_with fail
      refine (C1.out _).mono ?_
      rintro e w' ⟨rfl, rfl⟩
      have HB1 : Hid (Below w.heap.size w _) := HB.out
      go_wp2_with fail
      refine (A1.out _).mono ?_
      rintro e w' ⟨rfl, rfl⟩
      cases p
      · have HF' : Hid _ := HF.out rfl
        go_wp2
        exact ⟨⟨k + 1, by omega, by go_num, HF', HB1⟩, by simp [intOf]; omega⟩
      · have HT' : Hid (_ = _) := HT.out rfl
        go_wp2
        go_ret2
        exact ⟨ret_p2 (by rw [HT'.out]; exact Prod.ext rfl (by show ((a + NL : Nat) : Int) = _; omega)), HB1.out⟩
    · obtain rfl : k = 12 := by omega
      have HT : Hid (namR l a mons = .error a) := (by
        unfold namR
        rw [show nam l a mons = none from nam_none' (fun j hj => HN.out j hj)] : namR l a mons = .error a)
      go_wp2
      go_ret2
      exact ⟨ret_p2 (by rw [HT.out]; rfl), HB.out⟩

theorem near_at {c this y : Int} (h0 : 0 ≤ c) (h1 : c ≤ 99) (hy1 : this - 49 ≤ y) (hy2 : y ≤ this + 50) (h : y % 100 = c) : nearS c this = y := by
  unfold nearS
  omega
theorem mod100 (y : Int) : (y.tmod 100 + 100).tmod 100 = y % 100 := by
  have a1 : -100 < y.tmod 100 := Int.lt_tmod_of_pos y (by omega)
  rw [tr (by omega), Int.add_emod_right]
  have e : y % 100 = (100 * y.tdiv 100 + y.tmod 100) % 100 := by rw [Int.mul_tdiv_add_tmod]
  rw [e, Int.mul_add_emod_self_left]

set_option maxRecDepth 100000 in
set_option maxHeartbeats 2000000 in
theorem rnear_any (c now : Int) (h0 : 0 ≤ c) (h1 : c ≤ 99) (hn : I64 now) (hM : isM now) (w : World) :
    Calls Tryz.prog 48 #[.int .i64 c, .int .i64 now] w fun e w' => e = .returned (.int .i64 (nearS c (yearOfM now))) ∧ Below w.heap.size w w' := by
  have hsp := rSplit_any now hn w
  rw [show splitR now = (splitV now, 0) from if_pos hM] at hsp
  have hy : 1 ≤ yearOfM now ∧ yearOfM now ≤ 9999 := by
    have hm1 := hM.1
    have hm2 := hM.2
    obtain ⟨y1, y2, _⟩ := (ymd_is (D := now / 86400) (by omega) (by omega)).1
    exact ⟨y1, y2⟩
  have HSP : Hid (Calls Tryz.prog 78 #[.int .i64 now] w fun e w' => e = .returned (.tuple #[splitV now, .int .i64 0]) ∧ Below w.heap.size w w') := hsp
  clear hsp hM
  unfold splitV dv7 at HSP
  rw [show (ymd (now / 86400)).1 = yearOfM now from rfl] at HSP
  generalize yearOfM now = Y at *
  generalize (ymd (now / 86400)).2.1 = b1 at *
  generalize (ymd (now / 86400)).2.2 = b2 at *
  generalize now % 86400 / 3600 = b3 at *
  generalize now % 86400 % 3600 / 60 = b4 at *
  generalize now % 86400 % 60 = b5 at *
  generalize wday (now / 86400) = b6 at *
  go_enter Tryz.func48, Tryz.ntmps48
  go_wp2_with fail
  refine Calls.mono HSP.out ?_
  rintro e w1 ⟨rfl, c1⟩
  have HB1 : Hid (Below w.heap.size w (w1.alloc (.cells #[.int .i64 Y, .int .i64 b1, .int .i64 b2, .int .i64 b3, .int .i64 b4, .int .i64 b5, .int .i64 b6] 125))) := bel_trans c1 ((But.refl [] w1).alloc _).to_below
  clear c1
  go_wp2
  go_loop [7] (fun i => ∃ y : Int, Y - 49 ≤ y ∧ y ≤ Y + 51 ∧ i = .int .i64 y ∧ Hid (∀ x, Y - 49 ≤ x → x < y → x % 100 ≠ c)) (fun i => (Y + 52 - intOf i).toNat)
  case atStart => exact ⟨Y - 49, by omega, by omega, rfl, fun x _ _ => by omega⟩
  case round =>
    obtain ⟨y, y1, y2, rfl, HN⟩ := hrel
    by_cases hy50 : y ≤ Y + 50
    · have hm := mod100 y
      have a1 : -100 < y.tmod 100 := Int.lt_tmod_of_pos y (by omega)
      have a2 : y.tmod 100 < 100 := Int.tmod_lt_of_pos y (by omega)
      have a3 : 0 ≤ y % 100 ∧ y % 100 < 100 := by omega
      by_cases he : y % 100 = c
      · have HR : Hid (nearS c Y = y) := near_at h0 h1 y1 hy50 he
        have hee : (y % 100 == c) = true := by simpa using he
        have HE : Hid (_ = _) := he
        clear he
        generalize y % 100 = R at *
        generalize hTT : y.tmod 100 = T at *
        go_wp2
        go_ret
        exact ⟨ret_int HR.out.symm, HB1.out⟩
      · have hee : (y % 100 == c) = false := by simpa using he
        have HE : Hid (y % 100 ≠ c) := he
        clear he
        have HNX : Hid (∀ x, Y - 49 ≤ x → x < y + 1 → x % 100 ≠ c) := fun x x1 x2 => by
          rcases (by omega : x < y ∨ x = y) with h | rfl
          · exact HN.out x x1 h
          · exact HE.out
        clear HE HN
        generalize y % 100 = R at *
        generalize hTT : y.tmod 100 = T at *
        go_wp2
        exact ⟨⟨y + 1, by omega, by omega, rfl, HNX⟩, by simp [intOf]; omega⟩
    · exfalso
      have r := near_r c Y
      refine HN.out (nearS c Y) r.1 (by omega) ?_
      unfold nearS
      omega

end Bs
end Go.Proofs.YtjngpafokkjkdaaGreatDoor
