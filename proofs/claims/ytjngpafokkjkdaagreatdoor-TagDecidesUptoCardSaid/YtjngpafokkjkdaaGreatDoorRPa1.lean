/-
  The document's reading of a date: its small functions.
-/
import Derived.Test.YtjngpafokkjkdaaGreatDoorRNam
import Derived.Test.YtjngpafokkjkdaaGreatDoorRPln
set_option linter.unusedVariables false
set_option linter.unusedSimpArgs false
namespace Go.Proofs.YtjngpafokkjkdaaGreatDoor
open Go.RowKit
namespace Bs

theorem patD_patL (form : Int) : patD form = patL form := rfl
theorem str_ext' (l : List UInt8) (a n : Nat) : (str l).extract a (a + n) = str ((l.drop a).take n) := by
  apply eq_list
  rw [str_list]
  simp [str, ByteArray.data_extract]
theorem str_app2 (a b : List UInt8) : str a ++ str b = str (a ++ b) := by
  apply eq_list
  simp [str]
theorem hp_false {l t : List UInt8} (h : l.length < t.length) : hp l t = false := by
  unfold hp
  apply decide_eq_false
  intro e
  have := congrArg List.length e
  rw [List.length_take] at this
  omega

set_option maxHeartbeats 1000000 in
theorem rbegins_any (l t : List UInt8) (a : Nat) (hl : l.length ≤ 140737488355328) (ha : a ≤ l.length) (ht : t.length ≤ 100) (w : World) :
    Calls Tryz.prog 72 #[.string (str l), .int .i64 (a : Int), .string (str t)] w fun e w' => e = .returned (.bool (hp (l.drop a) t)) ∧ w' = w := by
  have hs := str_size l
  have hst := str_size t
  by_cases hlt : a + t.length ≤ l.length
  · have hlt' : (a : Int) + (t.length : Int) ≤ (l.length : Int) := by omega
    have hd : decide ((a : Int) + (t.length : Int) ≤ (l.length : Int)) = true := decide_eq_true hlt'
    have hcut := str_ext' l a t.length
    have he : ((str ((l.drop a).take t.length)).toList == (str t).toList) = hp (l.drop a) t := by
      rw [eq_toList]
      unfold hp
      exact decide_eq_decide.2 ⟨str_inj, fun e => congrArg str e⟩
    generalize hp (l.drop a) t = B at *
    generalize str ((l.drop a).take t.length) = X at *
    go_enter Tryz.func72, Tryz.ntmps72
    go_wp2
    go_ret
    exact ⟨rfl, rfl⟩
  · have hlt' : ¬ (a : Int) + (t.length : Int) ≤ (l.length : Int) := by omega
    rw [hp_false (by rw [List.length_drop]; omega)]
    go_enter Tryz.func72, Tryz.ntmps72
    go_wp2
    go_ret
    exact ⟨rfl, rfl⟩

set_option maxRecDepth 100000 in
set_option maxHeartbeats 1000000 in
theorem rFormOf_any (l : List UInt8) (hl : l.length ≤ 140737488355328) (w : World) :
    Calls Tryz.prog 46 #[.string (str l)] w fun e w' => e = .returned (.int .i64 (formS l)) ∧ Below w.heap.size w w' := by
  go_enter Tryz.func46, Tryz.ntmps46
  go_wp2
  go_loopw [3] (fun i wr => ∃ k : Nat, k ≤ 7 ∧ i = .int .i64 (k : Int) ∧ Hid (formF l (7 - k) k = formS l) ∧ Hid (Below w.heap.size w wr)) (fun i _ => 7 - (intOf i).toNat)
  case atStart => exact ⟨0, by omega, rfl, (rfl : formF l (7 - 0) 0 = formS l), Below.refl _ _⟩
  case round =>
    obtain ⟨k, hk, rfl, hf, HB⟩ := hrel
    by_cases hkn : k < 7
    · have hst : formF l (7 - k) k = if hp l (shorts.getD k [] ++ [44]) then 0 else if hp l (longs.getD k [] ++ [44]) then 1 else formF l (7 - (k + 1)) (k + 1) := by
        rw [show 7 - k = (7 - (k + 1)) + 1 by omega]
        conv => lhs; unfold formF
      have n1 := shorts_n' hkn
      have n2 := longs_n' hkn
      have z1 : (str (shorts.getD k [])).size + (⟨#[44]⟩ : ByteArray).size ≤ 100 := by have : (⟨#[44]⟩ : ByteArray).size = 1 := rfl; rw [str_size]; omega
      have z2 : (str (longs.getD k [])).size + (⟨#[44]⟩ : ByteArray).size ≤ 100 := by have : (⟨#[44]⟩ : ByteArray).size = 1 := rfl; rw [str_size]; omega
      have A1 : Hid (∀ w, Calls Tryz.prog 72 #[.string (str l), .int .i64 0, .string (str (shorts.getD k []) ++ ⟨#[44]⟩)] w fun e w' => e = .returned (.bool (hp l (shorts.getD k [] ++ [44]))) ∧ w' = w) := fun w => (by
        rw [show (⟨#[44]⟩ : ByteArray) = str [44] from rfl, str_app2]
        exact rbegins_any l _ 0 hl (by omega) (by rw [List.length_append]; simp only [List.length_cons, List.length_nil]; omega) w)
      have A2 : Hid (∀ w, Calls Tryz.prog 72 #[.string (str l), .int .i64 0, .string (str (longs.getD k []) ++ ⟨#[44]⟩)] w fun e w' => e = .returned (.bool (hp l (longs.getD k [] ++ [44]))) ∧ w' = w) := fun w => (by
        rw [show (⟨#[44]⟩ : ByteArray) = str [44] from rfl, str_app2]
        exact rbegins_any l _ 0 hl (by omega) (by rw [List.length_append]; simp only [List.length_cons, List.length_nil]; omega) w)
      have C1 : Hid (∀ w, Calls Tryz.prog 73 #[.int .i64 (k : Int)] w fun e w' => e = .returned (.string (str (shorts.getD k []))) ∧ Below w.heap.size w w') := fun w => rShortName_any k hkn w
      have C2 : Hid (∀ w, Calls Tryz.prog 74 #[.int .i64 (k : Int)] w fun e w' => e = .returned (.string (str (longs.getD k []))) ∧ Below w.heap.size w w') := fun w => rLongName_any k hkn w
      rw [hf.out] at hst
      generalize hp l (shorts.getD k [] ++ [44]) = p1 at *
      generalize hp l (longs.getD k [] ++ [44]) = p2 at *
      have HST : Hid (_ = _) := hst
      clear hst n1 n2
      generalize str (shorts.getD k []) = S1 at *
      generalize str (longs.getD k []) = S2 at *
      go_wp2_with fail
      refine (C1.out _).mono ?_
      rintro e w1 ⟨rfl, b1⟩
      have HB1 : Hid (Below w.heap.size w w1) := bel_trans HB.out b1
      clear b1
      go_wp2_with fail
      refine (A1.out _).mono ?_
      rintro e w' ⟨rfl, rfl⟩
      cases p1
      · go_wp2_with fail
        refine (C2.out _).mono ?_
        rintro e w2 ⟨rfl, b2⟩
        have HB2 : Hid (Below w.heap.size w w2) := bel_trans HB1.out b2
        clear b2
        go_wp2_with fail
        refine (A2.out _).mono ?_
        rintro e w' ⟨rfl, rfl⟩
        cases p2
        · go_wp2
          exact ⟨⟨k + 1, by omega, by go_num, (HST.out.symm : formF l (7 - (k + 1)) (k + 1) = formS l), HB2⟩, by simp [intOf]; omega⟩
        · go_wp2
          go_ret
          exact ⟨by rw [HST.out]; rfl, HB2.out⟩
      · go_wp2
        go_ret
        exact ⟨by rw [HST.out]; rfl, HB1.out⟩
    · obtain rfl : k = 7 := by omega
      go_wp2
      go_ret
      exact ⟨by rw [← hf.out]; rfl, HB.out⟩

def pr2 : Except Nat (Nat × Int) → Int × Int
  | .ok (b, v) => (v, (b : Int))
  | .error e => (-1, (e : Int))
theorem ret_p2 {r : Int × Int} {a b : Int} (h : r = (a, b)) : Ending.returned (.tuple #[.int .i64 a, .int .i64 b]) = .returned (.tuple #[.int .i64 r.1, .int .i64 r.2]) := by rw [h]
theorem dgs_place (l : List UInt8) : ∀ (k a : Nat) (v : Int) (r : Nat × Int), dgs l k a v = .ok r → r.1 = a + k
  | 0, a, v, r, h => by
    unfold dgs at h
    cases h
    rfl
  | k + 1, a, v, r, h => by
    obtain ⟨c, _, _, h'⟩ := dgs_un h
    have := dgs_place l k (a + 1) _ r h'
    omega

set_option maxRecDepth 100000 in
set_option maxHeartbeats 2000000 in
theorem rnumber_dg (l : List UInt8) (a wd : Nat) (hl : l.length ≤ 140737488355328) (ha : a ≤ l.length) (hwd : wd ≤ 4) (w : World) :
    Calls Tryz.prog 77 #[.string (str l), .int .i64 (a : Int), .int .i64 (wd : Int), .bool false] w fun e w' => e = .returned (.tuple #[.int .i64 (pr2 (dgs l wd a 0)).1, .int .i64 (pr2 (dgs l wd a 0)).2]) ∧ w' = w := by
  have hs := str_size l
  go_enter Tryz.func77, Tryz.ntmps77
  go_wp2
  go_loop [10, 11] (fun n i => ∃ (k : Nat) (v : Int), k ≤ wd ∧ a + k ≤ l.length ∧ n = .int .i64 v ∧ i = .int .i64 (k : Int) ∧ 0 ≤ v ∧ Hid (v + 1 ≤ 10 ^ k) ∧ Hid (dgs l (wd - k) (a + k) v = dgs l wd a 0)) (fun _ i => wd - (intOf i).toNat)
  case atStart => exact ⟨0, 0, by omega, by omega, rfl, rfl, by omega, (by decide : (0 : Int) + 1 ≤ 10 ^ 0), (rfl : dgs l (wd - 0) (a + 0) 0 = dgs l wd a 0)⟩
  case round =>
    obtain ⟨k, v, hk, hak, rfl, rfl, hv0, hv, he⟩ := hrel
    by_cases hkn : k < wd
    · obtain ⟨m, hm⟩ : ∃ m, wd - k = m + 1 := ⟨wd - k - 1, by omega⟩
      have hv3 : v ≤ 999 := by
        have := hv.out
        rcases (by omega : k = 0 ∨ k = 1 ∨ k = 2 ∨ k = 3) with rfl | rfl | rfl | rfl <;> simp at this <;> omega
      obtain ⟨q, hq⟩ : ∃ q, a + k = q := ⟨_, rfl⟩
      have hidx : (a : Int) + (k : Int) = (q : Int) := by omega
      rw [hq] at he hak
      have HQ : Hid (a + k = q) := hq
      by_cases hql : q = l.length
      · have HS : Hid (dgs l wd a 0 = .error l.length) := (by
          rw [← he.out, hm]
          unfold dgs
          rw [List.getElem?_eq_none (by omega), hql] : dgs l wd a 0 = .error l.length)
        have hge : (l.length : Int) ≤ (q : Int) := by omega
        go_wp2
        go_ret2
        exact ⟨ret_p2 (by rw [HS.out]; rfl), rfl⟩
      · have hlt : q < l.length := by omega
        have hg : l[q]? = some (l.getD (q) 0) := by rw [List.getD_eq_getElem?_getD, List.getElem?_eq_getElem hlt]; rfl
        have hge : ¬ (l.length : Int) ≤ (q : Int) := by omega
        have e1 : (((str l)[q]'(by omega)).toNat : Int) = ((l.getD (q) 0).toNat : Int) := by rw [← at_lt, str_list]
        have hu := (l.getD (q) 0).toNat_lt
        by_cases hdg : dgt (l.getD (q) 0) = true
        · have HS : Hid (dgs l (wd - (k + 1)) (q + 1) (v * 10 + ((((l.getD (q) 0).toNat : Nat) : Int) - 48)) = dgs l wd a 0) := (by
            rw [← he.out, hm]
            conv => rhs; unfold dgs
            rw [hg]
            dsimp only
            rw [if_pos hdg, show wd - (k + 1) = m by omega]
            rfl : _ = _)
          have hr : 48 ≤ (l.getD (q) 0).toNat ∧ (l.getD (q) 0).toNat ≤ 57 := by simpa [dgt] using hdg
          clear hg hdg he
          generalize (l.getD (q) 0).toNat = X at *
          have w1 : IntKind.u8.wrap ((X : Int) - 48) = (X : Int) - 48 := by simp [IntKind.wrap, IntKind.signed, IntKind.bits]; omega
          have x1 : ¬ (X : Int) < 48 := by omega
          have x2 : ¬ (57 : Int) < (X : Int) := by omega
          go_wp2
          refine ⟨⟨k + 1, v * 10 + ((X : Int) - 48), by omega, by omega, by congr 1; omega, by go_num, by omega, ?_, (by have := HS.out; have e := HQ.out; rw [← e] at this; exact this : dgs l (wd - (k + 1)) (a + (k + 1)) (v * 10 + ((X : Int) - 48)) = dgs l wd a 0)⟩, by simp [intOf]; omega⟩
          have := hv.out
          exact (by rw [Int.pow_succ]; omega : v * 10 + ((X : Int) - 48) + 1 ≤ 10 ^ (k + 1))
        · have HS : Hid (dgs l wd a 0 = .error (q)) := (by
            rw [← he.out, hm]
            unfold dgs
            rw [hg]
            dsimp only
            rw [if_neg hdg] : dgs l wd a 0 = .error (q))
          have hr : ¬ (48 ≤ (l.getD (q) 0).toNat ∧ (l.getD (q) 0).toNat ≤ 57) := by simpa [dgt] using hdg
          clear hg hdg he
          generalize (l.getD (q) 0).toNat = X at *
          rcases (by omega : X < 48 ∨ 57 < X) with hx | hx
          · have hx' : (X : Int) < 48 := by omega
            go_wp2
            go_ret2
            exact ⟨ret_p2 (by rw [HS.out]; exact Prod.ext rfl rfl), rfl⟩
          · have hx' : ¬ (X : Int) < 48 := by omega
            have hx2 : (57 : Int) < (X : Int) := by omega
            go_wp2
            go_ret2
            exact ⟨ret_p2 (by rw [HS.out]; exact Prod.ext rfl rfl), rfl⟩
    · obtain rfl : k = wd := by omega
      have HS : Hid (dgs l k a 0 = .ok (a + k, v)) := (by rw [← he.out, Nat.sub_self]; rfl : dgs l k a 0 = .ok (a + k, v))
      go_wp2
      go_ret2
      exact ⟨ret_p2 (by rw [HS.out]; exact Prod.ext rfl (by show ((a + k : Nat) : Int) = _; omega)), rfl⟩

end Bs
end Go.Proofs.YtjngpafokkjkdaaGreatDoor
