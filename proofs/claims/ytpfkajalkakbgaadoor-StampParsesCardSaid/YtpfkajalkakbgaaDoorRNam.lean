/-
  The document's names, digits, patterns.
-/
import Derived.Test.YtpfkajalkakbgaaDoorRSpl
set_option linter.unusedVariables false
set_option linter.unusedSimpArgs false
namespace Go.Proofs.YtpfkajalkakbgaaDoor
open Go.RowKit
namespace Bs

set_option maxHeartbeats 1000000 in
theorem rLongName_any (k : Nat) (hk : k < 7) (w : World) :
    Calls Tryd.prog 35 #[.int .i64 (k : Int)] w fun e w' => e = .returned (.string (str (longs.getD k []))) ∧ Below w.heap.size w w' := by
  rcases (by omega : k = 0 ∨ k = 1 ∨ k = 2 ∨ k = 3 ∨ k = 4 ∨ k = 5 ∨ k = 6) with rfl | rfl | rfl | rfl | rfl | rfl | rfl
  all_goals
    go_enter Tryd.func35, Tryd.ntmps35
    go_wp2
    go_ret
    exact ⟨rfl, ((But.refl [] _).alloc _).to_below⟩

theorem short_long : ∀ k : Fin 7, (longs.getD k.val []).take 3 = shorts.getD k.val [] := by decide
theorem str_cut (l : List UInt8) (a b : Nat) : (str l).extract a b = str ((l.take b).drop a) := by
  apply eq_list
  rw [str_list]
  simp [str, ByteArray.data_extract, List.drop_take]

set_option maxHeartbeats 1000000 in
theorem rShortName_any (k : Nat) (hk : k < 7) (w : World) :
    Calls Tryd.prog 34 #[.int .i64 (k : Int)] w fun e w' => e = .returned (.string (str (shorts.getD k []))) ∧ Below w.heap.size w w' := by
  have HL : Hid (Calls Tryd.prog 35 #[.int .i64 (k : Int)] w fun e w' => e = .returned (.string (str (longs.getD k []))) ∧ Below w.heap.size w w') := rLongName_any k hk w
  have hz : 3 ≤ (str (longs.getD k [])).size := by rw [str_size]; have := longs_n' hk; omega
  have HE : Hid ((str (longs.getD k [])).extract 0 3 = str (shorts.getD k [])) := (by rw [str_cut]; exact congrArg str (short_long ⟨k, hk⟩) : _ = _)
  generalize str (longs.getD k []) = S at *
  go_enter Tryd.func34, Tryd.ntmps34
  go_wp2_with fail
  refine Calls.mono HL.out ?_
  rintro e w1 ⟨rfl, b1⟩
  have HB : Hid (Below w.heap.size w w1) := b1
  clear b1
  go_wp2
  go_ret
  exact ⟨ret_string HE.out, HB.out⟩

set_option maxHeartbeats 1000000 in
theorem rMonthName_any (k : Nat) (hk : k < 12) (w : World) :
    Calls Tryd.prog 36 #[.int .i64 (k : Int)] w fun e w' => e = .returned (.string (str (mons.getD k []))) ∧ w' = w := by
  rcases (by omega : k = 0 ∨ k = 1 ∨ k = 2 ∨ k = 3 ∨ k = 4 ∨ k = 5 ∨ k = 6 ∨ k = 7 ∨ k = 8 ∨ k = 9 ∨ k = 10 ∨ k = 11) with rfl | rfl | rfl | rfl | rfl | rfl | rfl | rfl | rfl | rfl | rfl | rfl
  all_goals
    go_enter Tryd.func36, Tryd.ntmps36
    go_wp2
    go_ret
    exact ⟨rfl, rfl⟩

def patL (form : Int) : List UInt8 := if form = 0 then [119, 44, 32, 100, 32, 109, 32, 121, 32, 104, 58, 105, 58, 115, 32, 71, 77, 84] else if form = 1 then [108, 44, 32, 100, 45, 109, 45, 99, 32, 104, 58, 105, 58, 115, 32, 71, 77, 84] else [119, 32, 109, 32, 101, 32, 104, 58, 105, 58, 115, 32, 121]
theorem patL_len (form : Int) : (patL form).length ≤ 18 := by
  unfold patL
  split
  · decide
  · split <;> decide

set_option maxHeartbeats 1000000 in
theorem rpattern_any (form : Int) (hf : I64 form) (w : World) :
    Calls Tryd.prog 33 #[.int .i64 form] w fun e w' => e = .returned (.string (str (patL form))) ∧ w' = w := by
  unfold patL
  by_cases h0 : form = 0
  · subst h0
    go_enter Tryd.func33, Tryd.ntmps33
    go_wp2
    go_ret
    exact ⟨rfl, rfl⟩
  by_cases h1 : form = 1
  · subst h1
    go_enter Tryd.func33, Tryd.ntmps33
    go_wp2
    go_ret
    exact ⟨rfl, rfl⟩
  · have e0 : (form == 0) = false := by simp [h0]
    have e1 : (form == 1) = false := by simp [h1]
    rw [if_neg h0, if_neg h1]
    go_enter Tryd.func33, Tryd.ntmps33
    go_wp2
    go_ret
    exact ⟨rfl, rfl⟩

/- Digits. -/
def lowd (n : Nat) : Nat → List UInt8
  | 0 => []
  | i + 1 => dg (n / 10 ^ i) :: lowd n i
theorem lowd_len (n : Nat) : ∀ i, (lowd n i).length = i
  | 0 => rfl
  | i + 1 => by
    unfold lowd
    rw [List.length_cons, lowd_len n i]
theorem lowd_2 (n : Nat) : lowd n 2 = d2 n := by simp [lowd, d2]
theorem lowd_1 (n : Nat) : lowd n 1 = [dg n] := by simp [lowd]
theorem lowd_4 (n : Nat) : lowd n 4 = d4 n := by simp [lowd, d4]

set_option maxRecDepth 100000 in
set_option maxHeartbeats 1000000 in
theorem rdigits_any (n wd : Nat) (hn : n ≤ 1000000) (hwd : wd ≤ 4) (w : World) :
    Calls Tryd.prog 37 #[.int .i64 (n : Int), .int .i64 (wd : Int)] w fun e w' => e = .returned (.string (str (lowd n wd))) ∧ Below w.heap.size w w' := by
  go_enter Tryd.func37, Tryd.ntmps37
  go_wp2
  go_loopw [0, 5, 6] (fun v s i wr => ∃ j : Nat, j ≤ wd ∧ v = .int .i64 ((n / 10 ^ j : Nat) : Int) ∧ s = .string (str (lowd n j)) ∧ i = .int .i64 (j : Int) ∧ Hid (Below w.heap.size w wr)) (fun _ _ i _ => wd - (intOf i).toNat)
  case atStart => exact ⟨0, by omega, by simp, rfl, rfl, Below.refl _ _⟩
  case round =>
    obtain ⟨j, hj, rfl, rfl, rfl, HB⟩ := hrel
    by_cases hlt : j < wd
    · obtain ⟨N, hN⟩ : ∃ N, N = n / 10 ^ j := ⟨_, rfl⟩
      have hNn : N ≤ 1000000 := by rw [hN]; exact Nat.le_trans (Nat.div_le_self _ _) hn
      have HN : Hid (n / 10 ^ (j + 1) = N / 10) := (by rw [hN, Nat.pow_succ, Nat.div_div_eq_div_mul] : n / 10 ^ (j + 1) = N / 10)
      have HL : Hid (str [dg N] ++ str (lowd n j) = str (lowd n (j + 1))) := (by
        rw [hN]
        apply eq_list
        simp [str, lowd] : _ = _)
      have zl : (str (lowd n j)).size = j := by rw [str_size, lowd_len]
      have z1 : (str [dg N]).size = 1 := by rw [str_size]; rfl
      rw [← hN]
      have e1 : (N : Int).tmod 10 = (N : Int) % 10 := tr (by omega)
      have e2 : (N : Int).tdiv 10 = (N : Int) / 10 := tq (by omega)
      have hdgN := dg_nat N
      have z3 : (str [dg N]).size + (str (lowd n j)).size ≤ 100 := by omega
      generalize str (lowd n j) = S at *
      clear hN
      have hR : RdB (wr.alloc (.cells #[.int .u8 (48 + (N : Int) % 10)] 5)) (.slice (some ⟨wr.heap.size, 0, none⟩) 1 1) [dg N] := by
        refine ⟨some ⟨wr.heap.size, 0, none⟩, 1, rfl, Nat.le_refl _, (fun e => by cases e), .inr ⟨wr.heap.size, 0, rfl, fun q x hq => ?_⟩⟩
        rcases q with _ | q
        · simp at hq
          subst hq
          rw [hdgN]
          simp
        · simp at hq
      have hbk := back _ _ _ hR
      clear hR hdgN
      have w8 : IntKind.u8.wrap (48 + (N : Int) % 10) = 48 + (N : Int) % 10 := by simp [IntKind.wrap, IntKind.signed, IntKind.bits]; omega
      generalize str [dg N] = X at *
      go_wp2
      exact ⟨⟨j + 1, by omega, by rw [HN.out]; go_num, by rw [HL.out], by go_num, (HB.out.alloc HB.out.size _)⟩, by simp [intOf]; omega⟩
    · obtain rfl : j = wd := by omega
      go_wp2
      go_ret
      exact ⟨rfl, HB.out⟩

end Bs
end Go.Proofs.YtpfkajalkakbgaaDoor
