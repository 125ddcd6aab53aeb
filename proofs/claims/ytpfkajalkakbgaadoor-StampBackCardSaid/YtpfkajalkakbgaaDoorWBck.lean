/-
  The walk of StampBack.
-/
import Derived.Test.YtpfkajalkakbgaaDoorWAwk
import Derived.Test.YtpfkajalkakbgaaDoorSJoin
set_option linter.unusedVariables false
set_option linter.unusedSimpArgs false
namespace Go.Proofs.YtpfkajalkakbgaaDoor
open Go.RowKit
namespace Bs

theorem join_split {t : Int} (ht : isM t) : joinS (ymd (t / 86400)).1 (ymd (t / 86400)).2.1 (ymd (t / 86400)).2.2 (t % 86400 / 3600) (t % 86400 % 3600 / 60) (t % 86400 % 60) (wday (t / 86400)) = (t, 0) := by
  obtain ⟨t1, t2⟩ := ht
  obtain ⟨a, b⟩ := ymd_is (D := t / 86400) (by omega) (by omega)
  unfold joinS
  rw [if_neg (fun c => c a), if_neg (by omega), b, if_neg (fun c => c rfl)]
  exact Prod.ext (by show t / 86400 * 86400 + t % 86400 / 3600 * 3600 + t % 86400 % 3600 / 60 * 60 + t % 86400 % 60 = t; omega) rfl
theorem write_err {t f : Int} (ht : isM t) (hf : f = 0 ∨ f = 1 ∨ f = 2) : (writeR t f).2 = 0 := by
  unfold writeR
  rw [if_neg (fun c => c ht), if_neg (fun c => c (by omega))]
theorem write_len {t f : Int} (ht : isM t) (hf : f = 0 ∨ f = 1 ∨ f = 2) : (writeR t f).1.length ≤ 200 := by
  obtain ⟨y, m, d, h, i, s, k, e1, e2, e3, e4, e5, e6, e7, hI, hD, hm, hd, hy, hh, hi, hs, hk⟩ := parts_of ht
  rw [writeR_ok ht hf e1 e2 e3 e4 e5 e6 e7]
  have n1 := shorts_n' hk
  have n2 := mons_n' hm
  have n3 := longs_n' hk
  have np : (p2 32 d).length = 2 := by unfold p2; split <;> rfl
  rcases hf with rfl | rfl | rfl
  · show (shorts.getD k [] ++ [44, 32] ++ d2 d ++ [32] ++ mons.getD (m + 1 - 1) [] ++ [32] ++ d4 y ++ clk h i s ++ [32, 71, 77, 84]).length ≤ 200
    simp only [List.length_append, n1, Nat.add_sub_cancel, n2, clk, d2, d4, List.length_cons, List.length_nil]
    omega
  · show (longs.getD k [] ++ [44, 32] ++ d2 d ++ [45] ++ mons.getD (m + 1 - 1) [] ++ [45] ++ d2 (y % 100) ++ clk h i s ++ [32, 71, 77, 84]).length ≤ 200
    simp only [List.length_append, Nat.add_sub_cancel, n2, clk, d2, d4, List.length_cons, List.length_nil]
    omega
  · show (shorts.getD k [] ++ [32] ++ mons.getD (m + 1 - 1) [] ++ [32] ++ p2 32 d ++ clk h i s ++ [32] ++ d4 y).length ≤ 200
    simp only [List.length_append, n1, Nat.add_sub_cancel, n2, clk, d2, d4, List.length_cons, List.length_nil, np]
    omega
theorem form3 (f : Int) : (f.tmod 3 + 3).tmod 3 = 0 ∨ (f.tmod 3 + 3).tmod 3 = 1 ∨ (f.tmod 3 + 3).tmod 3 = 2 := by
  have a1 : -3 < f.tmod 3 := Int.lt_tmod_of_pos f (by omega)
  have a2 := Int.tmod_lt_of_pos f (show (0 : Int) < 3 by omega)
  have a3 : (f.tmod 3 + 3).tmod 3 = (f.tmod 3 + 3) % 3 := tr (by omega)
  omega

set_option maxRecDepth 100000 in
set_option maxHeartbeats 4000000 in
theorem walk_StampBack (t form now : Int) (w : World) (tb : Tb w) (ht : I64 t) (hf : I64 form) (hn : I64 now) :
    Calls Tryd.prog 8 #[.int .i64 t, .int .i64 form, .int .i64 now] w fun e w' => e = .returned (.bool true) ∧ Below w.heap.size w w' := by
  have HA : Hid (Calls Tryd.prog 9 #[] w fun e w' => e = .returned (.bool true) ∧ Below w.heap.size w w') := awake_any w tb
  have HT : Hid (Tb w) := tb
  clear tb
  obtain ⟨f0, f1⟩ := hf
  by_cases hM : isM t
  · by_cases hN : isM now
    · have hF := form3 form
      have r1 : -3 < form.tmod 3 := Int.lt_tmod_of_pos form (by omega)
      have r2 := Int.tmod_lt_of_pos form (show (0 : Int) < 3 by omega)
      generalize hq : form.tmod 3 = Q at *
      generalize hff : (Q + 3).tmod 3 = F at *
      have H1 : Hid (∀ w, Tb w → Calls Tryd.prog 21 #[.int .i64 t, .int .i64 F] w fun e w' => e = .returned (.tuple #[.string (str (writeR t F).1), .int .i64 0]) ∧ Below w.heap.size w w') := fun w tb => by
        have := Write_any t F ht ⟨by omega, by omega⟩ w tb
        rw [write_err hM hF] at this
        exact this
      have H2 : Hid (∀ w, Tb w → Calls Tryd.prog 16 #[.int .i64 t] w fun e w' => e = .returned (.tuple #[splitV t, .int .i64 0]) ∧ Below w.heap.size w w') := fun w tb => by
        have := Split_any t ht w tb
        rw [show splitR t = (splitV t, 0) from if_pos hM] at this
        exact this
      have H3 : Hid (∀ w, Tb w → Calls Tryd.prog 16 #[.int .i64 now] w fun e w' => e = .returned (.tuple #[splitV now, .int .i64 0]) ∧ Below w.heap.size w w') := fun w tb => by
        have := Split_any now hn w tb
        rw [show splitR now = (splitV now, 0) from if_pos hN] at this
        exact this
      have H4 : Hid (∀ w, Tb w → Calls Tryd.prog 19 #[splitV t] w fun e w' => e = .returned (.tuple #[.int .i64 t, .int .i64 0]) ∧ Below w.heap.size w w') := fun w tb => by
        have hm1 := hM.1
        have hm2 := hM.2
        have hI := (ymd_is (D := t / 86400) (by omega) (by omega)).1
        have hm := hI.m
        have hd := md_le (ymd (t / 86400)).1 (ymd (t / 86400)).2.1
        have hw := wday_r (t / 86400)
        obtain ⟨y1, y2, d1, d2'⟩ := hI
        have := Join_any (ymd (t / 86400)).1 (ymd (t / 86400)).2.1 (ymd (t / 86400)).2.2 (t % 86400 / 3600) (t % 86400 % 3600 / 60) (t % 86400 % 60) (wday (t / 86400)) ⟨by omega, by omega⟩ ⟨by omega, by omega⟩ ⟨by omega, by omega⟩ ⟨by omega, by omega⟩ ⟨by omega, by omega⟩ ⟨by omega, by omega⟩ ⟨by omega, by omega⟩ w tb
        rw [join_split hM] at this
        exact this
      have hyt : 1 ≤ yearOfM t ∧ yearOfM t ≤ 9999 := by
        have hm1 := hM.1
        have hm2 := hM.2
        obtain ⟨y1, y2, _⟩ := (ymd_is (D := t / 86400) (by omega) (by omega)).1
        exact ⟨y1, y2⟩
      have hyn : 1 ≤ yearOfM now ∧ yearOfM now ≤ 9999 := by
        have hm1 := hN.1
        have hm2 := hN.2
        obtain ⟨y1, y2, _⟩ := (ymd_is (D := now / 86400) (by omega) (by omega)).1
        exact ⟨y1, y2⟩
      have H5 : Hid (∀ w, Tb w → Calls Tryd.prog 24 #[.string (str (writeR t F).1), .int .i64 now] w fun e w' => e = .returned (.tuple #[.int .i64 (parseS (writeR t F).1 now).1, .int .i64 (parseS (writeR t F).1 now).2.1, .int .i64 (parseS (writeR t F).1 now).2.2.1, .int .i64 (parseS (writeR t F).1 now).2.2.2]) ∧ Below w.heap.size w w') := fun w tb => Parse_any _ now (by have := write_len hM hF; omega) hn w tb
      have K1 : Hid (F ≠ 1 ∨ (yearOfM now - 49 ≤ yearOfM t ∧ yearOfM t ≤ yearOfM now + 50) → parseS (writeR t F).1 now = (t, F, 0, 0)) := fun ha => back_to hM hN hF ha
      have K2 : Hid (F = 1 → ¬ (yearOfM now - 49 ≤ yearOfM t ∧ yearOfM t ≤ yearOfM now + 50) → (parseS (writeR t F).1 now).2.2.1 ≠ 0 ∨ (parseS (writeR t F).1 now).1 ≠ t) := fun h ha => h ▸ back_far hM hN ha
      have hM1 := hM.1
      have hM2 := hM.2
      have hN1 := hN.1
      have hN2 := hN.2
      clear hM hN
      unfold splitV dv7 at *
      rw [show (ymd (t / 86400)).1 = yearOfM t from rfl] at H2 H4
      rw [show (ymd (now / 86400)).1 = yearOfM now from rfl] at H3
      generalize yearOfM t = Yt at *
      generalize yearOfM now = Yn at *
      generalize (ymd (t / 86400)).2.1 = a1 at *
      generalize (ymd (t / 86400)).2.2 = a2 at *
      generalize t % 86400 / 3600 = a3 at *
      generalize t % 86400 % 3600 / 60 = a4 at *
      generalize t % 86400 % 60 = a5 at *
      generalize wday (t / 86400) = a6 at *
      generalize (ymd (now / 86400)).2.1 = b1 at *
      generalize (ymd (now / 86400)).2.2 = b2 at *
      generalize now % 86400 / 3600 = b3 at *
      generalize now % 86400 % 3600 / 60 = b4 at *
      generalize now % 86400 % 60 = b5 at *
      generalize wday (now / 86400) = b6 at *
      generalize parseS (writeR t F).1 now = PR at *
      generalize str (writeR t F).1 = S at *
      obtain ⟨g1, g2, g3, g4⟩ := PR
      dsimp only at H5 K1 K2
      go_enter Tryd.func8, Tryd.ntmps8
      go_wp2_with fail
      refine Calls.mono HA.out ?_
      rintro e w1 ⟨rfl, b1'⟩
      have HB1 : Hid (Below w.heap.size w w1) := b1'
      have HT1 : Hid (Tb w1) := HT.out.bel b1'
      clear b1'
      go_wp2_with fail
      refine (H1.out _ HT1.out).mono ?_
      rintro e w2 ⟨rfl, b1'⟩
      have HB2 : Hid (Below w.heap.size w w2) := bel_trans HB1.out b1'
      have HT2 : Hid (Tb w2) := HT1.out.bel b1'
      clear b1'
      go_wp2_with fail
      refine (H2.out _ HT2.out).mono ?_
      rintro e w3 ⟨rfl, b1'⟩
      have HB3 : Hid (Below w.heap.size w (w3.alloc (.cells #[.int .i64 Yt, .int .i64 a1, .int .i64 a2, .int .i64 a3, .int .i64 a4, .int .i64 a5, .int .i64 a6] 32))) := bel_trans (bel_trans HB2.out b1') ((But.refl [] w3).alloc _).to_below
      have HT3 : Hid (Tb (w3.alloc (.cells #[.int .i64 Yt, .int .i64 a1, .int .i64 a2, .int .i64 a3, .int .i64 a4, .int .i64 a5, .int .i64 a6] 32))) := (HT2.out.bel b1').alloc _
      have nn : ∀ x : Nat, x ∉ ([] : List Nat) := fun _ e => by cases e
      clear b1'
      go_wp2_with fail
      refine (H4.out _ HT3.out).mono ?_
      rintro e w4 ⟨rfl, b1'⟩
      have HB4 : Hid (Below w.heap.size w w4) := bel_trans HB3.out b1'
      have HT4 : Hid (Tb w4) := HT3.out.bel b1'
      have c0 := (But.of_below b1').cell (p := ⟨w3.heap.size, 0, none⟩) (v := .int .i64 Yt) (by simp) (nn _)
      clear b1'
      go_wp2_with fail
      refine (H3.out _ HT4.out).mono ?_
      rintro e w5 ⟨rfl, b1'⟩
      have HB5 : Hid (Below w.heap.size w (w5.alloc (.cells #[.int .i64 Yn, .int .i64 b1, .int .i64 b2, .int .i64 b3, .int .i64 b4, .int .i64 b5, .int .i64 b6] 32))) := bel_trans (bel_trans HB4.out b1') ((But.refl [] w5).alloc _).to_below
      have HT5 : Hid (Tb (w5.alloc (.cells #[.int .i64 Yn, .int .i64 b1, .int .i64 b2, .int .i64 b3, .int .i64 b4, .int .i64 b5, .int .i64 b6] 32))) := (HT4.out.bel b1').alloc _
      replace c0 := ((But.of_below b1').alloc (.cells #[.int .i64 Yn, .int .i64 b1, .int .i64 b2, .int .i64 b3, .int .i64 b4, .int .i64 b5, .int .i64 b6] 32)).cell c0 (nn _)
      clear b1'
      go_wp2_with fail
      refine (H5.out _ HT5.out).mono ?_
      rintro e w6 ⟨rfl, b1'⟩
      have HB6 : Hid (Below w.heap.size w w6) := bel_trans HB5.out b1'
      have d0 := (But.of_below b1').cell (p := ⟨w5.heap.size, 0, none⟩) (v := .int .i64 Yn) (by simp) (nn _)
      replace c0 := (But.of_below b1').cell c0 (nn _)
      clear b1'
      generalize w3.heap.size = P3 at *
      generalize w5.heap.size = P5 at *
      by_cases h1 : F = 1
      · by_cases hA : Yn - 49 ≤ Yt
        · by_cases hB : Yt ≤ Yn + 50
          · have e0 := K1.out (.inr ⟨hA, hB⟩)
            simp only [Prod.mk.injEq] at e0
            obtain ⟨rfl, rfl, rfl, rfl⟩ := e0
            clear K1 K2 hff
            subst h1
            go_wp2
            go_ret
            exact ⟨rfl, HB6.out⟩
          · have e0 := K2.out h1 (fun c => hB c.2)
            have HE : Hid (g3 ≠ 0 ∨ g1 ≠ t) := e0
            clear K1 K2 hff e0
            subst h1
            by_cases hg : g3 = 0
            · have hg1 : (g1 != t) = true := by have := HE.out.resolve_left (fun c => c hg); simpa using this
              subst hg
              go_wp2
              go_ret
              exact ⟨rfl, HB6.out⟩
            · have hg1 : (g3 != 0) = true := by simpa using hg
              go_wp2
              go_ret
              exact ⟨rfl, HB6.out⟩
        · have e0 := K2.out h1 (fun c => hA c.1)
          have HE : Hid (g3 ≠ 0 ∨ g1 ≠ t) := e0
          clear K1 K2 hff e0
          subst h1
          by_cases hg : g3 = 0
          · have hg1 : (g1 != t) = true := by have := HE.out.resolve_left (fun c => c hg); simpa using this
            subst hg
            go_wp2
            go_ret
            exact ⟨rfl, HB6.out⟩
          · have hg1 : (g3 != 0) = true := by simpa using hg
            go_wp2
            go_ret
            exact ⟨rfl, HB6.out⟩
      · have e0 := K1.out (.inl h1)
        simp only [Prod.mk.injEq] at e0
        obtain ⟨rfl, rfl, rfl, rfl⟩ := e0
        have hF1 : (g2 != 1) = true := by simpa using h1
        clear K1 K2 hff
        by_cases hA : Yn - 49 ≤ Yt
        · by_cases hB : Yt ≤ Yn + 50
          · go_wp2
            go_ret
            exact ⟨rfl, HB6.out⟩
          · go_wp2
            go_ret
            exact ⟨rfl, HB6.out⟩
        · go_wp2
          go_ret
          exact ⟨rfl, HB6.out⟩
    · rcases (by unfold isM at hN; omega : now < -62135596800 ∨ (¬ now < -62135596800 ∧ 253402300799 < now)) with h1 | ⟨h1, h2⟩
      all_goals
        have hM1 := hM.1
        have hM2 := hM.2
        go_enter Tryd.func8, Tryd.ntmps8
        go_wp2_with fail
        refine Calls.mono HA.out ?_
        rintro e w1 ⟨rfl, b1⟩
        have HB1 : Hid (Below w.heap.size w w1) := b1
        clear b1
        go_wp2
        go_ret
        exact ⟨rfl, HB1.out⟩
  · rcases (by unfold isM at hM; omega : t < -62135596800 ∨ (¬ t < -62135596800 ∧ 253402300799 < t)) with h1 | ⟨h1, h2⟩
    all_goals
      go_enter Tryd.func8, Tryd.ntmps8
      go_wp2_with fail
      refine Calls.mono HA.out ?_
      rintro e w1 ⟨rfl, b1⟩
      have HB1 : Hid (Below w.heap.size w w1) := b1
      clear b1
      go_wp2
      go_ret
      exact ⟨rfl, HB1.out⟩

end Bs
end Go.Proofs.YtpfkajalkakbgaaDoor
