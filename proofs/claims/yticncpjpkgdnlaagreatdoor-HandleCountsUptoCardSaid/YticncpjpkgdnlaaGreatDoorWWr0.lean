/-
  A moment in a form (0).
-/
import Derived.Test.YticncpjpkgdnlaaGreatDoorWWb
import Derived.Deep.RegionHeld3
set_option linter.unusedVariables false
set_option linter.unusedSimpArgs false
namespace Go.Proofs.YticncpjpkgdnlaaGreatDoor
open Go.RowKit
namespace Bs

set_option maxRecDepth 100000 in
set_option maxHeartbeats 4000000 in
theorem Write_0 (t : Int) (ht : I64 t) (hM : isM t) (w : World) (tb : Tb w) :
    Calls Tryz.prog 146 #[.int .i64 t, .int .i64 0] w fun e w' => e = .returned (.tuple #[.string (str (writeR t 0).1), .int .i64 (writeR t 0).2]) ∧ Below w.heap.size w w' := by
  have hF : 0 ≤ (0 : Int) ∧ (0 : Int) < 3 := by omega
  have hf : I64 0 := ⟨by omega, by omega⟩
  have hsp := Split_any t ht w tb
  have HTB : Hid (Tb w) := tb
  clear tb
  rw [show splitR t = (splitV t, 0) from if_pos hM] at hsp
  have HSP : Hid (Calls Tryz.prog 209 #[.int .i64 t] w fun e w' => e = .returned (.tuple #[splitV t, .int .i64 0]) ∧ Below w.heap.size w w') := hsp
  clear hsp
  unfold splitV dv7 at HSP
  have hM1 := hM.1
  have hM2 := hM.2
  have hI := (ymd_is (D := t / 86400) (by omega) (by omega)).1
  have hm := hI.m
  have hd := md_le (ymd (t / 86400)).1 (ymd (t / 86400)).2.1
  obtain ⟨y1, y2, d1, d2'⟩ := hI
  have hwd := wday_r (t / 86400)
  have r1 : 0 ≤ t % 86400 / 3600 ∧ t % 86400 / 3600 < 24 := by omega
  have r2 : 0 ≤ t % 86400 % 3600 / 60 ∧ t % 86400 % 3600 / 60 < 60 := by omega
  have r3 : 0 ≤ t % 86400 % 60 ∧ t % 86400 % 60 < 60 := by omega
  have HWR : Hid (writeR t (0 : Int) = if ¬ (0 ≤ (0 : Int) ∧ (0 : Int) < 3) then ([], 44) else (wrS (0 : Int) (ymd (t / 86400)).1.toNat (ymd (t / 86400)).2.1.toNat (ymd (t / 86400)).2.2.toNat (t % 86400 / 3600).toNat (t % 86400 % 3600 / 60).toNat (t % 86400 % 60).toNat (wday (t / 86400)).toNat, 0)) := if_neg (fun h => h hM)
  have HBF : Hid (∀ w, Calls Tryz.prog 210 #[.int .i64 (0 : Int), .int .i64 3] w fun e w' => e = .returned (.bool (decide (0 ≤ (0 : Int) ∧ (0 : Int) < 3))) ∧ w' = w) := fun w => below_any (0 : Int) 3 hf ⟨by omega, by omega⟩ w
  generalize (ymd (t / 86400)).1 = Y at *
  generalize (ymd (t / 86400)).2.1 = M at *
  generalize (ymd (t / 86400)).2.2 = Dd at *
  generalize t % 86400 / 3600 = H at *
  generalize t % 86400 % 3600 / 60 = I at *
  generalize t % 86400 % 60 = S at *
  generalize wday (t / 86400) = K at *
  obtain ⟨y, rfl⟩ := toN (x := Y) (by omega)
  obtain ⟨m, rfl⟩ := toN (x := M) (by omega)
  obtain ⟨d, rfl⟩ := toN (x := Dd) (by omega)
  obtain ⟨h, rfl⟩ := toN (x := H) (by omega)
  obtain ⟨i, rfl⟩ := toN (x := I) (by omega)
  obtain ⟨s, rfl⟩ := toN (x := S) (by omega)
  obtain ⟨k, rfl⟩ := toN (x := K) (by omega)
  simp only [Int.toNat_natCast] at HWR
  rw [decide_eq_true hF] at HBF
  have HWR2 : Hid (writeR t (0 : Int) = (wrS (0 : Int) y m d h i s k, 0)) := (by rw [HWR.out, if_neg (fun e => e hF)] : writeR t (0 : Int) = (wrS (0 : Int) y m d h i s k, 0))
  clear HWR
  go_enter Tryz.func146, Tryz.ntmps146
  go_wp2_with fail
  refine Calls.mono HSP.out ?_
  rintro e w1 ⟨rfl, b1⟩
  have hb2 : Below w.heap.size w (w1.alloc (.cells #[.int .i64 (y : Int), .int .i64 (m : Int), .int .i64 (d : Int), .int .i64 (h : Int), .int .i64 (i : Int), .int .i64 (s : Int), .int .i64 (k : Int)] 246)) := bel_trans b1 ((But.refl [] w1).alloc _).to_below
  clear b1
  go_wp2_with fail
  have c0 : (w1.alloc (.cells #[.int .i64 (y : Int), .int .i64 (m : Int), .int .i64 (d : Int), .int .i64 (h : Int), .int .i64 (i : Int), .int .i64 (s : Int), .int .i64 (k : Int)] 246)).cell? ⟨w1.heap.size, 0, none⟩ = some (.int .i64 (y : Int)) := by simp
  have c1 : (w1.alloc (.cells #[.int .i64 (y : Int), .int .i64 (m : Int), .int .i64 (d : Int), .int .i64 (h : Int), .int .i64 (i : Int), .int .i64 (s : Int), .int .i64 (k : Int)] 246)).cell? ⟨w1.heap.size, 1, none⟩ = some (.int .i64 (m : Int)) := by simp
  have c2 : (w1.alloc (.cells #[.int .i64 (y : Int), .int .i64 (m : Int), .int .i64 (d : Int), .int .i64 (h : Int), .int .i64 (i : Int), .int .i64 (s : Int), .int .i64 (k : Int)] 246)).cell? ⟨w1.heap.size, 2, none⟩ = some (.int .i64 (d : Int)) := by simp
  have c3 : (w1.alloc (.cells #[.int .i64 (y : Int), .int .i64 (m : Int), .int .i64 (d : Int), .int .i64 (h : Int), .int .i64 (i : Int), .int .i64 (s : Int), .int .i64 (k : Int)] 246)).cell? ⟨w1.heap.size, 3, none⟩ = some (.int .i64 (h : Int)) := by simp
  have c4 : (w1.alloc (.cells #[.int .i64 (y : Int), .int .i64 (m : Int), .int .i64 (d : Int), .int .i64 (h : Int), .int .i64 (i : Int), .int .i64 (s : Int), .int .i64 (k : Int)] 246)).cell? ⟨w1.heap.size, 4, none⟩ = some (.int .i64 (i : Int)) := by simp
  have c5 : (w1.alloc (.cells #[.int .i64 (y : Int), .int .i64 (m : Int), .int .i64 (d : Int), .int .i64 (h : Int), .int .i64 (i : Int), .int .i64 (s : Int), .int .i64 (k : Int)] 246)).cell? ⟨w1.heap.size, 5, none⟩ = some (.int .i64 (s : Int)) := by simp
  have c6 : (w1.alloc (.cells #[.int .i64 (y : Int), .int .i64 (m : Int), .int .i64 (d : Int), .int .i64 (h : Int), .int .i64 (i : Int), .int .i64 (s : Int), .int .i64 (k : Int)] 246)).cell? ⟨w1.heap.size, 6, none⟩ = some (.int .i64 (k : Int)) := by simp
  generalize (w1.alloc (.cells #[.int .i64 (y : Int), .int .i64 (m : Int), .int .i64 (d : Int), .int .i64 (h : Int), .int .i64 (i : Int), .int .i64 (s : Int), .int .i64 (k : Int)] 246)) = W at *
  generalize w1.heap.size = DD at *
  have HB2 : Hid (Below w.heap.size w W) := hb2
  have HT2 : Hid (Tb W) := HTB.out.bel hb2
  clear hb2
  have cmo := HT2.out.mo (m - 1) (by omega)
  have zSMo : (str (mons.getD (m - 1) [])).size = 3 := by rw [str_size]; exact mons_3 _ (by omega)
  generalize hsmo : str (mons.getD (m - 1) []) = SMo at cmo zSMo
  have HSMO : Hid (_ = _) := hsmo
  clear hsmo
  have hm1 : (m : Int) - 1 = ((m - 1 : Nat) : Int) := by omega
  refine (HBF.out _).mono ?_
  rintro e WW ⟨rfl, hw'⟩
  subst hw'
  have HPP : Hid (∀ n : Nat, n < 100 → ∀ w, Calls Tryz.prog 211 #[.int .i64 (n : Int), .int .i64 2, .string ⟨#[48]⟩] w fun e w' => e = .returned (.string (str (p2 48 n))) ∧ w' = w) := fun n hn w => padded2_any n hn 48 w
  have b1 : h < 100 := by omega
  have b2 : i < 100 := by omega
  have b3 : s < 100 := by omega
  have zSH : (str (p2 48 h)).size = 2 := by rw [str_size, p2_len]
  have zSM : (str (p2 48 i)).size = 2 := by rw [str_size, p2_len]
  have zSS : (str (p2 48 s)).size = 2 := by rw [str_size, p2_len]
  have HCK : Hid (((((((⟨#[32]⟩ : ByteArray) ++ str (p2 48 h)) ++ (⟨#[58]⟩ : ByteArray)) ++ str (p2 48 i)) ++ (⟨#[58]⟩ : ByteArray)) ++ str (p2 48 s)) = str (clk h i s)) := (by
      rw [show (⟨#[32]⟩ : ByteArray) = str [32] from rfl, show (⟨#[58]⟩ : ByteArray) = str [58] from rfl, str_app, str_app, str_app, str_app, str_app, p2_48 (by omega), p2_48 (by omega), p2_48 (by omega)]
      rfl : _ = _)
  have zc0 : (⟨#[32]⟩ : ByteArray).size + (str (p2 48 h)).size ≤ 200 := by simp only [ByteArray.size_append, zSH, zSM, zSS]; (try simp only [show (⟨#[32]⟩ : ByteArray).size = 1 from rfl, show (⟨#[58]⟩ : ByteArray).size = 1 from rfl, show (⟨#[45]⟩ : ByteArray).size = 1 from rfl, show (⟨#[44, 32]⟩ : ByteArray).size = 2 from rfl, show (⟨#[32, 71, 77, 84]⟩ : ByteArray).size = 4 from rfl]); omega
  have zc1 : ((⟨#[32]⟩ : ByteArray) ++ (str (p2 48 h))).size + (⟨#[58]⟩ : ByteArray).size ≤ 200 := by simp only [ByteArray.size_append, zSH, zSM, zSS]; (try simp only [show (⟨#[32]⟩ : ByteArray).size = 1 from rfl, show (⟨#[58]⟩ : ByteArray).size = 1 from rfl, show (⟨#[45]⟩ : ByteArray).size = 1 from rfl, show (⟨#[44, 32]⟩ : ByteArray).size = 2 from rfl, show (⟨#[32, 71, 77, 84]⟩ : ByteArray).size = 4 from rfl]); omega
  have zc2 : (((⟨#[32]⟩ : ByteArray) ++ (str (p2 48 h))) ++ (⟨#[58]⟩ : ByteArray)).size + (str (p2 48 i)).size ≤ 200 := by simp only [ByteArray.size_append, zSH, zSM, zSS]; (try simp only [show (⟨#[32]⟩ : ByteArray).size = 1 from rfl, show (⟨#[58]⟩ : ByteArray).size = 1 from rfl, show (⟨#[45]⟩ : ByteArray).size = 1 from rfl, show (⟨#[44, 32]⟩ : ByteArray).size = 2 from rfl, show (⟨#[32, 71, 77, 84]⟩ : ByteArray).size = 4 from rfl]); omega
  have zc3 : ((((⟨#[32]⟩ : ByteArray) ++ (str (p2 48 h))) ++ (⟨#[58]⟩ : ByteArray)) ++ (str (p2 48 i))).size + (⟨#[58]⟩ : ByteArray).size ≤ 200 := by simp only [ByteArray.size_append, zSH, zSM, zSS]; (try simp only [show (⟨#[32]⟩ : ByteArray).size = 1 from rfl, show (⟨#[58]⟩ : ByteArray).size = 1 from rfl, show (⟨#[45]⟩ : ByteArray).size = 1 from rfl, show (⟨#[44, 32]⟩ : ByteArray).size = 2 from rfl, show (⟨#[32, 71, 77, 84]⟩ : ByteArray).size = 4 from rfl]); omega
  have zc4 : (((((⟨#[32]⟩ : ByteArray) ++ (str (p2 48 h))) ++ (⟨#[58]⟩ : ByteArray)) ++ (str (p2 48 i))) ++ (⟨#[58]⟩ : ByteArray)).size + (str (p2 48 s)).size ≤ 200 := by simp only [ByteArray.size_append, zSH, zSM, zSS]; (try simp only [show (⟨#[32]⟩ : ByteArray).size = 1 from rfl, show (⟨#[58]⟩ : ByteArray).size = 1 from rfl, show (⟨#[45]⟩ : ByteArray).size = 1 from rfl, show (⟨#[44, 32]⟩ : ByteArray).size = 2 from rfl, show (⟨#[32, 71, 77, 84]⟩ : ByteArray).size = 4 from rfl]); omega
  go_wp2_with fail
  go_quiet ((go_at_call 211; exact Calls.quiet_of_same (HPP.out _ (by assumption) _)))
  have HB3 : Hid (Below w.heap.size w (WW.drewN nq)) := bel_drewN HB2.out nq
  have HBW : Hid (But [] WW (WW.drewN nq)) := (But.refl [] WW).drewN nq
  generalize WW.drewN nq = W2 at *
  have nn : ∀ x : Nat, x ∉ ([] : List Nat) := fun _ e => by cases e
  replace c0 := HBW.out.cell c0 (nn _)
  replace c2 := HBW.out.cell c2 (nn _)
  replace c6 := HBW.out.cell c6 (nn _)
  have HT3 : Hid (Tb W2) := HT2.out.bel HBW.out.to_below
  clear c1 c3 c4 c5 cmo nn
  clear HBW HB2 HT2
  rw [HCK.out]
  have zCK : (str (clk h i s)).size = 9 := by rw [str_size]; rfl
  have b4 : d < 100 := by omega
  have zSD : (str (p2 48 d)).size = 2 := by rw [str_size, p2_len]
  clear HCK zc0 zc1 zc2 zc3 zc4 zSH zSM zSS
  generalize hck : str (clk h i s) = CK at *
  have HCK : Hid (_ = _) := hck
  clear hck
  have hk7 : k < 7 := by omega
  have cs := HT3.out.sd k hk7
  have zSW : (str (shorts.getD k [])).size = 3 := by rw [str_size]; exact shorts_3 k hk7
  generalize hsw : str (shorts.getD k []) = SW at *
  have HSW : Hid (_ = _) := hsw
  clear hsw
  have zSY : (str (d4 y)).size = 4 := by rw [str_size]; first | rw [p2_len] | rfl
  have HA : Hid (((((((((SW ++ (⟨#[44, 32]⟩ : ByteArray)) ++ (str (p2 48 d))) ++ (⟨#[32]⟩ : ByteArray)) ++ SMo) ++ (⟨#[32]⟩ : ByteArray)) ++ (str (d4 y))) ++ CK) ++ (⟨#[32, 71, 77, 84]⟩ : ByteArray)) = str (wrS 0 y m d h i s k)) := (by
    rw [← HSW.out, ← HSMO.out, ← HCK.out, p2_48 b4, show (⟨#[44, 32]⟩ : ByteArray) = str [44, 32] from rfl, show (⟨#[32]⟩ : ByteArray) = str [32] from rfl, show (⟨#[32, 71, 77, 84]⟩ : ByteArray) = str [32, 71, 77, 84] from rfl]
    simp only [str_app]
    rfl : _ = _)
  have HPY : Hid (∀ w, Tb w → Calls Tryz.prog 211 #[.int .i64 (y : Int), .int .i64 4, .string ⟨#[48]⟩] w fun e w' => e = .returned (.string (str (d4 y))) ∧ Below w.heap.size w w') := fun w h => padded4_any y (by omega) w h
  have HPD : Hid (∀ w, Calls Tryz.prog 211 #[.int .i64 (d : Int), .int .i64 2, .string ⟨#[48]⟩] w fun e w' => e = .returned (.string (str (p2 48 d))) ∧ w' = w) := fun w => HPP.out d b4 w
  clear HPP
  generalize str (d4 y) = SY at *
  generalize str (p2 48 d) = SD at *
  go_wp2_with fail
  have sK1 : (⟨#[32]⟩ : ByteArray).size = 1 := rfl
  have sK4 : (⟨#[44, 32]⟩ : ByteArray).size = 2 := rfl
  have sK5 : (⟨#[32, 71, 77, 84]⟩ : ByteArray).size = 4 := rfl
  have sK6 : (⟨#[48]⟩ : ByteArray).size = 1 := rfl
  generalize (⟨#[32]⟩ : ByteArray) = K1 at *
  generalize (⟨#[44, 32]⟩ : ByteArray) = K4 at *
  generalize (⟨#[32, 71, 77, 84]⟩ : ByteArray) = K5 at *
  generalize (⟨#[48]⟩ : ByteArray) = K6 at *
  have d0 : W2.drew.cell? ⟨DD, 0, none⟩ = some (.int .i64 (y : Int)) := c0
  have dd2 : W2.drew.cell? ⟨DD, 2, none⟩ = some (.int .i64 (d : Int)) := c2
  have d6 : W2.drew.cell? ⟨DD, 6, none⟩ = some (.int .i64 (k : Int)) := c6
  have ds : W2.drew.cell? ⟨3, k, none⟩ = some (.string SW) := cs
  have HT4 : Hid (Tb W2.drew) := HT3.out.bel ((But.refl [] W2).drew).to_below
  have HB4 : Hid (Below w.heap.size w W2.drew) := bel_drewN HB3.out 1
  clear c0 c2 c6 cs HB3 HT3
  go_region_held3 (fun X => X.cell? ⟨DD, 0, none⟩ = some (.int .i64 (y : Int)) ∧ X.cell? ⟨DD, 2, none⟩ = some (.int .i64 (d : Int)) ∧ X.cell? ⟨DD, 6, none⟩ = some (.int .i64 (k : Int)) ∧ X.cell? ⟨3, k, none⟩ = some (.string SW)) (first | exact ⟨d0, dd2, d6, ds⟩ | exact ⟨m0, m2, m6, ms⟩) (first | (go_at_call 211; (with_reducible refine (HPD.out _).mono ?_); rintro e w6 ⟨rfl, rfl⟩) | (go_at_call 211; (with_reducible refine (HPY.out _ HT4.out).mono ?_); rintro e w5 ⟨rfl, b5⟩; have HB5 : Hid (Below w.heap.size w w5) := bel_trans HB4.out b5; have m0 := (But.of_below b5).cell d0 (fun e => by cases e); have m2 := (But.of_below b5).cell dd2 (fun e => by cases e); have m6 := (But.of_below b5).cell d6 (fun e => by cases e); have ms := (But.of_below b5).cell ds (fun e => by cases e); clear b5))
  go_wp2
  go_ret2
  exact ⟨ret_si (by rw [HWR2.out]; exact HA.out) (by rw [HWR2.out]), HB5.out⟩

end Bs
end Go.Proofs.YticncpjpkgdnlaaGreatDoor
