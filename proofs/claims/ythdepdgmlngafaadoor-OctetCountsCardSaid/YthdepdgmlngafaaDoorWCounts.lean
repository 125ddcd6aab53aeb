/-
  A walk of a law.
-/
import Derived.Test.YthdepdgmlngafaaDoorDig2
import Derived.OpenShut
set_option linter.unusedVariables false
set_option linter.unusedSimpArgs false
namespace Go.Proofs.YthdepdgmlngafaaDoor.octetCounts
open Go.RowKit
open Go.Proofs.YthdepdgmlngafaaDoor.Oc

theorem bd {x : Int} (h : (Lit.int .i64 x).wf = true) : -9223372036854775808 ≤ x ∧ x ≤ 9223372036854775807 := by
  have := bounds_i64 h
  omega
set_option maxRecDepth 100000 in
set_option maxHeartbeats 1000000 in
theorem walk (a0 : Int) (w0 : (Lit.int .i64 a0).wf = true) (a1 : Int) (w1 : (Lit.int .i64 a1).wf = true) (w : World) (t : Both w) :
    Calls Tryd.prog 6 #[.int .i64 a0, .int .i64 a1] w fun e w' => e = .returned (.bool true) ∧ Below w.heap.size w w' := by
  have HT : Hid (Tab w) := t.tab
  have HP : Hid (Pow w) := t.pow
  clear t
  obtain ⟨m0, m1⟩ := bd w0
  obtain ⟨z0, z1⟩ := bd w1
  clear w0 w1
  have HLen : Hid ((Lib.itoa a0).length ≤ 21) := Lib.itoa_length_le a0 m0 m1
  go_enter Tryd.func6, Tryd.ntmps6
  go_wp2_with fail
  refine (Digits_any a0 m0 m1 _ HP.out).mono ?_
  rintro e w2 ⟨rfl, hb2⟩
  go_wp2_with fail
  refine (rDigits_any a0 m0 m1 _).mono ?_
  rintro e w3 ⟨rfl, hb3⟩
  have hb3' := bel_trans hb2 hb3
  have HB3 : Hid (Below w.heap.size w w3) := hb3'
  clear hb2 hb3 hb3'
  by_cases hneg : a0 < 0
  · go_wp2_with fail
    refine (awake_any _ (HT.out.below HB3.out (Nat.le_refl _))).mono ?_
    rintro e w4 ⟨rfl, hb4⟩
    go_wp2
    go_ret
    exact ⟨rfl, bel_trans HB3.out hb4⟩
  · obtain ⟨u, rfl⟩ := Int.eq_ofNat_of_zero_le (show 0 ≤ a0 by omega)
    have HI : Hid (Lib.itoa (u : Int) = Lib.decDigits u) := Lib.itoa_nonneg u
    go_wp2_with fail
    refine (Digits_any (u : Int) m0 m1 _ (HP.out.below HB3.out (Nat.le_refl _))).mono ?_
    rintro e w4 ⟨rfl, hb4⟩
    have HB4 : Hid (Below w.heap.size w w4) := bel_trans HB3.out hb4
    clear hb4
    have hlist := str_list (Lib.itoa (u : Int))
    have hsize := str_size (Lib.itoa (u : Int))
    rw [HI.out] at hlist hsize
    have HLen' := HLen.out
    rw [HI.out] at HLen' ⊢
    generalize str (Lib.decDigits u) = s0 at hlist hsize ⊢
    have HS : Hid (s0.data.toList = Lib.decDigits u) := hlist
    have hs0 : ¬ s0.size = 0 := by
      intro e
      rw [e] at hsize
      exact dec_ne u (List.length_eq_zero_iff.1 hsize.symm)
    have hs1 : s0.size ≤ 21 := by omega
    have he := nonempty_of hs0
    have hpos : 0 < s0.size := by omega
    have hby : (((s0[0]'hpos).toNat : Nat) : Int) = byt s0 0 := byt_at s0 0 hpos
    have HZ : Hid (¬ u = 0 → (byt s0 0 == 48) = false) := by
      intro hu
      have := dec_head u hu
      rw [← HS.out] at this
      unfold byt
      simp only [beq_eq_false_iff_ne]
      intro e
      exact this (UInt8.toNat_inj.1 (by show _ = 48; omega))
    clear hlist hsize HLen HLen'
    have hz : ((u : Int) != 0) = true ∧ (byt s0 0 == 48) = false ∨ ((u : Int) != 0) = false ∧ (byt s0 0 == 48) = true := by
      by_cases hu : u = 0
      · right
        have h1 := HS.out
        rw [hu, Lib.decDigits_one (by omega)] at h1
        exact ⟨by simp [hu], by unfold byt; rw [h1]; rfl⟩
      · left; exact ⟨by simp; omega, HZ.out hu⟩
    rcases hz with ⟨hz1, hz2⟩ | ⟨hz1, hz2⟩
    all_goals
      go_wp2
      go_loop [5, 6] (fun sv i => ∃ (k : Nat) (t : ByteArray), k ≤ 1000 ∧ i = .int .i64 k ∧ sv = .string t ∧ t.size ≤ 1021 ∧ Hid (t.data.toList = List.replicate k 48 ++ Lib.decDigits u) ∧ Hid (t.size = k + s0.size)) (fun _ i => 1000 - (intOf i).toNat)
      case atStart => exact ⟨0, s0, by omega, rfl, rfl, by omega, (by rw [HS.out]; rfl : s0.data.toList = List.replicate 0 48 ++ _), (by omega : s0.size = 0 + s0.size)⟩
      case round =>
        obtain ⟨k, t, hk, rfl, rfl, hts, htl, htk⟩ := hrel
        by_cases hc : (k : Int) < a1 ∧ k < 1000
        · obtain ⟨hc1, hc2⟩ := hc
          have hsz : (⟨#[48]⟩ : ByteArray).size + t.size ≤ 9223372036854775807 := by show 1 + t.size ≤ _; omega
          have HN : Hid ((⟨#[48]⟩ ++ t : ByteArray).data.toList = List.replicate (k + 1) 48 ++ Lib.decDigits u) := by
            show _ = _
            rw [show (⟨#[48]⟩ : ByteArray) = str [48] from rfl, cat_str, str_list, htl.out]
            rfl
          have HK : Hid ((⟨#[48]⟩ ++ t : ByteArray).size = k + 1 + s0.size) := by
            show _ = _
            rw [show (⟨#[48]⟩ : ByteArray) = str [48] from rfl, cat_str, str_size]
            have := htk.out
            simp
            omega
          go_wp2
          go_round
          case rel => exact ⟨k + 1, ⟨#[48]⟩ ++ t, by omega, by go_num, rfl, (by have := HK.out; omega), HN, HK⟩
          case measure => simp [intOf]; omega
        · have HR1 : Hid (numR 10 t.data.toList (u : Int) = ((u : Int), 0)) := (by rw [htl.out, numR_zeros, if_neg (by omega)] : numR 10 t.data.toList (u : Int) = ((u : Int), 0))
          have HR2 : Hid (0 < u → numR 10 t.data.toList ((u : Int) - 1) = (0, 12)) := (fun h => by rw [htl.out, numR_zeros, if_pos (by omega)] : 0 < u → numR 10 t.data.toList ((u : Int) - 1) = (0, 12))
          have ht63 : Hid (t.size ≤ maxLen) := (by unfold maxLen; omega : t.size ≤ maxLen)
          have hce : Hid (¬ ((k : Int) < a1 ∧ k < 1000)) := hc
          clear htl htk HZ HS hby hpos hs0 hs1 he
          by_cases hc1 : (k : Int) < a1
          · have hc2 : ¬ (k : Int) < 1000 := by have := hce.out; omega
            clear hc
            go_wp2_with fail
            refine (Decimal_any t ht63.out (u : Int) m0 m1 _).mono ?_
            rintro e w5 ⟨rfl, hb5⟩
            rw [HR1.out]
            by_cases hu : 0 < u
            · have hu' : (0 : Int) < u := by omega
              go_wp2_with fail
              refine (Decimal_any t ht63.out ((u : Int) - 1) (by omega) (by omega) _).mono ?_
              rintro e w6 ⟨rfl, hb6⟩
              rw [HR2.out hu]
              go_wp2
              go_ret
              exact ⟨rfl, bel_trans (bel_trans HB4.out hb5) hb6⟩
            · have hu' : ¬ (0 : Int) < u := by omega
              go_wp2
              go_ret
              exact ⟨rfl, bel_trans HB4.out hb5⟩
          · clear hc
            go_wp2_with fail
            refine (Decimal_any t ht63.out (u : Int) m0 m1 _).mono ?_
            rintro e w5 ⟨rfl, hb5⟩
            rw [HR1.out]
            by_cases hu : 0 < u
            · have hu' : (0 : Int) < u := by omega
              go_wp2_with fail
              refine (Decimal_any t ht63.out ((u : Int) - 1) (by omega) (by omega) _).mono ?_
              rintro e w6 ⟨rfl, hb6⟩
              rw [HR2.out hu]
              go_wp2
              go_ret
              exact ⟨rfl, bel_trans (bel_trans HB4.out hb5) hb6⟩
            · have hu' : ¬ (0 : Int) < u := by omega
              go_wp2
              go_ret
              exact ⟨rfl, bel_trans HB4.out hb5⟩

end Go.Proofs.YthdepdgmlngafaaDoor.octetCounts
