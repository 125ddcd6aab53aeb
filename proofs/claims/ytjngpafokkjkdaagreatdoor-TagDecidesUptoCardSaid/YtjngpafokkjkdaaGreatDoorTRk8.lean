/-
  The document's Decide (written by mktrk.py).
-/
import Derived.Test.YtjngpafokkjkdaaGreatDoorTRd8
import Derived.Test.YtjngpafokkjkdaaGreatDoorTRm8
import Derived.Deep.Cut
set_option linter.unusedVariables false
set_option linter.unusedSimpArgs false
namespace Go.Proofs.YtjngpafokkjkdaaGreatDoor
open Go.RowKit Go.Shelf
namespace Tt
open Oc Tg

set_option maxRecDepth 100000 in
set_option maxHeartbeats 4000000 in
theorem rDecide_any (m : List UInt8) (fv : Value) (fs : List Fd.Fl) (s : St) (now : Int) (hnow : Bs.I64 now) (htm : -9223372036854775808 ≤ s.tm ∧ s.tm ≤ 9223372036854775807) (w : World) (hrd : Fd.RdF fv fs w) (hsum : Fd.sumF fs ≤ 1048576) :
    Calls Tryz.prog 7 #[.string (str m), fv, .agg #[.bool s.th, .bool s.own.1, .string (str s.own.2), .bool s.tg, .int .i64 s.tm, .bool s.td], .int .i64 now] w fun e w' => e = .returned (.int .i64 (rdecV m fs s now)) ∧ Below w.heap.size w w' := by
  obtain ⟨w1, hw1⟩ : ∃ w1, w1 = w.alloc (.cells #[.bool s.th, .bool s.own.1, .string (str s.own.2), .bool s.tg, .int .i64 s.tm, .bool s.td] 38) := ⟨_, rfl⟩
  have HS1 : Hid (StB 38 w1 w.heap.size s) := by rw [hw1]; exact StB.new _ w s
  have HB1 : Hid (Below w.heap.size w w1) := by rw [hw1]; exact (Below.refl _ w).alloc (Nat.le_refl _) _
  have HR1 : Hid (Fd.RdF fv fs w1) := hrd.below HB1.out
  obtain ⟨fa, fc, rfl, _⟩ := hrd
  have HJ1 : Hid (∀ W, Fd.RdF (.slice fa fs.length fc) fs W → _) := fun W h => Fd.rJoined_any _ fs sMatch (by decide) hsum W h
  have HJ2 : Hid (∀ W, Fd.RdF (.slice fa fs.length fc) fs W → _) := fun W h => Fd.rJoined_any _ fs sNone (by decide) hsum W h
  have HD1 : Hid (∀ W, Fd.RdF (.slice fa fs.length fc) fs W → _) := fun W h => rDate_any sUnmod (by decide) _ fs now hnow W h hsum
  have HD2 : Hid (∀ W, Fd.RdF (.slice fa fs.length fc) fs W → _) := fun W h => rDate_any sMod (by decide) _ fs now hnow W h hsum
  have z1 := join_size (n := sMatch) hsum
  have z2 := join_size (n := sNone) hsum
  rw [str_size] at z1 z2
  have HM1 : Hid (∀ W, _) := fun W => rmet_any (joinF (Fd.vals sMatch fs)) z1 s true W
  have HM2 : Hid (∀ W, _) := fun W => rmet_any (joinF (Fd.vals sNone fs)) z2 s false W
  have HDe : Hid (rdecV m fs s now = if decide (0 < (Fd.vals sMatch fs).length) = true then (if metV true (joinF (Fd.vals sMatch fs)) s = false then 412 else rendV m fs s now) else if ((rdateV sUnmod fs now).2 && (s.th && (s.td && decide ((rdateV sUnmod fs now).1 < s.tm)))) = true then 412 else rendV m fs s now) := by
    show _ = _
    unfold rdecV
    simp only [decide_eq_true_eq]
  have HRe : Hid (rendV m fs s now = if decide (0 < (Fd.vals sNone fs).length) = true then (if metV false (joinF (Fd.vals sNone fs)) s = true then (if readsM m = true then 304 else 412) else 0) else if (readsM m && ((rdateV sMod fs now).2 && (s.th && (s.td && decide (s.tm ≤ (rdateV sMod fs now).1))))) = true then 304 else 0) := by
    show _ = _
    unfold rendV
    simp only [decide_eq_true_eq]
  have q1 := eq_lit m [71, 69, 84]
  have q2 := eq_lit m [72, 69, 65, 68]
  have HRd : Hid (readsM m = (decide (m = [71, 69, 84]) || decide (m = [72, 69, 65, 68]))) := (rfl : _ = _)
  generalize rdecV m fs s now = RD at *
  generalize rendV m fs s now = RE at *
  generalize readsM m = rm at *
  generalize decide (0 < (Fd.vals sMatch fs).length) = H1 at *
  generalize decide (0 < (Fd.vals sNone fs).length) = H2 at *
  generalize metV true (joinF (Fd.vals sMatch fs)) s = M1 at *
  generalize metV false (joinF (Fd.vals sNone fs)) s = M2 at *
  generalize str (joinF (Fd.vals sMatch fs)) = J1 at *
  generalize str (joinF (Fd.vals sNone fs)) = J2 at *
  generalize rdateV sUnmod fs now = D1 at *
  generalize rdateV sMod fs now = D2 at *
  obtain ⟨D1t, D1b⟩ := D1
  obtain ⟨D2t, D2b⟩ := D2
  have HSc : Hid (∀ W, Below w1.heap.size w1 W → _) := fun W hb => (HS1.out.below hb).cells
  have HRr : Hid (∀ W, Below w1.heap.size w1 W → Fd.RdF (.slice fa fs.length fc) fs W) := fun W hb => HR1.out.below hb
  obtain ⟨th, own, tg, tm, td⟩ := s
  obtain ⟨ob, ot⟩ := own
  dsimp only at *
  have e1 : str sMatch = ⟨#[73, 102, 45, 77, 97, 116, 99, 104]⟩ := rfl
  have e2 : str sNone = ⟨#[73, 102, 45, 78, 111, 110, 101, 45, 77, 97, 116, 99, 104]⟩ := rfl
  have e3 : str sUnmod = ⟨#[73, 102, 45, 85, 110, 109, 111, 100, 105, 102, 105, 101, 100, 45, 83, 105, 110, 99, 101]⟩ := rfl
  have e4 : str sMod = ⟨#[73, 102, 45, 77, 111, 100, 105, 102, 105, 101, 100, 45, 83, 105, 110, 99, 101]⟩ := rfl
  rw [e1] at HJ1
  rw [e2] at HJ2
  rw [e3] at HD1
  rw [e4] at HD2
  generalize hQ1 : decide (m = [71, 69, 84]) = b1 at *
  generalize hQ2 : decide (m = [72, 69, 65, 68]) = b2 at *
  generalize str m = MM at *
  generalize str ot = OT at *
  clear hQ1 hQ2 e1 e2 e3 e4 z1 z2 HS1 hsum
  go_enter Tryz.func7, Tryz.ntmps7
  go_upto_region 1 with fail
  rw [← hw1]
  go_cut [9] from 10 (fun s9 wx => s9 = .bool rm ∧ wx = w1)
  case first =>
    cases b1 with
    | true =>
      have hr : rm = true := HRd.out
      clear q2
      go_wp2_with fail
      go_meet
      case rel => exact ⟨by rw [hr], hw1.symm⟩
    | false =>
      have hr : rm = b2 := HRd.out
      go_wp2_with fail
      go_meet
      case rel => exact ⟨by rw [hr], hw1.symm⟩
  case rest =>
  obtain ⟨rfl, hwc⟩ := hcut
  rw [hwc]
  clear hwc q1 q2 hw1
  go_wp2_with fail
  refine (HJ1.out _ HR1.out).mono ?_
  rintro e w2 ⟨rfl, hb2⟩
  have HB2 : Hid (Below w1.heap.size w1 w2) := hb2
  clear hb2
  go_upto_if 28 with fail
  go_cut [] from 10 (fun wx => Hid (Below w1.heap.size w1 wx) ∧ Hid (RD = RE))
  case first =>
    cases H1 with
    | true =>
      rw [if_pos rfl] at HDe
      obtain ⟨k0, k1, k2, k3, k4, k5⟩ := HSc.out w2 HB2.out
      go_wp2_with fail
      refine (HM1.out _).mono ?_
      rintro e w3 ⟨rfl, hb3⟩
      have HB3 : Hid (Below w1.heap.size w1 w3) := HB2.out.trans (hb3.mono HB2.out.size)
      clear hb3 k0 k1 k2 k3 k4 k5
      cases M1 with
      | false =>
        rw [if_pos rfl] at HDe
        go_wp2
        go_ret
        rw [HDe.out]
        exact ⟨rfl, HB1.out.trans (HB3.out.mono HB1.out.size)⟩
      | true =>
        rw [if_neg (by decide)] at HDe
        go_wp2_with fail
        go_meet
        case rel => exact ⟨HB3, HDe⟩
    | false =>
      rw [if_neg (by decide)] at HDe
      go_wp2_with fail
      refine (HD1.out _ (HRr.out _ HB2.out)).mono ?_
      rintro e w3 ⟨rfl, hb3⟩
      have HB3 : Hid (Below w1.heap.size w1 w3) := HB2.out.trans (hb3.mono HB2.out.size)
      clear hb3
      obtain ⟨k0, k1, k2, k3, k4, k5⟩ := HSc.out w3 HB3.out
      cases D1b with
      | false =>
        have HX : Hid (RD = RE) := (by rw [HDe.out]; simp : RD = RE)
        go_wp2_with fail
        go_meet
        case rel => exact ⟨HB3, HX⟩
      | true =>
        cases th with
        | false =>
          have HX : Hid (RD = RE) := (by rw [HDe.out]; simp : RD = RE)
          go_wp2_with fail
          go_meet
          case rel => exact ⟨HB3, HX⟩
        | true =>
          cases td with
          | false =>
            have HX : Hid (RD = RE) := (by rw [HDe.out]; simp : RD = RE)
            go_wp2_with fail
            go_meet
            case rel => exact ⟨HB3, HX⟩
          | true =>
            by_cases hc : D1t < tm
            · have hX : RD = 412 := by rw [HDe.out]; simp [hc]
              go_wp2
              go_ret
              rw [hX]
              exact ⟨rfl, HB1.out.trans (HB3.out.mono HB1.out.size)⟩
            · have HX : Hid (RD = RE) := (by rw [HDe.out]; simp [hc] : RD = RE)
              go_wp2_with fail
              go_meet
              case rel => exact ⟨HB3, HX⟩
  case rest =>
  obtain ⟨HBc, HX⟩ := hcut
  clear HDe HB2
  go_wp2_with fail
  refine (HJ2.out _ (HRr.out _ HBc.out)).mono ?_
  rintro e w4 ⟨rfl, hb4⟩
  have HB4 : Hid (Below w1.heap.size w1 w4) := HBc.out.trans (hb4.mono HBc.out.size)
  clear hb4 HBc
  cases H2 with
  | true =>
    rw [if_pos rfl] at HRe
    obtain ⟨k0, k1, k2, k3, k4, k5⟩ := HSc.out w4 HB4.out
    go_wp2_with fail
    refine (HM2.out _).mono ?_
    rintro e w5 ⟨rfl, hb5⟩
    have HB5 : Hid (Below w1.heap.size w1 w5) := HB4.out.trans (hb5.mono HB4.out.size)
    clear hb5 k0 k1 k2 k3 k4 k5
    cases M2 with
    | false =>
      rw [if_neg (by decide)] at HRe
      go_wp2
      go_ret
      rw [HX.out, HRe.out]
      exact ⟨rfl, HB1.out.trans (HB5.out.mono HB1.out.size)⟩
    | true =>
      rw [if_pos rfl] at HRe
      cases rm with
      | true =>
        rw [if_pos rfl] at HRe
        go_wp2
        go_ret
        rw [HX.out, HRe.out]
        exact ⟨rfl, HB1.out.trans (HB5.out.mono HB1.out.size)⟩
      | false =>
        rw [if_neg (by decide)] at HRe
        go_wp2
        go_ret
        rw [HX.out, HRe.out]
        exact ⟨rfl, HB1.out.trans (HB5.out.mono HB1.out.size)⟩
  | false =>
    rw [if_neg (by decide)] at HRe
    go_wp2_with fail
    refine (HD2.out _ (HRr.out _ HB4.out)).mono ?_
    rintro e w5 ⟨rfl, hb5⟩
    have HB5 : Hid (Below w1.heap.size w1 w5) := HB4.out.trans (hb5.mono HB4.out.size)
    clear hb5
    obtain ⟨k0, k1, k2, k3, k4, k5⟩ := HSc.out w5 HB5.out
    cases rm with
    | false =>
      have hX : RE = 0 := by rw [HRe.out]; simp
      go_wp2
      go_ret
      rw [HX.out, hX]
      exact ⟨rfl, HB1.out.trans (HB5.out.mono HB1.out.size)⟩
    | true =>
      cases D2b with
      | false =>
        have hX : RE = 0 := by rw [HRe.out]; simp
        go_wp2
        go_ret
        rw [HX.out, hX]
        exact ⟨rfl, HB1.out.trans (HB5.out.mono HB1.out.size)⟩
      | true =>
        cases th with
        | false =>
          have hX : RE = 0 := by rw [HRe.out]; simp
          go_wp2
          go_ret
          rw [HX.out, hX]
          exact ⟨rfl, HB1.out.trans (HB5.out.mono HB1.out.size)⟩
        | true =>
          cases td with
          | false =>
            have hX : RE = 0 := by rw [HRe.out]; simp
            go_wp2
            go_ret
            rw [HX.out, hX]
            exact ⟨rfl, HB1.out.trans (HB5.out.mono HB1.out.size)⟩
          | true =>
            by_cases hc : tm ≤ D2t
            · have hX : RE = 304 := by rw [HRe.out]; simp [hc]
              go_wp2
              go_ret
              rw [HX.out, hX]
              exact ⟨rfl, HB1.out.trans (HB5.out.mono HB1.out.size)⟩
            · have hX : RE = 0 := by rw [HRe.out]; simp [hc]
              go_wp2
              go_ret
              rw [HX.out, hX]
              exact ⟨rfl, HB1.out.trans (HB5.out.mono HB1.out.size)⟩

end Tt
end Go.Proofs.YtjngpafokkjkdaaGreatDoor
