/- Several texts as one. -/
import Derived.Test.YtjngpafokkjkdaaGreatDoorMgW
import Derived.Test.YtjngpafokkjkdaaGreatDoorMgD1
import Derived.Deep.Cut
import Derived.Test.YtjngpafokkjkdaaGreatDoorMgJ
import Derived.Deep.RegionHeld3
/-
  The document's met.
-/
set_option linter.unusedVariables false
set_option linter.unusedSimpArgs false
namespace Go.Proofs.YtjngpafokkjkdaaGreatDoor
open Go.RowKit Go.Shelf
namespace Tt
open Oc Tg

/-- A state in a block. -/
def StB (T : Nat) (w : World) (g : Nat) (s : St) : Prop := w.heap[g]? = some (.cells #[.bool s.th, .bool s.own.1, .string (str s.own.2), .bool s.tg, .int .i64 s.tm, .bool s.td] T (0, 0))
theorem StB.lt {T : Nat} {w : World} {g : Nat} {s : St} (h : StB T w g s) : g < w.heap.size := (Array.getElem?_eq_some_iff.1 h).1
theorem StB.below {T : Nat} {w w' : World} {g : Nat} {s : St} (h : StB T w g s) (b : Below w.heap.size w w') : StB T w' g s := (b.block _ h.lt).trans h
theorem StB.cells {T : Nat} {w : World} {g : Nat} {s : St} (h : StB T w g s) : w.cell? ⟨g, 0, none⟩ = some (.bool s.th) ∧ w.cell? ⟨g, 1, none⟩ = some (.bool s.own.1) ∧ w.cell? ⟨g, 2, none⟩ = some (.string (str s.own.2)) ∧ w.cell? ⟨g, 3, none⟩ = some (.bool s.tg) ∧ w.cell? ⟨g, 4, none⟩ = some (.int .i64 s.tm) ∧ w.cell? ⟨g, 5, none⟩ = some (.bool s.td) :=
  ⟨by have := Lib.cell_of_heap h 0; simpa using this, by have := Lib.cell_of_heap h 1; simpa using this, by have := Lib.cell_of_heap h 2; simpa using this, by have := Lib.cell_of_heap h 3; simpa using this, by have := Lib.cell_of_heap h 4; simpa using this, by have := Lib.cell_of_heap h 5; simpa using this⟩
theorem StB.new (T : Nat) (w : World) (s : St) : StB T (w.alloc (.cells #[.bool s.th, .bool s.own.1, .string (str s.own.2), .bool s.tg, .int .i64 s.tm, .bool s.td] T)) w.heap.size s := heap_alloc_new w _

theorem any_none (ts : List Tg1) (f : Tg1 → Bool) (h : ∀ j, j < ts.length → f (nth ts j) = false) : ts.any f = false := by
  rw [List.any_eq_false]
  intro x hx
  obtain ⟨k, hk, rfl⟩ := List.mem_iff_getElem.1 hx
  have := h k hk
  unfold nth at this
  rw [List.getD_eq_getElem?_getD, List.getElem?_eq_getElem hk] at this
  simpa using this
theorem any_some (ts : List Tg1) (f : Tg1 → Bool) (k : Nat) (hk : k < ts.length) (h : f (nth ts k) = true) : ts.any f = true := by
  rw [List.any_eq_true]
  refine ⟨ts[k], List.getElem_mem _, ?_⟩
  unfold nth at h
  rw [List.getD_eq_getElem?_getD, List.getElem?_eq_getElem hk] at h
  exact h

set_option maxRecDepth 100000 in
set_option maxHeartbeats 4000000 in
theorem rmet_any (v : List UInt8) (hv : v.length ≤ 2000000000) (s : St) (strong : Bool) (w : World) :
    Calls Tryz.prog 15 #[.string (str v), .agg #[.bool s.th, .bool s.own.1, .string (str s.own.2), .bool s.tg, .int .i64 s.tm, .bool s.td], .bool strong] w fun e w' => e = .returned (.bool (metV strong v s)) ∧ Below w.heap.size w w' := by
  obtain ⟨w1, hw1⟩ : ∃ w1, w1 = w.alloc (.cells #[.bool s.th, .bool s.own.1, .string (str s.own.2), .bool s.tg, .int .i64 s.tm, .bool s.td] 38) := ⟨_, rfl⟩
  have HS1 : Hid (StB 38 w1 w.heap.size s) := by rw [hw1]; exact StB.new _ w s
  have HB1 : Hid (Below w.heap.size w w1) := by rw [hw1]; exact (Below.refl _ w).alloc (Nat.le_refl _) _
  have hz1 : w.heap.size < w1.heap.size := HS1.out.lt
  have HL : Hid (Calls _ _ _ _ _) := rList_any (str v) (by rw [str_size]; exact hv) w1
  rw [str_list] at HL
  have hlen := listT_len v
  have HM : Hid (metV strong v s = if (listT v).2.1 then s.th else (listT v).1.any fun t => s.th && (s.tg && lkX strong t s.own)) := (rfl : _ = _)
  generalize metV strong v s = M at *
  generalize listT v = LT at *
  obtain ⟨ts, star, l3, l4⟩ := LT
  dsimp only at *
  have hlv : v.length ≤ 2000000000 := hv
  generalize str v = V at *
  cases star with
  | true =>
    rw [if_pos rfl] at HM
    go_enter Tryz.func15, Tryz.ntmps15
    go_wp2_with fail
    rw [← hw1]
    refine HL.out.mono ?_
    rintro e w2 ⟨u, rfl, ho, hb2⟩
    have HB2 : Hid (Below w.heap.size w w2) := HB1.out.trans (hb2.mono HB1.out.size)
    obtain ⟨k0, k1, k2, k3, k4, k5⟩ := (HS1.out.below hb2).cells
    clear hb2 ho hw1
    go_wp2
    go_ret
    rw [HM.out]
    exact ⟨rfl, HB2.out⟩
  | false =>
    rw [if_neg (by decide)] at HM
    go_enter Tryz.func15, Tryz.ntmps15
    go_wp2_with fail
    rw [← hw1]
    refine HL.out.mono ?_
    rintro e w2 ⟨u, rfl, ho, hb2⟩
    have HB2 : Hid (Below w.heap.size w w2) := HB1.out.trans (hb2.mono HB1.out.size)
    have HS2 : Hid (StB 38 w2 w.heap.size s) := HS1.out.below hb2
    have HO2 : Hid (RdT u ts w2) := ho.rd
    obtain ⟨ua, uc, rfl, _⟩ := ho.rd
    have hz2 : w1.heap.size ≤ w2.heap.size := hb2.size
    clear hb2 ho hw1 HS1 HB1 HL
    go_wp2
    go_loopw [25] (fun i wr => ∃ k : Nat, k ≤ ts.length ∧ i = .int .i64 k ∧ Hid (∀ j, j < k → (s.th && (s.tg && lkX strong (nth ts j) s.own)) = false) ∧ Hid (Below w2.heap.size w2 wr)) (fun i _ => ts.length - (intOf i).toNat)
    case atStart => exact ⟨0, Nat.zero_le _, rfl, (fun j hj => absurd hj (Nat.not_lt_zero _) : ∀ j, j < 0 → _), Below.refl _ _⟩
    case round =>
      obtain ⟨k, hk, rfl, hA, hW⟩ := hrel
      have hsz := hW.out.size
      by_cases hlt : k < ts.length
      · obtain ⟨a', c', e', hcs⟩ := HO2.out
        injection e' with ea' el' ec'
        rcases hcs with hcs | ⟨g, o, hga, hcap, hcell⟩
        · rw [hcs] at hlt; simp at hlt
        rw [hga] at ea'
        subst ea'
        obtain ⟨c0, c1⟩ := hcell k hlt
        have hg : g < w2.heap.size := World.block_lt_of_cell? w2 _ c0
        have d0 := (hW.out.cell (p := ⟨g, o + k * 2, none⟩) hg).trans c0
        have d1 := (hW.out.cell (p := ⟨g, o + k * 2 + 1, none⟩) hg).trans c1
        have HAn : Hid ((s.th && (s.tg && lkX strong (nth ts k) s.own)) = false → ∀ j, j < k + 1 → (s.th && (s.tg && lkX strong (nth ts j) s.own)) = false) := fun h j hj => by
          by_cases e : j = k
          · rw [e]; exact h
          · exact hA.out j (by omega)
        have HAy : Hid ((s.th && (s.tg && lkX strong (nth ts k) s.own)) = true → M = true) := fun h => by
          rw [HM.out]; exact any_some ts _ k hlt h
        have HSr : Hid (StB 38 wr w.heap.size s) := HS2.out.below hW.out
        have hgz : g < wr.heap.size := by omega
        clear hcell c0 c1 hcap el' ec'
        have HX : Hid (_) := @rStrong_any (nth ts k) s.own
        have HY : Hid (_) := @rAlike_any (nth ts k) s.own
        generalize nth ts k = p at *
        obtain ⟨pb, pt⟩ := p
        dsimp only at d0 d1 HX HY
        generalize str pt = PT at *
        obtain ⟨wt, hwt⟩ : ∃ wt, wt = wr.alloc (.cells #[.bool pb, .string PT] 36) := ⟨_, rfl⟩
        have Rt : Hid (wt.heap[wr.heap.size]? = some (.cells #[.bool pb, .string PT] 36 (0, 0))) := by rw [hwt]; exact heap_alloc_new wr _
        have HWt : Hid (Below w2.heap.size w2 wt) := by rw [hwt]; exact hW.out.alloc hsz _
        have HSt : Hid (StB 38 wt w.heap.size s) := HS2.out.below HWt.out
        obtain ⟨q0, q1, q2, q3, q4, q5⟩ := HSr.out.cells
        have hsl : w.heap.size < wr.heap.size := HSr.out.lt
        have hsn : w.heap.size ≠ wr.heap.size := by omega
        obtain ⟨th, own, tg, tm, td⟩ := s
        obtain ⟨ob, ot⟩ := own
        dsimp only at *
        generalize str ot = OT at *
        cases th with
        | false =>
          have HAk : Hid (∀ j, j < k + 1 → (false && (tg && lkX strong (nth ts j) (ob, ot))) = false) := HAn.out rfl
          have HWf : Hid (Below w2.heap.size w2 (wr.alloc (.cells #[.bool pb, .string PT] 36))) := hW.out.alloc hsz _
          clear hwt
          go_wp2
          go_roundw
          case rel => exact ⟨k + 1, by omega, by go_num, HAk, HWf⟩
          case measure => simp [intOf]; omega
        | true =>
          cases tg with
          | false =>
            have HAk : Hid (∀ j, j < k + 1 → (true && (false && lkX strong (nth ts j) (ob, ot))) = false) := HAn.out rfl
            have HWf : Hid (Below w2.heap.size w2 (wr.alloc (.cells #[.bool pb, .string PT] 36))) := hW.out.alloc hsz _
            clear hwt
            go_wp2
            go_roundw
            case rel => exact ⟨k + 1, by omega, by go_num, HAk, HWf⟩
            case measure => simp [intOf]; omega
          | true =>
            cases strong with
            | true =>
              go_wp2_with fail
              rw [← hwt]
              refine (HX.out _).mono ?_
              rintro e w4 ⟨rfl, hb4⟩
              have HW4 : Hid (Below w2.heap.size w2 w4) := HWt.out.trans (hb4.mono HWt.out.size)
              clear hb4 hwt
              cases hq : lkS (pb, pt) (ob, ot) with
              | true =>
                have hM : M = true := HAy.out (by rw [lkX_t, hq]; rfl)
                clear hq
                go_wp2
                go_ret
                rw [hM]
                exact ⟨rfl, HB2.out.trans (HW4.out.mono HB2.out.size)⟩
              | false =>
                have HAk : Hid (∀ j, j < k + 1 → (true && (true && lkX true (nth ts j) (ob, ot))) = false) := HAn.out (by rw [lkX_t, hq]; rfl)
                clear hq
                go_wp2
                go_roundw
                case rel => exact ⟨k + 1, by omega, by go_num, HAk, HW4⟩
                case measure => simp [intOf]; omega
            | false =>
              go_wp2_with fail
              rw [← hwt]
              refine (HY.out _).mono ?_
              rintro e w4 ⟨rfl, hb4⟩
              have HW4 : Hid (Below w2.heap.size w2 w4) := HWt.out.trans (hb4.mono HWt.out.size)
              clear hb4 hwt
              cases hq : lkA (pb, pt) (ob, ot) with
              | true =>
                have hM : M = true := HAy.out (by rw [lkX_f, hq]; rfl)
                clear hq
                go_wp2
                go_ret
                rw [hM]
                exact ⟨rfl, HB2.out.trans (HW4.out.mono HB2.out.size)⟩
              | false =>
                have HAk : Hid (∀ j, j < k + 1 → (true && (true && lkX false (nth ts j) (ob, ot))) = false) := HAn.out (by rw [lkX_f, hq]; rfl)
                clear hq
                go_wp2
                go_roundw
                case rel => exact ⟨k + 1, by omega, by go_num, HAk, HW4⟩
                case measure => simp [intOf]; omega
      · obtain rfl : k = ts.length := by omega
        have hM : M = false := by rw [HM.out]; exact any_none ts _ hA.out
        go_wp2
        go_ret
        rw [hM]
        exact ⟨rfl, HB2.out.trans (hW.out.mono HB2.out.size)⟩

end Tt
end Go.Proofs.YtjngpafokkjkdaaGreatDoor

/-
  The document's Decide (written by mktrk.py).
-/
set_option linter.unusedVariables false
set_option linter.unusedSimpArgs false
namespace Go.Proofs.YtjngpafokkjkdaaGreatDoor
open Go.RowKit Go.Shelf
namespace Tt
open Oc Tg

set_option maxRecDepth 100000 in
set_option maxHeartbeats 4000000 in
theorem rDecide_any (m : List UInt8) (fv : Value) (fs : List Fd.Fl) (s : St) (now : Int) (hnow : Bs.I64 now) (htm : -9223372036854775808 ≤ s.tm ∧ s.tm ≤ 9223372036854775807) (w : World) (hrd : Fd.RdF fv fs w) (hsum : Fd.sumF fs ≤ 1048576) :
    Calls Tryz.prog 7 #[.string (str m), fv, .agg #[.bool s.th, .bool s.own.1, .string (str s.own.2), .bool s.tg, .int .i64 s.tm, .bool s.td], .int .i64 now] w fun e w' => e = .returned (.int .i64 (rdecV m fs s now)) ∧ Below w.heap.size w w' := by
  obtain ⟨w1, hw1⟩ : ∃ w1, w1 = w.alloc (.cells #[.bool s.th, .bool s.own.1, .string (str s.own.2), .bool s.tg, .int .i64 s.tm, .bool s.td] 38) := ⟨_, rfl⟩
  have HS1 : Hid (StB 38 w1 w.heap.size s) := by rw [hw1]; exact StB.new _ w s
  have HB1 : Hid (Below w.heap.size w w1) := by rw [hw1]; exact (Below.refl _ w).alloc (Nat.le_refl _) _
  have HR1 : Hid (Fd.RdF fv fs w1) := hrd.below HB1.out
  obtain ⟨fa, fc, rfl, _⟩ := hrd
  have HJ1 : Hid (∀ W, Fd.RdF (.slice fa fs.length fc) fs W → _) := fun W h => Fd.rJoined_any _ fs sMatch (by decide) hsum W h
  have HJ2 : Hid (∀ W, Fd.RdF (.slice fa fs.length fc) fs W → _) := fun W h => Fd.rJoined_any _ fs sNone (by decide) hsum W h
  have HD1 : Hid (∀ W, Fd.RdF (.slice fa fs.length fc) fs W → _) := fun W h => rDate_any sUnmod (by decide) _ fs now hnow W h hsum
  have HD2 : Hid (∀ W, Fd.RdF (.slice fa fs.length fc) fs W → _) := fun W h => rDate_any sMod (by decide) _ fs now hnow W h hsum
  have z1 := join_size (n := sMatch) hsum
  have z2 := join_size (n := sNone) hsum
  rw [str_size] at z1 z2
  have HM1 : Hid (∀ W, _) := fun W => rmet_any (joinF (Fd.vals sMatch fs)) z1 s true W
  have HM2 : Hid (∀ W, _) := fun W => rmet_any (joinF (Fd.vals sNone fs)) z2 s false W
  have HDe : Hid (rdecV m fs s now = if decide (0 < (Fd.vals sMatch fs).length) = true then (if metV true (joinF (Fd.vals sMatch fs)) s = false then 412 else rendV m fs s now) else if ((rdateV sUnmod fs now).2 && (s.th && (s.td && decide ((rdateV sUnmod fs now).1 < s.tm)))) = true then 412 else rendV m fs s now) := by
    show _ = _
    unfold rdecV
    simp only [decide_eq_true_eq]
  have HRe : Hid (rendV m fs s now = if decide (0 < (Fd.vals sNone fs).length) = true then (if metV false (joinF (Fd.vals sNone fs)) s = true then (if readsM m = true then 304 else 412) else 0) else if (readsM m && ((rdateV sMod fs now).2 && (s.th && (s.td && decide (s.tm ≤ (rdateV sMod fs now).1))))) = true then 304 else 0) := by
    show _ = _
    unfold rendV
    simp only [decide_eq_true_eq]
  have q1 := eq_lit m [71, 69, 84]
  have q2 := eq_lit m [72, 69, 65, 68]
  have HRd : Hid (readsM m = (decide (m = [71, 69, 84]) || decide (m = [72, 69, 65, 68]))) := (rfl : _ = _)
  generalize rdecV m fs s now = RD at *
  generalize rendV m fs s now = RE at *
  generalize readsM m = rm at *
  generalize decide (0 < (Fd.vals sMatch fs).length) = H1 at *
  generalize decide (0 < (Fd.vals sNone fs).length) = H2 at *
  generalize metV true (joinF (Fd.vals sMatch fs)) s = M1 at *
  generalize metV false (joinF (Fd.vals sNone fs)) s = M2 at *
  generalize str (joinF (Fd.vals sMatch fs)) = J1 at *
  generalize str (joinF (Fd.vals sNone fs)) = J2 at *
  generalize rdateV sUnmod fs now = D1 at *
  generalize rdateV sMod fs now = D2 at *
  obtain ⟨D1t, D1b⟩ := D1
  obtain ⟨D2t, D2b⟩ := D2
  have HSc : Hid (∀ W, Below w1.heap.size w1 W → _) := fun W hb => (HS1.out.below hb).cells
  have HRr : Hid (∀ W, Below w1.heap.size w1 W → Fd.RdF (.slice fa fs.length fc) fs W) := fun W hb => HR1.out.below hb
  obtain ⟨th, own, tg, tm, td⟩ := s
  obtain ⟨ob, ot⟩ := own
  dsimp only at *
  have e1 : str sMatch = ⟨#[73, 102, 45, 77, 97, 116, 99, 104]⟩ := rfl
  have e2 : str sNone = ⟨#[73, 102, 45, 78, 111, 110, 101, 45, 77, 97, 116, 99, 104]⟩ := rfl
  have e3 : str sUnmod = ⟨#[73, 102, 45, 85, 110, 109, 111, 100, 105, 102, 105, 101, 100, 45, 83, 105, 110, 99, 101]⟩ := rfl
  have e4 : str sMod = ⟨#[73, 102, 45, 77, 111, 100, 105, 102, 105, 101, 100, 45, 83, 105, 110, 99, 101]⟩ := rfl
  rw [e1] at HJ1
  rw [e2] at HJ2
  rw [e3] at HD1
  rw [e4] at HD2
  generalize hQ1 : decide (m = [71, 69, 84]) = b1 at *
  generalize hQ2 : decide (m = [72, 69, 65, 68]) = b2 at *
  generalize str m = MM at *
  generalize str ot = OT at *
  clear hQ1 hQ2 e1 e2 e3 e4 z1 z2 HS1 hsum
  go_enter Tryz.func7, Tryz.ntmps7
  go_upto_region 1 with fail
  rw [← hw1]
  go_cut [9] from 10 (fun s9 wx => s9 = .bool rm ∧ wx = w1)
  case first =>
    cases b1 with
    | true =>
      have hr : rm = true := HRd.out
      clear q2
      go_wp2_with fail
      go_meet
      case rel => exact ⟨by rw [hr], hw1.symm⟩
    | false =>
      have hr : rm = b2 := HRd.out
      go_wp2_with fail
      go_meet
      case rel => exact ⟨by rw [hr], hw1.symm⟩
  case rest =>
  obtain ⟨rfl, hwc⟩ := hcut
  rw [hwc]
  clear hwc q1 q2 hw1
  go_wp2_with fail
  refine (HJ1.out _ HR1.out).mono ?_
  rintro e w2 ⟨rfl, hb2⟩
  have HB2 : Hid (Below w1.heap.size w1 w2) := hb2
  clear hb2
  go_upto_if 28 with fail
  go_cut [] from 10 (fun wx => Hid (Below w1.heap.size w1 wx) ∧ Hid (RD = RE))
  case first =>
    cases H1 with
    | true =>
      rw [if_pos rfl] at HDe
      obtain ⟨k0, k1, k2, k3, k4, k5⟩ := HSc.out w2 HB2.out
      go_wp2_with fail
      refine (HM1.out _).mono ?_
      rintro e w3 ⟨rfl, hb3⟩
      have HB3 : Hid (Below w1.heap.size w1 w3) := HB2.out.trans (hb3.mono HB2.out.size)
      clear hb3 k0 k1 k2 k3 k4 k5
      cases M1 with
      | false =>
        rw [if_pos rfl] at HDe
        go_wp2
        go_ret
        rw [HDe.out]
        exact ⟨rfl, HB1.out.trans (HB3.out.mono HB1.out.size)⟩
      | true =>
        rw [if_neg (by decide)] at HDe
        go_wp2_with fail
        go_meet
        case rel => exact ⟨HB3, HDe⟩
    | false =>
      rw [if_neg (by decide)] at HDe
      go_wp2_with fail
      refine (HD1.out _ (HRr.out _ HB2.out)).mono ?_
      rintro e w3 ⟨rfl, hb3⟩
      have HB3 : Hid (Below w1.heap.size w1 w3) := HB2.out.trans (hb3.mono HB2.out.size)
      clear hb3
      obtain ⟨k0, k1, k2, k3, k4, k5⟩ := HSc.out w3 HB3.out
      cases D1b with
      | false =>
        have HX : Hid (RD = RE) := (by rw [HDe.out]; simp : RD = RE)
        go_wp2_with fail
        go_meet
        case rel => exact ⟨HB3, HX⟩
      | true =>
        cases th with
        | false =>
          have HX : Hid (RD = RE) := (by rw [HDe.out]; simp : RD = RE)
          go_wp2_with fail
          go_meet
          case rel => exact ⟨HB3, HX⟩
        | true =>
          cases td with
          | false =>
            have HX : Hid (RD = RE) := (by rw [HDe.out]; simp : RD = RE)
            go_wp2_with fail
            go_meet
            case rel => exact ⟨HB3, HX⟩
          | true =>
            by_cases hc : D1t < tm
            · have hX : RD = 412 := by rw [HDe.out]; simp [hc]
              go_wp2
              go_ret
              rw [hX]
              exact ⟨rfl, HB1.out.trans (HB3.out.mono HB1.out.size)⟩
            · have HX : Hid (RD = RE) := (by rw [HDe.out]; simp [hc] : RD = RE)
              go_wp2_with fail
              go_meet
              case rel => exact ⟨HB3, HX⟩
  case rest =>
  obtain ⟨HBc, HX⟩ := hcut
  clear HDe HB2
  go_wp2_with fail
  refine (HJ2.out _ (HRr.out _ HBc.out)).mono ?_
  rintro e w4 ⟨rfl, hb4⟩
  have HB4 : Hid (Below w1.heap.size w1 w4) := HBc.out.trans (hb4.mono HBc.out.size)
  clear hb4 HBc
  cases H2 with
  | true =>
    rw [if_pos rfl] at HRe
    obtain ⟨k0, k1, k2, k3, k4, k5⟩ := HSc.out w4 HB4.out
    go_wp2_with fail
    refine (HM2.out _).mono ?_
    rintro e w5 ⟨rfl, hb5⟩
    have HB5 : Hid (Below w1.heap.size w1 w5) := HB4.out.trans (hb5.mono HB4.out.size)
    clear hb5 k0 k1 k2 k3 k4 k5
    cases M2 with
    | false =>
      rw [if_neg (by decide)] at HRe
      go_wp2
      go_ret
      rw [HX.out, HRe.out]
      exact ⟨rfl, HB1.out.trans (HB5.out.mono HB1.out.size)⟩
    | true =>
      rw [if_pos rfl] at HRe
      cases rm with
      | true =>
        rw [if_pos rfl] at HRe
        go_wp2
        go_ret
        rw [HX.out, HRe.out]
        exact ⟨rfl, HB1.out.trans (HB5.out.mono HB1.out.size)⟩
      | false =>
        rw [if_neg (by decide)] at HRe
        go_wp2
        go_ret
        rw [HX.out, HRe.out]
        exact ⟨rfl, HB1.out.trans (HB5.out.mono HB1.out.size)⟩
  | false =>
    rw [if_neg (by decide)] at HRe
    go_wp2_with fail
    refine (HD2.out _ (HRr.out _ HB4.out)).mono ?_
    rintro e w5 ⟨rfl, hb5⟩
    have HB5 : Hid (Below w1.heap.size w1 w5) := HB4.out.trans (hb5.mono HB4.out.size)
    clear hb5
    obtain ⟨k0, k1, k2, k3, k4, k5⟩ := HSc.out w5 HB5.out
    cases rm with
    | false =>
      have hX : RE = 0 := by rw [HRe.out]; simp
      go_wp2
      go_ret
      rw [HX.out, hX]
      exact ⟨rfl, HB1.out.trans (HB5.out.mono HB1.out.size)⟩
    | true =>
      cases D2b with
      | false =>
        have hX : RE = 0 := by rw [HRe.out]; simp
        go_wp2
        go_ret
        rw [HX.out, hX]
        exact ⟨rfl, HB1.out.trans (HB5.out.mono HB1.out.size)⟩
      | true =>
        cases th with
        | false =>
          have hX : RE = 0 := by rw [HRe.out]; simp
          go_wp2
          go_ret
          rw [HX.out, hX]
          exact ⟨rfl, HB1.out.trans (HB5.out.mono HB1.out.size)⟩
        | true =>
          cases td with
          | false =>
            have hX : RE = 0 := by rw [HRe.out]; simp
            go_wp2
            go_ret
            rw [HX.out, hX]
            exact ⟨rfl, HB1.out.trans (HB5.out.mono HB1.out.size)⟩
          | true =>
            by_cases hc : tm ≤ D2t
            · have hX : RE = 304 := by rw [HRe.out]; simp [hc]
              go_wp2
              go_ret
              rw [HX.out, hX]
              exact ⟨rfl, HB1.out.trans (HB5.out.mono HB1.out.size)⟩
            · have hX : RE = 0 := by rw [HRe.out]; simp [hc]
              go_wp2
              go_ret
              rw [HX.out, hX]
              exact ⟨rfl, HB1.out.trans (HB5.out.mono HB1.out.size)⟩

end Tt
end Go.Proofs.YtjngpafokkjkdaaGreatDoor

/-
  The law's own plain and state (written by mktlw.py).
-/
set_option linter.unusedVariables false
set_option linter.unusedSimpArgs false
namespace Go.Proofs.YtjngpafokkjkdaaGreatDoor
open Go.RowKit Go.Shelf
namespace Fd
open Oc Tg

set_option maxRecDepth 100000 in
set_option maxHeartbeats 2000000 in
theorem plain8_any (v : Value) (t : List Fl) (w : World) (h : RdF v t w) (hl : t.length ≤ 16777216) :
    Calls Tryz.prog 8 #[v] w fun e w' => ∃ u, e = .returned u ∧ OwnF 56 w.heap.size u t w' ∧ Below w.heap.size w w' := by
  have HR : Hid (RdF v t w) := h
  obtain ⟨a, c, rfl, _⟩ := h
  go_enter Tryz.func8, Tryz.ntmps8
  go_wp2
  go_loopw [3, 8] (fun ov i wr => ∃ k : Nat, k ≤ t.length ∧ i = .int .i64 k ∧ Hid (OwnF 56 w.heap.size ov (t.take k) wr) ∧ Hid (Below w.heap.size w wr)) (fun _ i _ => t.length - (intOf i).toNat)
  case atStart => exact ⟨0, Nat.zero_le _, rfl, ownF_nil _ _ _, Below.refl _ _⟩
  case round =>
    obtain ⟨k, hk, rfl, hown, hbl⟩ := hrel
    have hsz := hbl.out.size
    by_cases hlt : k < t.length
    · obtain ⟨a', c', e', hcs⟩ := HR.out.below hbl.out
      injection e' with e1 _ e2
      subst e1 e2
      rcases hcs with h | ⟨g, o, rfl, hlc, hcell⟩
      · rw [h] at hlt; simp at hlt
      obtain ⟨p0, p1⟩ := hcell k hlt
      have HTk : Hid (t.take (k + 1) = t.take k ++ [nth t k]) := take_nth t k hlt
      have hlk : (t.take k).length + 1 ≤ 2147483648 := by rw [List.length_take]; omega
      generalize nth t k = p at *
      obtain ⟨pn, pv⟩ := p
      dsimp only at p0 p1
      generalize hn : str pn = N at p0
      generalize hv : str pv = V at p1
      have HN : Hid (N = str pn) := hn.symm
      have HV : Hid (V = str pv) := hv.symm
      have hb1 : Below wr.heap.size wr (wr.alloc (.cells #[.string N, .string V] 31)) := (Below.refl _ wr).alloc (Nat.le_refl _) _
      have HO1 : Hid (OwnF 56 w.heap.size _ (t.take k) (wr.alloc (.cells #[.string N, .string V] 31))) := hown.out.below hb1
      have HB1 : Hid (Below w.heap.size w (wr.alloc (.cells #[.string N, .string V] 31))) := bel_trans hbl.out hb1
      have hs1 : w.heap.size ≤ (wr.alloc (.cells #[.string N, .string V] 31)).heap.size := HB1.out.size
      clear hcell hn hv hb1
      go_wp2_with (at_builtin; go_must (refine wp_appF 56 34 infoF2 Tryz.underlying34 rfl (.tmp 12) (.tmp 18) rfl w.heap.size _ (t.take k) _ (pn, pv) _ _ HN.out HV.out rfl HO1.out _ rfl (by simp) hlk hs1 ?_); intro v6 w6 hown6 hb6)
      have HO6 : Hid (OwnF 56 w.heap.size v6 (t.take (k + 1)) w6) := (by rw [HTk.out]; exact hown6 : OwnF _ _ v6 (t.take (k + 1)) w6)
      have HB6 : Hid (Below w.heap.size w w6) := HB1.out.trans hb6
      clear hown6 hb6
      go_roundw
      case rel => exact ⟨k + 1, by omega, by go_num, HO6, HB6⟩
      case measure => simp [intOf]; omega
    · obtain rfl : k = t.length := by omega
      rw [List.take_length] at hown
      go_wp2
      go_ret
      exact ⟨_, rfl, hown.out, hbl.out⟩


end Fd

namespace Tt
open Oc Tg

set_option maxRecDepth 100000 in
set_option maxHeartbeats 4000000 in
theorem state8_any (s : St) (w : World) :
    Calls Tryz.prog 9 #[.agg #[.bool s.th, .bool s.own.1, .string (str s.own.2), .bool s.tg, .int .i64 s.tm, .bool s.td]] w fun e w' => e = .returned (.agg #[.bool s.th, .bool s.own.1, .string (str s.own.2), .bool s.tg, .int .i64 s.tm, .bool s.td]) ∧ Below w.heap.size w w' := by
  obtain ⟨th, own, tg, tm, td⟩ := s
  obtain ⟨ob, ot⟩ := own
  dsimp only
  generalize str ot = OT at *
  obtain ⟨w1, hw1⟩ : ∃ w1, w1 = w.alloc (.cells #[.bool th, .bool ob, .string OT, .bool tg, .int .i64 tm, .bool td] 28) := ⟨_, rfl⟩
  obtain ⟨w2, hw2⟩ : ∃ w2, w2 = w1.alloc (.cells #[.bool false, .bool false, .string ⟨#[]⟩, .bool false, .int .i64 0, .bool false] 38) := ⟨_, rfl⟩
  have z1 : w1.heap.size = w.heap.size + 1 := by rw [hw1]; simp
  have HB2 : Hid (Below w.heap.size w w2) := (by rw [hw2, hw1]; exact ((Below.refl _ w).alloc (Nat.le_refl _) _).alloc (by simp) _ : Below _ _ _)
  have R0 : w2.heap[w.heap.size]? = some (.cells #[.bool th, .bool ob, .string OT, .bool tg, .int .i64 tm, .bool td] 28 (0, 0)) := by
    rw [hw2, Lib.alloc_old w1 _ _ (by omega), hw1]; exact heap_alloc_new w _
  have R1 : w2.heap[w.heap.size + 1]? = some (.cells #[.bool false, .bool false, .string ⟨#[]⟩, .bool false, .int .i64 0, .bool false] 38 (0, 0)) := by
    rw [hw2, ← z1]; exact heap_alloc_new w1 _
  have HK : Hid (∀ W : World, Below w2.heap.size w2 W → (W.cell? ⟨w.heap.size, 0, none⟩ = some (.bool th) ∧ W.cell? ⟨w.heap.size, 1, none⟩ = some (.bool ob) ∧ W.cell? ⟨w.heap.size, 2, none⟩ = some (.string OT) ∧ W.cell? ⟨w.heap.size, 3, none⟩ = some (.bool tg) ∧ W.cell? ⟨w.heap.size, 4, none⟩ = some (.int .i64 tm) ∧ W.cell? ⟨w.heap.size, 5, none⟩ = some (.bool td))) := fun W hb => by
    have R := (hb.block _ (Array.getElem?_eq_some_iff.1 R0).1).trans R0
    exact ⟨by have := Lib.cell_of_heap R 0; simpa using this, by have := Lib.cell_of_heap R 1; simpa using this, by have := Lib.cell_of_heap R 2; simpa using this, by have := Lib.cell_of_heap R 3; simpa using this, by have := Lib.cell_of_heap R 4; simpa using this, by have := Lib.cell_of_heap R 5; simpa using this⟩
  have HR : Hid (∀ W : World, Below w2.heap.size w2 W → W.heap[w.heap.size + 1]? = some (.cells #[.bool false, .bool false, .string ⟨#[]⟩, .bool false, .int .i64 0, .bool false] 38 (0, 0))) := fun W hb => (hb.block _ (Array.getElem?_eq_some_iff.1 R1).1).trans R1
  have HKd : Hid (∀ W : World, (W.cell? ⟨w.heap.size, 0, none⟩ = some (.bool th) ∧ W.cell? ⟨w.heap.size, 1, none⟩ = some (.bool ob) ∧ W.cell? ⟨w.heap.size, 2, none⟩ = some (.string OT) ∧ W.cell? ⟨w.heap.size, 3, none⟩ = some (.bool tg) ∧ W.cell? ⟨w.heap.size, 4, none⟩ = some (.int .i64 tm) ∧ W.cell? ⟨w.heap.size, 5, none⟩ = some (.bool td)) → (W.drew.cell? ⟨w.heap.size, 0, none⟩ = some (.bool th) ∧ W.drew.cell? ⟨w.heap.size, 1, none⟩ = some (.bool ob) ∧ W.drew.cell? ⟨w.heap.size, 2, none⟩ = some (.string OT) ∧ W.drew.cell? ⟨w.heap.size, 3, none⟩ = some (.bool tg) ∧ W.drew.cell? ⟨w.heap.size, 4, none⟩ = some (.int .i64 tm) ∧ W.drew.cell? ⟨w.heap.size, 5, none⟩ = some (.bool td))) := fun W h => h
  have HKs : Hid (∀ (W : World) (i : Nat) (v : Value), (W.cell? ⟨w.heap.size, 0, none⟩ = some (.bool th) ∧ W.cell? ⟨w.heap.size, 1, none⟩ = some (.bool ob) ∧ W.cell? ⟨w.heap.size, 2, none⟩ = some (.string OT) ∧ W.cell? ⟨w.heap.size, 3, none⟩ = some (.bool tg) ∧ W.cell? ⟨w.heap.size, 4, none⟩ = some (.int .i64 tm) ∧ W.cell? ⟨w.heap.size, 5, none⟩ = some (.bool td)) → ((W.setCell ⟨w.heap.size + 1, i, none⟩ v).cell? ⟨w.heap.size, 0, none⟩ = some (.bool th) ∧ (W.setCell ⟨w.heap.size + 1, i, none⟩ v).cell? ⟨w.heap.size, 1, none⟩ = some (.bool ob) ∧ (W.setCell ⟨w.heap.size + 1, i, none⟩ v).cell? ⟨w.heap.size, 2, none⟩ = some (.string OT) ∧ (W.setCell ⟨w.heap.size + 1, i, none⟩ v).cell? ⟨w.heap.size, 3, none⟩ = some (.bool tg) ∧ (W.setCell ⟨w.heap.size + 1, i, none⟩ v).cell? ⟨w.heap.size, 4, none⟩ = some (.int .i64 tm) ∧ (W.setCell ⟨w.heap.size + 1, i, none⟩ v).cell? ⟨w.heap.size, 5, none⟩ = some (.bool td))) := fun W i v h => by
    obtain ⟨h0, h1, h2, h3, h4, h5⟩ := h
    refine ⟨?_, ?_, ?_, ?_, ?_, ?_⟩
    all_goals
      rw [World.cell?_of_block (w := W) (heap_setCell_other W _ _ _ (by simp))]
      assumption
  have HBn : Hid (Below w2.heap.size w2 w2) := Below.refl _ _
  have HRf : Hid (∀ W, _) := fun W => ref_any ob OT W
  have k0 := HK.out w2 (Below.refl _ _)
  have r1 := HR.out w2 (Below.refl _ _)
  have hbd : Hid (Below w2.heap.size w2 w2.drew) := ⟨rfl, rfl, rfl, Nat.le_refl _, fun _ _ => rfl⟩
  have d0 := HK.out w2.drew hbd.out
  have r2 := HR.out w2.drew hbd.out
  obtain ⟨k0, k1, k2, k3, k4, k5⟩ := k0
  obtain ⟨d0, d1, d2, d3, d4, d5⟩ := d0
  clear R0 R1
  go_enter Tryz.func9, Tryz.ntmps9
  go_wp2_with fail
  rw [← hw1, ← hw2]
  clear hw1 hw2
  go_region_held3 (fun W => (W.cell? ⟨w.heap.size, 0, none⟩ = some (.bool th) ∧ W.cell? ⟨w.heap.size, 1, none⟩ = some (.bool ob) ∧ W.cell? ⟨w.heap.size, 2, none⟩ = some (.string OT) ∧ W.cell? ⟨w.heap.size, 3, none⟩ = some (.bool tg) ∧ W.cell? ⟨w.heap.size, 4, none⟩ = some (.int .i64 tm) ∧ W.cell? ⟨w.heap.size, 5, none⟩ = some (.bool td))) (first | with_reducible exact HK.out _ HBn.out | with_reducible exact HK.out _ hbd.out | ((try with_reducible refine HKd.out _ ?_); (repeat (with_reducible refine HKs.out _ _ _ ?_)); with_reducible exact HK.out _ HBn.out)) (first | (go_at_call 17; refine (HRf.out _).mono ?_; rintro e wn ⟨rfl, hbn⟩; have HBn : Hid (Below w2.heap.size w2 wn) := bel_trans hbd.out hbn; have rn := HR.out _ HBn.out; have f0 := Lib.frozen_of_heap rn 0; have f1 := Lib.frozen_of_heap rn 1; have f2 := Lib.frozen_of_heap rn 2; have f3 := Lib.frozen_of_heap rn 3; have f4 := Lib.frozen_of_heap rn 4; have f5 := Lib.frozen_of_heap rn 5; have x0 := Lib.cell_of_heap rn 0; have x1 := Lib.cell_of_heap rn 1; have x2 := Lib.cell_of_heap rn 2; have x3 := Lib.cell_of_heap rn 3; have x4 := Lib.cell_of_heap rn 4; have x5 := Lib.cell_of_heap rn 5; simp at x0 x1 x2 x3 x4 x5; clear hbn rn))
  all_goals
    go_wp2
    refine bodyPost_ret (v := .agg #[.bool th, .bool ob, .string OT, .bool tg, .int .i64 tm, .bool td]) (by simp [results, Tryz.results9, go_sem, x0, x1, x2, x3, x4, x5]) rfl ?_
    refine ⟨rfl, ?_⟩
    have hbb : Below w.heap.size w wn := HB2.out.trans (HBn.out.mono HB2.out.size)
    (try (with_reducible refine Below.drew ?_))
    repeat (refine Below.setCell ?_ (by show w.heap.size ≤ w.heap.size + 1; omega) _)
    exact hbb

end Tt
end Go.Proofs.YtjngpafokkjkdaaGreatDoor
