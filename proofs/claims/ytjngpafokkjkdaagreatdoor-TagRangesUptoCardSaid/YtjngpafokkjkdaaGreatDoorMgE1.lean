/- Several texts as one. -/
import Derived.Test.YtjngpafokkjkdaaGreatDoorMgW
import Derived.Test.YtjngpafokkjkdaaGreatDoorMgD1
import Derived.Deep.Cut
import Derived.Test.YtjngpafokkjkdaaGreatDoorMgG
/-
  The document's met.
-/
set_option linter.unusedVariables false
set_option linter.unusedSimpArgs false
namespace Go.Proofs.YtjngpafokkjkdaaGreatDoor
open Go.RowKit Go.Shelf
namespace Tt
open Oc Tg

/-- A state in a block. -/
def StB (T : Nat) (w : World) (g : Nat) (s : St) : Prop := w.heap[g]? = some (.cells #[.bool s.th, .bool s.own.1, .string (str s.own.2), .bool s.tg, .int .i64 s.tm, .bool s.td] T (0, 0))
theorem StB.lt {T : Nat} {w : World} {g : Nat} {s : St} (h : StB T w g s) : g < w.heap.size := (Array.getElem?_eq_some_iff.1 h).1
theorem StB.below {T : Nat} {w w' : World} {g : Nat} {s : St} (h : StB T w g s) (b : Below w.heap.size w w') : StB T w' g s := (b.block _ h.lt).trans h
theorem StB.cells {T : Nat} {w : World} {g : Nat} {s : St} (h : StB T w g s) : w.cell? ⟨g, 0, none⟩ = some (.bool s.th) ∧ w.cell? ⟨g, 1, none⟩ = some (.bool s.own.1) ∧ w.cell? ⟨g, 2, none⟩ = some (.string (str s.own.2)) ∧ w.cell? ⟨g, 3, none⟩ = some (.bool s.tg) ∧ w.cell? ⟨g, 4, none⟩ = some (.int .i64 s.tm) ∧ w.cell? ⟨g, 5, none⟩ = some (.bool s.td) :=
  ⟨by have := Lib.cell_of_heap h 0; simpa using this, by have := Lib.cell_of_heap h 1; simpa using this, by have := Lib.cell_of_heap h 2; simpa using this, by have := Lib.cell_of_heap h 3; simpa using this, by have := Lib.cell_of_heap h 4; simpa using this, by have := Lib.cell_of_heap h 5; simpa using this⟩
theorem StB.new (T : Nat) (w : World) (s : St) : StB T (w.alloc (.cells #[.bool s.th, .bool s.own.1, .string (str s.own.2), .bool s.tg, .int .i64 s.tm, .bool s.td] T)) w.heap.size s := heap_alloc_new w _

theorem any_none (ts : List Tg1) (f : Tg1 → Bool) (h : ∀ j, j < ts.length → f (nth ts j) = false) : ts.any f = false := by
  rw [List.any_eq_false]
  intro x hx
  obtain ⟨k, hk, rfl⟩ := List.mem_iff_getElem.1 hx
  have := h k hk
  unfold nth at this
  rw [List.getD_eq_getElem?_getD, List.getElem?_eq_getElem hk] at this
  simpa using this
theorem any_some (ts : List Tg1) (f : Tg1 → Bool) (k : Nat) (hk : k < ts.length) (h : f (nth ts k) = true) : ts.any f = true := by
  rw [List.any_eq_true]
  refine ⟨ts[k], List.getElem_mem _, ?_⟩
  unfold nth at h
  rw [List.getD_eq_getElem?_getD, List.getElem?_eq_getElem hk] at h
  exact h

set_option maxRecDepth 100000 in
set_option maxHeartbeats 4000000 in
theorem rmet_any (v : List UInt8) (hv : v.length ≤ 2000000000) (s : St) (strong : Bool) (w : World) :
    Calls Tryz.prog 15 #[.string (str v), .agg #[.bool s.th, .bool s.own.1, .string (str s.own.2), .bool s.tg, .int .i64 s.tm, .bool s.td], .bool strong] w fun e w' => e = .returned (.bool (metV strong v s)) ∧ Below w.heap.size w w' := by
  obtain ⟨w1, hw1⟩ : ∃ w1, w1 = w.alloc (.cells #[.bool s.th, .bool s.own.1, .string (str s.own.2), .bool s.tg, .int .i64 s.tm, .bool s.td] 38) := ⟨_, rfl⟩
  have HS1 : Hid (StB 38 w1 w.heap.size s) := by rw [hw1]; exact StB.new _ w s
  have HB1 : Hid (Below w.heap.size w w1) := by rw [hw1]; exact (Below.refl _ w).alloc (Nat.le_refl _) _
  have hz1 : w.heap.size < w1.heap.size := HS1.out.lt
  have HL : Hid (Calls _ _ _ _ _) := rList_any (str v) (by rw [str_size]; exact hv) w1
  rw [str_list] at HL
  have hlen := listT_len v
  have HM : Hid (metV strong v s = if (listT v).2.1 then s.th else (listT v).1.any fun t => s.th && (s.tg && lkX strong t s.own)) := (rfl : _ = _)
  generalize metV strong v s = M at *
  generalize listT v = LT at *
  obtain ⟨ts, star, l3, l4⟩ := LT
  dsimp only at *
  have hlv : v.length ≤ 2000000000 := hv
  generalize str v = V at *
  cases star with
  | true =>
    rw [if_pos rfl] at HM
    go_enter Tryz.func15, Tryz.ntmps15
    go_wp2_with fail
    rw [← hw1]
    refine HL.out.mono ?_
    rintro e w2 ⟨u, rfl, ho, hb2⟩
    have HB2 : Hid (Below w.heap.size w w2) := HB1.out.trans (hb2.mono HB1.out.size)
    obtain ⟨k0, k1, k2, k3, k4, k5⟩ := (HS1.out.below hb2).cells
    clear hb2 ho hw1
    go_wp2
    go_ret
    rw [HM.out]
    exact ⟨rfl, HB2.out⟩
  | false =>
    rw [if_neg (by decide)] at HM
    go_enter Tryz.func15, Tryz.ntmps15
    go_wp2_with fail
    rw [← hw1]
    refine HL.out.mono ?_
    rintro e w2 ⟨u, rfl, ho, hb2⟩
    have HB2 : Hid (Below w.heap.size w w2) := HB1.out.trans (hb2.mono HB1.out.size)
    have HS2 : Hid (StB 38 w2 w.heap.size s) := HS1.out.below hb2
    have HO2 : Hid (RdT u ts w2) := ho.rd
    obtain ⟨ua, uc, rfl, _⟩ := ho.rd
    have hz2 : w1.heap.size ≤ w2.heap.size := hb2.size
    clear hb2 ho hw1 HS1 HB1 HL
    go_wp2
    go_loopw [25] (fun i wr => ∃ k : Nat, k ≤ ts.length ∧ i = .int .i64 k ∧ Hid (∀ j, j < k → (s.th && (s.tg && lkX strong (nth ts j) s.own)) = false) ∧ Hid (Below w2.heap.size w2 wr)) (fun i _ => ts.length - (intOf i).toNat)
    case atStart => exact ⟨0, Nat.zero_le _, rfl, (fun j hj => absurd hj (Nat.not_lt_zero _) : ∀ j, j < 0 → _), Below.refl _ _⟩
    case round =>
      obtain ⟨k, hk, rfl, hA, hW⟩ := hrel
      have hsz := hW.out.size
      by_cases hlt : k < ts.length
      · obtain ⟨a', c', e', hcs⟩ := HO2.out
        injection e' with ea' el' ec'
        rcases hcs with hcs | ⟨g, o, hga, hcap, hcell⟩
        · rw [hcs] at hlt; simp at hlt
        rw [hga] at ea'
        subst ea'
        obtain ⟨c0, c1⟩ := hcell k hlt
        have hg : g < w2.heap.size := World.block_lt_of_cell? w2 _ c0
        have d0 := (hW.out.cell (p := ⟨g, o + k * 2, none⟩) hg).trans c0
        have d1 := (hW.out.cell (p := ⟨g, o + k * 2 + 1, none⟩) hg).trans c1
        have HAn : Hid ((s.th && (s.tg && lkX strong (nth ts k) s.own)) = false → ∀ j, j < k + 1 → (s.th && (s.tg && lkX strong (nth ts j) s.own)) = false) := fun h j hj => by
          by_cases e : j = k
          · rw [e]; exact h
          · exact hA.out j (by omega)
        have HAy : Hid ((s.th && (s.tg && lkX strong (nth ts k) s.own)) = true → M = true) := fun h => by
          rw [HM.out]; exact any_some ts _ k hlt h
        have HSr : Hid (StB 38 wr w.heap.size s) := HS2.out.below hW.out
        have hgz : g < wr.heap.size := by omega
        clear hcell c0 c1 hcap el' ec'
        have HX : Hid (_) := @rStrong_any (nth ts k) s.own
        have HY : Hid (_) := @rAlike_any (nth ts k) s.own
        generalize nth ts k = p at *
        obtain ⟨pb, pt⟩ := p
        dsimp only at d0 d1 HX HY
        generalize str pt = PT at *
        obtain ⟨wt, hwt⟩ : ∃ wt, wt = wr.alloc (.cells #[.bool pb, .string PT] 36) := ⟨_, rfl⟩
        have Rt : Hid (wt.heap[wr.heap.size]? = some (.cells #[.bool pb, .string PT] 36 (0, 0))) := by rw [hwt]; exact heap_alloc_new wr _
        have HWt : Hid (Below w2.heap.size w2 wt) := by rw [hwt]; exact hW.out.alloc hsz _
        have HSt : Hid (StB 38 wt w.heap.size s) := HS2.out.below HWt.out
        obtain ⟨q0, q1, q2, q3, q4, q5⟩ := HSr.out.cells
        have hsl : w.heap.size < wr.heap.size := HSr.out.lt
        have hsn : w.heap.size ≠ wr.heap.size := by omega
        obtain ⟨th, own, tg, tm, td⟩ := s
        obtain ⟨ob, ot⟩ := own
        dsimp only at *
        generalize str ot = OT at *
        cases th with
        | false =>
          have HAk : Hid (∀ j, j < k + 1 → (false && (tg && lkX strong (nth ts j) (ob, ot))) = false) := HAn.out rfl
          have HWf : Hid (Below w2.heap.size w2 (wr.alloc (.cells #[.bool pb, .string PT] 36))) := hW.out.alloc hsz _
          clear hwt
          go_wp2
          go_roundw
          case rel => exact ⟨k + 1, by omega, by go_num, HAk, HWf⟩
          case measure => simp [intOf]; omega
        | true =>
          cases tg with
          | false =>
            have HAk : Hid (∀ j, j < k + 1 → (true && (false && lkX strong (nth ts j) (ob, ot))) = false) := HAn.out rfl
            have HWf : Hid (Below w2.heap.size w2 (wr.alloc (.cells #[.bool pb, .string PT] 36))) := hW.out.alloc hsz _
            clear hwt
            go_wp2
            go_roundw
            case rel => exact ⟨k + 1, by omega, by go_num, HAk, HWf⟩
            case measure => simp [intOf]; omega
          | true =>
            cases strong with
            | true =>
              go_wp2_with fail
              rw [← hwt]
              refine (HX.out _).mono ?_
              rintro e w4 ⟨rfl, hb4⟩
              have HW4 : Hid (Below w2.heap.size w2 w4) := HWt.out.trans (hb4.mono HWt.out.size)
              clear hb4 hwt
              cases hq : lkS (pb, pt) (ob, ot) with
              | true =>
                have hM : M = true := HAy.out (by rw [lkX_t, hq]; rfl)
                clear hq
                go_wp2
                go_ret
                rw [hM]
                exact ⟨rfl, HB2.out.trans (HW4.out.mono HB2.out.size)⟩
              | false =>
                have HAk : Hid (∀ j, j < k + 1 → (true && (true && lkX true (nth ts j) (ob, ot))) = false) := HAn.out (by rw [lkX_t, hq]; rfl)
                clear hq
                go_wp2
                go_roundw
                case rel => exact ⟨k + 1, by omega, by go_num, HAk, HW4⟩
                case measure => simp [intOf]; omega
            | false =>
              go_wp2_with fail
              rw [← hwt]
              refine (HY.out _).mono ?_
              rintro e w4 ⟨rfl, hb4⟩
              have HW4 : Hid (Below w2.heap.size w2 w4) := HWt.out.trans (hb4.mono HWt.out.size)
              clear hb4 hwt
              cases hq : lkA (pb, pt) (ob, ot) with
              | true =>
                have hM : M = true := HAy.out (by rw [lkX_f, hq]; rfl)
                clear hq
                go_wp2
                go_ret
                rw [hM]
                exact ⟨rfl, HB2.out.trans (HW4.out.mono HB2.out.size)⟩
              | false =>
                have HAk : Hid (∀ j, j < k + 1 → (true && (true && lkX false (nth ts j) (ob, ot))) = false) := HAn.out (by rw [lkX_f, hq]; rfl)
                clear hq
                go_wp2
                go_roundw
                case rel => exact ⟨k + 1, by omega, by go_num, HAk, HW4⟩
                case measure => simp [intOf]; omega
      · obtain rfl : k = ts.length := by omega
        have hM : M = false := by rw [HM.out]; exact any_none ts _ hA.out
        go_wp2
        go_ret
        rw [hM]
        exact ⟨rfl, HB2.out.trans (hW.out.mono HB2.out.size)⟩

end Tt
end Go.Proofs.YtjngpafokkjkdaaGreatDoor

/-
  The document's Decide (written by mktrk.py).
-/
set_option linter.unusedVariables false
set_option linter.unusedSimpArgs false
namespace Go.Proofs.YtjngpafokkjkdaaGreatDoor
open Go.RowKit Go.Shelf
namespace Tt
open Oc Tg

set_option maxRecDepth 100000 in
set_option maxHeartbeats 4000000 in
theorem rDecide_any (m : List UInt8) (fv : Value) (fs : List Fd.Fl) (s : St) (now : Int) (hnow : Bs.I64 now) (htm : -9223372036854775808 ≤ s.tm ∧ s.tm ≤ 9223372036854775807) (w : World) (hrd : Fd.RdF fv fs w) (hsum : Fd.sumF fs ≤ 1048576) :
    Calls Tryz.prog 7 #[.string (str m), fv, .agg #[.bool s.th, .bool s.own.1, .string (str s.own.2), .bool s.tg, .int .i64 s.tm, .bool s.td], .int .i64 now] w fun e w' => e = .returned (.int .i64 (rdecV m fs s now)) ∧ Below w.heap.size w w' := by
  obtain ⟨w1, hw1⟩ : ∃ w1, w1 = w.alloc (.cells #[.bool s.th, .bool s.own.1, .string (str s.own.2), .bool s.tg, .int .i64 s.tm, .bool s.td] 38) := ⟨_, rfl⟩
  have HS1 : Hid (StB 38 w1 w.heap.size s) := by rw [hw1]; exact StB.new _ w s
  have HB1 : Hid (Below w.heap.size w w1) := by rw [hw1]; exact (Below.refl _ w).alloc (Nat.le_refl _) _
  have HR1 : Hid (Fd.RdF fv fs w1) := hrd.below HB1.out
  obtain ⟨fa, fc, rfl, _⟩ := hrd
  have HJ1 : Hid (∀ W, Fd.RdF (.slice fa fs.length fc) fs W → _) := fun W h => Fd.rJoined_any _ fs sMatch (by decide) hsum W h
  have HJ2 : Hid (∀ W, Fd.RdF (.slice fa fs.length fc) fs W → _) := fun W h => Fd.rJoined_any _ fs sNone (by decide) hsum W h
  have HD1 : Hid (∀ W, Fd.RdF (.slice fa fs.length fc) fs W → _) := fun W h => rDate_any sUnmod (by decide) _ fs now hnow W h hsum
  have HD2 : Hid (∀ W, Fd.RdF (.slice fa fs.length fc) fs W → _) := fun W h => rDate_any sMod (by decide) _ fs now hnow W h hsum
  have z1 := join_size (n := sMatch) hsum
  have z2 := join_size (n := sNone) hsum
  rw [str_size] at z1 z2
  have HM1 : Hid (∀ W, _) := fun W => rmet_any (joinF (Fd.vals sMatch fs)) z1 s true W
  have HM2 : Hid (∀ W, _) := fun W => rmet_any (joinF (Fd.vals sNone fs)) z2 s false W
  have HDe : Hid (rdecV m fs s now = if decide (0 < (Fd.vals sMatch fs).length) = true then (if metV true (joinF (Fd.vals sMatch fs)) s = false then 412 else rendV m fs s now) else if ((rdateV sUnmod fs now).2 && (s.th && (s.td && decide ((rdateV sUnmod fs now).1 < s.tm)))) = true then 412 else rendV m fs s now) := by
    show _ = _
    unfold rdecV
    simp only [decide_eq_true_eq]
  have HRe : Hid (rendV m fs s now = if decide (0 < (Fd.vals sNone fs).length) = true then (if metV false (joinF (Fd.vals sNone fs)) s = true then (if readsM m = true then 304 else 412) else 0) else if (readsM m && ((rdateV sMod fs now).2 && (s.th && (s.td && decide (s.tm ≤ (rdateV sMod fs now).1))))) = true then 304 else 0) := by
    show _ = _
    unfold rendV
    simp only [decide_eq_true_eq]
  have q1 := eq_lit m [71, 69, 84]
  have q2 := eq_lit m [72, 69, 65, 68]
  have HRd : Hid (readsM m = (decide (m = [71, 69, 84]) || decide (m = [72, 69, 65, 68]))) := (rfl : _ = _)
  generalize rdecV m fs s now = RD at *
  generalize rendV m fs s now = RE at *
  generalize readsM m = rm at *
  generalize decide (0 < (Fd.vals sMatch fs).length) = H1 at *
  generalize decide (0 < (Fd.vals sNone fs).length) = H2 at *
  generalize metV true (joinF (Fd.vals sMatch fs)) s = M1 at *
  generalize metV false (joinF (Fd.vals sNone fs)) s = M2 at *
  generalize str (joinF (Fd.vals sMatch fs)) = J1 at *
  generalize str (joinF (Fd.vals sNone fs)) = J2 at *
  generalize rdateV sUnmod fs now = D1 at *
  generalize rdateV sMod fs now = D2 at *
  obtain ⟨D1t, D1b⟩ := D1
  obtain ⟨D2t, D2b⟩ := D2
  have HSc : Hid (∀ W, Below w1.heap.size w1 W → _) := fun W hb => (HS1.out.below hb).cells
  have HRr : Hid (∀ W, Below w1.heap.size w1 W → Fd.RdF (.slice fa fs.length fc) fs W) := fun W hb => HR1.out.below hb
  obtain ⟨th, own, tg, tm, td⟩ := s
  obtain ⟨ob, ot⟩ := own
  dsimp only at *
  have e1 : str sMatch = ⟨#[73, 102, 45, 77, 97, 116, 99, 104]⟩ := rfl
  have e2 : str sNone = ⟨#[73, 102, 45, 78, 111, 110, 101, 45, 77, 97, 116, 99, 104]⟩ := rfl
  have e3 : str sUnmod = ⟨#[73, 102, 45, 85, 110, 109, 111, 100, 105, 102, 105, 101, 100, 45, 83, 105, 110, 99, 101]⟩ := rfl
  have e4 : str sMod = ⟨#[73, 102, 45, 77, 111, 100, 105, 102, 105, 101, 100, 45, 83, 105, 110, 99, 101]⟩ := rfl
  rw [e1] at HJ1
  rw [e2] at HJ2
  rw [e3] at HD1
  rw [e4] at HD2
  generalize hQ1 : decide (m = [71, 69, 84]) = b1 at *
  generalize hQ2 : decide (m = [72, 69, 65, 68]) = b2 at *
  generalize str m = MM at *
  generalize str ot = OT at *
  clear hQ1 hQ2 e1 e2 e3 e4 z1 z2 HS1 hsum
  go_enter Tryz.func7, Tryz.ntmps7
  go_upto_region 1 with fail
  rw [← hw1]
  go_cut [9] from 10 (fun s9 wx => s9 = .bool rm ∧ wx = w1)
  case first =>
    cases b1 with
    | true =>
      have hr : rm = true := HRd.out
      clear q2
      go_wp2_with fail
      go_meet
      case rel => exact ⟨by rw [hr], hw1.symm⟩
    | false =>
      have hr : rm = b2 := HRd.out
      go_wp2_with fail
      go_meet
      case rel => exact ⟨by rw [hr], hw1.symm⟩
  case rest =>
  obtain ⟨rfl, hwc⟩ := hcut
  rw [hwc]
  clear hwc q1 q2 hw1
  go_wp2_with fail
  refine (HJ1.out _ HR1.out).mono ?_
  rintro e w2 ⟨rfl, hb2⟩
  have HB2 : Hid (Below w1.heap.size w1 w2) := hb2
  clear hb2
  go_upto_if 28 with fail
  go_cut [] from 10 (fun wx => Hid (Below w1.heap.size w1 wx) ∧ Hid (RD = RE))
  case first =>
    cases H1 with
    | true =>
      rw [if_pos rfl] at HDe
      obtain ⟨k0, k1, k2, k3, k4, k5⟩ := HSc.out w2 HB2.out
      go_wp2_with fail
      refine (HM1.out _).mono ?_
      rintro e w3 ⟨rfl, hb3⟩
      have HB3 : Hid (Below w1.heap.size w1 w3) := HB2.out.trans (hb3.mono HB2.out.size)
      clear hb3 k0 k1 k2 k3 k4 k5
      cases M1 with
      | false =>
        rw [if_pos rfl] at HDe
        go_wp2
        go_ret
        rw [HDe.out]
        exact ⟨rfl, HB1.out.trans (HB3.out.mono HB1.out.size)⟩
      | true =>
        rw [if_neg (by decide)] at HDe
        go_wp2_with fail
        go_meet
        case rel => exact ⟨HB3, HDe⟩
    | false =>
      rw [if_neg (by decide)] at HDe
      go_wp2_with fail
      refine (HD1.out _ (HRr.out _ HB2.out)).mono ?_
      rintro e w3 ⟨rfl, hb3⟩
      have HB3 : Hid (Below w1.heap.size w1 w3) := HB2.out.trans (hb3.mono HB2.out.size)
      clear hb3
      obtain ⟨k0, k1, k2, k3, k4, k5⟩ := HSc.out w3 HB3.out
      cases D1b with
      | false =>
        have HX : Hid (RD = RE) := (by rw [HDe.out]; simp : RD = RE)
        go_wp2_with fail
        go_meet
        case rel => exact ⟨HB3, HX⟩
      | true =>
        cases th with
        | false =>
          have HX : Hid (RD = RE) := (by rw [HDe.out]; simp : RD = RE)
          go_wp2_with fail
          go_meet
          case rel => exact ⟨HB3, HX⟩
        | true =>
          cases td with
          | false =>
            have HX : Hid (RD = RE) := (by rw [HDe.out]; simp : RD = RE)
            go_wp2_with fail
            go_meet
            case rel => exact ⟨HB3, HX⟩
          | true =>
            by_cases hc : D1t < tm
            · have hX : RD = 412 := by rw [HDe.out]; simp [hc]
              go_wp2
              go_ret
              rw [hX]
              exact ⟨rfl, HB1.out.trans (HB3.out.mono HB1.out.size)⟩
            · have HX : Hid (RD = RE) := (by rw [HDe.out]; simp [hc] : RD = RE)
              go_wp2_with fail
              go_meet
              case rel => exact ⟨HB3, HX⟩
  case rest =>
  obtain ⟨HBc, HX⟩ := hcut
  clear HDe HB2
  go_wp2_with fail
  refine (HJ2.out _ (HRr.out _ HBc.out)).mono ?_
  rintro e w4 ⟨rfl, hb4⟩
  have HB4 : Hid (Below w1.heap.size w1 w4) := HBc.out.trans (hb4.mono HBc.out.size)
  clear hb4 HBc
  cases H2 with
  | true =>
    rw [if_pos rfl] at HRe
    obtain ⟨k0, k1, k2, k3, k4, k5⟩ := HSc.out w4 HB4.out
    go_wp2_with fail
    refine (HM2.out _).mono ?_
    rintro e w5 ⟨rfl, hb5⟩
    have HB5 : Hid (Below w1.heap.size w1 w5) := HB4.out.trans (hb5.mono HB4.out.size)
    clear hb5 k0 k1 k2 k3 k4 k5
    cases M2 with
    | false =>
      rw [if_neg (by decide)] at HRe
      go_wp2
      go_ret
      rw [HX.out, HRe.out]
      exact ⟨rfl, HB1.out.trans (HB5.out.mono HB1.out.size)⟩
    | true =>
      rw [if_pos rfl] at HRe
      cases rm with
      | true =>
        rw [if_pos rfl] at HRe
        go_wp2
        go_ret
        rw [HX.out, HRe.out]
        exact ⟨rfl, HB1.out.trans (HB5.out.mono HB1.out.size)⟩
      | false =>
        rw [if_neg (by decide)] at HRe
        go_wp2
        go_ret
        rw [HX.out, HRe.out]
        exact ⟨rfl, HB1.out.trans (HB5.out.mono HB1.out.size)⟩
  | false =>
    rw [if_neg (by decide)] at HRe
    go_wp2_with fail
    refine (HD2.out _ (HRr.out _ HB4.out)).mono ?_
    rintro e w5 ⟨rfl, hb5⟩
    have HB5 : Hid (Below w1.heap.size w1 w5) := HB4.out.trans (hb5.mono HB4.out.size)
    clear hb5
    obtain ⟨k0, k1, k2, k3, k4, k5⟩ := HSc.out w5 HB5.out
    cases rm with
    | false =>
      have hX : RE = 0 := by rw [HRe.out]; simp
      go_wp2
      go_ret
      rw [HX.out, hX]
      exact ⟨rfl, HB1.out.trans (HB5.out.mono HB1.out.size)⟩
    | true =>
      cases D2b with
      | false =>
        have hX : RE = 0 := by rw [HRe.out]; simp
        go_wp2
        go_ret
        rw [HX.out, hX]
        exact ⟨rfl, HB1.out.trans (HB5.out.mono HB1.out.size)⟩
      | true =>
        cases th with
        | false =>
          have hX : RE = 0 := by rw [HRe.out]; simp
          go_wp2
          go_ret
          rw [HX.out, hX]
          exact ⟨rfl, HB1.out.trans (HB5.out.mono HB1.out.size)⟩
        | true =>
          cases td with
          | false =>
            have hX : RE = 0 := by rw [HRe.out]; simp
            go_wp2
            go_ret
            rw [HX.out, hX]
            exact ⟨rfl, HB1.out.trans (HB5.out.mono HB1.out.size)⟩
          | true =>
            by_cases hc : tm ≤ D2t
            · have hX : RE = 304 := by rw [HRe.out]; simp [hc]
              go_wp2
              go_ret
              rw [HX.out, hX]
              exact ⟨rfl, HB1.out.trans (HB5.out.mono HB1.out.size)⟩
            · have hX : RE = 0 := by rw [HRe.out]; simp [hc]
              go_wp2
              go_ret
              rw [HX.out, hX]
              exact ⟨rfl, HB1.out.trans (HB5.out.mono HB1.out.size)⟩

end Tt
end Go.Proofs.YtjngpafokkjkdaaGreatDoor

/-
  Ranged: the program's and the document's (written by mktrg.py).
-/
set_option linter.unusedVariables false
set_option linter.unusedSimpArgs false
namespace Go.Proofs.YtjngpafokkjkdaaGreatDoor
open Go.RowKit Go.Shelf
namespace Tt
open Oc Tg

theorem one_of {V : List (List UInt8)} (h0 : ¬ V.length = 0) (h1 : ¬ 1 < V.length) : ∃ v, V = [v] := List.length_eq_one_iff.1 (by omega)
theorem rng_r (fs : List Fd.Fl) (s : St) (now : Int) (hth : s.th = true) : ((dateV sRange fs s now).2 && decide (s.tm = (dateV sRange fs s now).1)) = ((rdateV sRange fs now).2 && (s.td && decide (s.tm = (rdateV sRange fs now).1))) := by
  rw [date_r]
  cases htd : s.td with
  | true => rw [if_pos ⟨hth, rfl⟩]; simp
  | false => rw [if_neg (fun h => by cases h.2)]; simp


set_option maxRecDepth 100000 in
set_option maxHeartbeats 4000000 in
theorem Ranged_any (fv : Value) (fs : List Fd.Fl) (s : St) (now : Int) (hnow : Bs.I64 now) (htm : -9223372036854775808 ≤ s.tm ∧ s.tm ≤ 9223372036854775807) (w : World) (hrd : Fd.RdF fv fs w) (hsum : Fd.sumF fs ≤ 1048576) (hml : Fd.ML w) (tb : Bs.Tb w) :
    Calls Tryz.prog 10 #[fv, .agg #[.bool s.th, .bool s.own.1, .string (str s.own.2), .bool s.tg, .int .i64 s.tm, .bool s.td], .int .i64 now] w fun e w' => e = .returned (.bool (rngV fs s now)) ∧ Below w.heap.size w w' := by
  obtain ⟨w1, hw1⟩ : ∃ w1, w1 = w.alloc (.cells #[.bool s.th, .bool s.own.1, .string (str s.own.2), .bool s.tg, .int .i64 s.tm, .bool s.td] 28) := ⟨_, rfl⟩
  have HS1 : Hid (StB 28 w1 w.heap.size s) := by rw [hw1]; exact StB.new _ w s
  have HB1 : Hid (Below w.heap.size w w1) := by rw [hw1]; exact (Below.refl _ w).alloc (Nat.le_refl _) _
  have HR1 : Hid (Fd.RdF fv fs w1) := hrd.below HB1.out
  have hlen := Fd.len_sumF fs
  have HA : Hid (Calls _ _ _ _ _) := Fd.All_any fv fs sRange (by decide) ((Fd.each_sumF fs).mono hsum) (by omega) w1 HR1.out
  have h1 := Fd.sumV_filter sRange fs
  have HSc : Hid (∀ W, Below w1.heap.size w1 W → _) := fun W hb => (HS1.out.below hb).cells
  have HD : Hid (∀ g W, Below w1.heap.size w1 W → AB W g [] fv s now → _) := fun g W hb ha => date_any sRange (by decide) (g := g) (m := []) (fv := fv) (fs := fs) (s := s) (now := now) (w := W) ⟨ha, HR1.out.below hb, hsum, (hml.below HB1.out).below hb⟩ hnow ((tb.bel HB1.out).bel hb)
  obtain ⟨fa, fc, rfl, _⟩ := hrd
  have e1 : str sRange = ⟨#[73, 102, 45, 82, 97, 110, 103, 101]⟩ := rfl
  rw [e1] at HA HD
  have hvl : (Fd.vals sRange fs).length ≤ 16777216 := by omega
  by_cases h0 : (Fd.vals sRange fs).length = 0
  · have hG : rngV fs s now = true := by unfold rngV; rw [if_pos h0]
    generalize rngV fs s now = G at *
    generalize Fd.vals sRange fs = V at *
    have hl2 : ((V.length : Int) == 0) = true := by simp [h0]
    clear hsum hlen h1 HD HSc
    go_enter Tryz.func10, Tryz.ntmps10
    go_wp2_with fail
    rw [← hw1]
    refine HA.out.mono ?_
    rintro e w2 ⟨u, rfl, ho, hb2⟩
    obtain ⟨ua, uc, rfl⟩ := ho.form
    have HB2 : Hid (Below w.heap.size w w2) := HB1.out.trans (hb2.mono HB1.out.size)
    clear hb2 ho hw1
    go_wp2
    go_ret
    rw [hG]
    exact ⟨rfl, HB2.out⟩
  by_cases hm : 1 < (Fd.vals sRange fs).length
  · have hG : rngV fs s now = false := by unfold rngV; rw [if_neg h0, if_pos (.inl hm)]
    generalize rngV fs s now = G at *
    generalize Fd.vals sRange fs = V at *
    have hl2 : ((V.length : Int) == 0) = false := by rw [beq_eq_false_iff_ne]; omega
    have hl3 : (1 : Int) < (V.length : Int) := by omega
    clear hsum hlen h1 HD HSc h0
    go_enter Tryz.func10, Tryz.ntmps10
    go_wp2_with fail
    rw [← hw1]
    refine HA.out.mono ?_
    rintro e w2 ⟨u, rfl, ho, hb2⟩
    obtain ⟨ua, uc, rfl⟩ := ho.form
    have HB2 : Hid (Below w.heap.size w w2) := HB1.out.trans (hb2.mono HB1.out.size)
    clear hb2 ho hw1
    go_wp2
    go_ret
    rw [hG]
    exact ⟨rfl, HB2.out⟩
  obtain ⟨v, hv⟩ := one_of h0 hm
  have hvz : v.length ≤ 1048576 := by
    rw [hv] at h1
    simp [Fd.sumV] at h1
    omega
  have htl := trim_len v
  have HT : Hid (∀ W, _) := fun W => Trim_any (str v) (by rw [str_size]; unfold maxLen; omega) W
  have HP : Hid (∀ W, _) := fun W => Parse_any (str (trim v)) (by rw [str_size]; omega) W
  rw [str_list] at HT HP
  have HX : Hid (∀ W, _) := fun W => Strong_any (parseT (trim v)).1 s.own W
  have hdv : ∀ hth : s.th = true, rngV fs s now = if (parseT (trim v)).2.2 = 0 then (s.tg && lkS (parseT (trim v)).1 s.own) else ((dateV sRange fs s now).2 && decide (s.tm = (dateV sRange fs s now).1)) := fun hth => by
    unfold rngV
    rw [if_neg h0, if_neg (fun h => h.elim hm (fun h => by rw [hth] at h; cases h)), hv]
    
    rfl
  have hno : s.th = false → rngV fs s now = false := fun h => by unfold rngV; rw [if_neg h0, if_pos (.inr h)]
  rw [hv] at HA
  generalize rngV fs s now = G at *
  generalize dateV sRange fs s now = D at *
  obtain ⟨Dt, Db⟩ := D
  clear hsum hlen h1 h0 hm hv hvl e1
  generalize parseT (trim v) = PT at *
  obtain ⟨⟨pb, pt⟩, pn, pe⟩ := PT
  generalize lkS (pb, pt) s.own = LK at *
  generalize str (trim v) = TV at *
  obtain ⟨th, own, tg, tm, td⟩ := s
  obtain ⟨ob, ot⟩ := own
  dsimp only at *
  generalize str pt = PS at *
  have hl1 : ([v] : List (List UInt8)).length = 1 := rfl
  generalize hsv : str v = SV at *
  cases th with
  | false =>
    have hG : G = false := hno rfl
    go_enter Tryz.func10, Tryz.ntmps10
    go_wp2_with fail
    rw [← hw1]
    refine HA.out.mono ?_
    rintro e w2 ⟨u, rfl, ho, hb2⟩
    have HB2 : Hid (Below w.heap.size w w2) := HB1.out.trans (hb2.mono HB1.out.size)
    obtain ⟨k0, k1, k2, k3, k4, k5⟩ := HSc.out w2 hb2
    obtain ⟨ua, uc, rfl⟩ := ho.form
    clear hb2 ho hw1
    go_wp2
    go_ret
    rw [hG]
    exact ⟨rfl, HB2.out⟩
  | true =>
    have HG : Hid (G = _) := hdv rfl
    clear hdv hno
    go_enter Tryz.func10, Tryz.ntmps10
    go_wp2_with fail
    rw [← hw1]
    refine HA.out.mono ?_
    rintro e w2 ⟨u, rfl, ho, hb2⟩
    have HB2 : Hid (Below w1.heap.size w1 w2) := hb2
    obtain ⟨k0, k1, k2, k3, k4, k5⟩ := HSc.out w2 hb2
    obtain ⟨ua, uc, rfl, hcs⟩ := ho.rd
    rcases hcs with hh | ⟨g2, o2, rfl, hlc, hcell⟩
    · cases hh
    have q0 := hcell 0 (by simp)
    clear hcell hb2 ho hw1
    simp only [Nat.add_zero] at q0
    rw [show ([v] : List (List UInt8)).getD 0 [] = v from rfl, hsv] at q0
    go_wp2_with fail
    refine (HT.out _).mono ?_
    rintro e w3 ⟨rfl, hb3⟩
    have HB3 : Hid (Below w1.heap.size w1 w3) := HB2.out.trans (hb3.mono HB2.out.size)
    clear hb3 k0 k1 k2 k3 k4 k5 q0
    go_wp2_with fail
    refine (HP.out _).mono ?_
    rintro e w4 ⟨rfl, hb4⟩
    have HB4 : Hid (Below w1.heap.size w1 w4) := HB3.out.trans (hb4.mono HB3.out.size)
    clear hb4
    obtain ⟨k0, k1, k2, k3, k4, k5⟩ := HSc.out w4 HB4.out
    obtain ⟨wt, hwt⟩ : ∃ wt, wt = w4.alloc (.cells #[.bool pb, .string PS] 26) := ⟨_, rfl⟩
    have HBt : Hid (Below w1.heap.size w1 wt) := by rw [hwt]; exact HB4.out.alloc HB4.out.size _
    have hsl : w.heap.size < w4.heap.size := by have := HB4.out.size; have := HS1.out.lt; omega
    by_cases hpe : pe = 0
    · rw [if_pos hpe] at HG
      subst hpe
      cases tg with
      | false =>
        have hG : G = false := HG.out
        have HBf : Hid (Below w.heap.size w (w4.alloc (.cells #[.bool pb, .string PS] 26))) := by rw [← hwt]; exact HB1.out.trans (HBt.out.mono HB1.out.size)
        clear hwt
        go_wp2
        go_ret
        rw [hG]
        exact ⟨rfl, HBf.out⟩
      | true =>
        have hG : G = LK := by rw [HG.out]; simp
        go_wp2_with fail
        rw [← hwt]
        refine (HX.out _).mono ?_
        rintro e w5 ⟨rfl, hb5⟩
        have HB5 : Hid (Below w1.heap.size w1 w5) := HBt.out.trans (hb5.mono HBt.out.size)
        clear hb5 hwt
        go_wp2
        go_ret
        rw [hG]
        exact ⟨rfl, HB1.out.trans (HB5.out.mono HB1.out.size)⟩
    · rw [if_neg hpe] at HG
      have hpe' : (pe == 0) = false := by simp [hpe]
      obtain ⟨wa, hwa⟩ : ∃ wa, wa = wt.alloc (.cells #[.string ⟨#[]⟩, .slice fa fs.length fc, .bool true, .bool ob, .string (str ot), .bool tg, .int .i64 tm, .bool td, .int .i64 now] 47) := ⟨_, rfl⟩
      have HBa : Hid (Below w1.heap.size w1 wa) := by rw [hwa]; exact HBt.out.alloc HBt.out.size _
      have zt : wt.heap.size = w4.heap.size + 1 := by rw [hwt]; simp
      have HAb : Hid (AB wa (w4.heap.size + 1) [] (.slice fa fs.length fc) ⟨true, (ob, ot), tg, tm, td⟩ now) := (by unfold AB; rw [hwa, ← zt]; exact heap_alloc_new wt _ : AB _ _ _ _ _ _)
      clear zt
      generalize str ot = OT at *
      go_wp2_with fail
      rw [← hwt, ← hwa]
      refine (HD.out _ _ HBa.out HAb.out).mono ?_
      rintro e w5 ⟨rfl, hb5⟩
      have HB5 : Hid (Below w1.heap.size w1 w5) := HBa.out.trans (hb5.mono HBa.out.size)
      clear hb5 hwt hwa k0 k1 k2 k3 k4 k5
      obtain ⟨k0, k1, k2, k3, k4, k5⟩ := HSc.out w5 HB5.out
      cases Db with
      | false =>
        have hG : G = false := HG.out
        go_wp2
        go_ret
        rw [hG]
        exact ⟨rfl, HB1.out.trans (HB5.out.mono HB1.out.size)⟩
      | true =>
        have hG : G = decide (tm = Dt) := by rw [HG.out]; simp
        go_wp2
        go_ret
        rw [hG]
        exact ⟨by first | rfl | (simp; rfl), HB1.out.trans (HB5.out.mono HB1.out.size)⟩


set_option maxRecDepth 100000 in
set_option maxHeartbeats 4000000 in
theorem rRanged_any (fv : Value) (fs : List Fd.Fl) (s : St) (now : Int) (hnow : Bs.I64 now) (htm : -9223372036854775808 ≤ s.tm ∧ s.tm ≤ 9223372036854775807) (w : World) (hrd : Fd.RdF fv fs w) (hsum : Fd.sumF fs ≤ 1048576) :
    Calls Tryz.prog 11 #[fv, .agg #[.bool s.th, .bool s.own.1, .string (str s.own.2), .bool s.tg, .int .i64 s.tm, .bool s.td], .int .i64 now] w fun e w' => e = .returned (.bool (rngV fs s now)) ∧ Below w.heap.size w w' := by
  obtain ⟨w1, hw1⟩ : ∃ w1, w1 = w.alloc (.cells #[.bool s.th, .bool s.own.1, .string (str s.own.2), .bool s.tg, .int .i64 s.tm, .bool s.td] 38) := ⟨_, rfl⟩
  have HS1 : Hid (StB 38 w1 w.heap.size s) := by rw [hw1]; exact StB.new _ w s
  have HB1 : Hid (Below w.heap.size w w1) := by rw [hw1]; exact (Below.refl _ w).alloc (Nat.le_refl _) _
  have HR1 : Hid (Fd.RdF fv fs w1) := hrd.below HB1.out
  have hlen := Fd.len_sumF fs
  have HA : Hid (Calls _ _ _ _ _) := Fd.rAll_any fv fs sRange (by decide) ((Fd.each_sumF fs).mono hsum) (by omega) w1 HR1.out
  have h1 := Fd.sumV_filter sRange fs
  have HSc : Hid (∀ W, Below w1.heap.size w1 W → _) := fun W hb => (HS1.out.below hb).cells
  have HD : Hid (∀ W, Below w1.heap.size w1 W → _) := fun W hb => rDate_any sRange (by decide) fv fs now hnow W (HR1.out.below hb) hsum
  obtain ⟨fa, fc, rfl, _⟩ := hrd
  have e1 : str sRange = ⟨#[73, 102, 45, 82, 97, 110, 103, 101]⟩ := rfl
  rw [e1] at HA HD
  have hvl : (Fd.vals sRange fs).length ≤ 16777216 := by omega
  by_cases h0 : (Fd.vals sRange fs).length = 0
  · have hG : rngV fs s now = true := by unfold rngV; rw [if_pos h0]
    generalize rngV fs s now = G at *
    generalize Fd.vals sRange fs = V at *
    have hl2 : ((V.length : Int) == 0) = true := by simp [h0]
    clear hsum hlen h1 HD HSc
    go_enter Tryz.func11, Tryz.ntmps11
    go_wp2_with fail
    rw [← hw1]
    refine HA.out.mono ?_
    rintro e w2 ⟨u, rfl, ho, hb2⟩
    obtain ⟨ua, uc, rfl⟩ := ho.form
    have HB2 : Hid (Below w.heap.size w w2) := HB1.out.trans (hb2.mono HB1.out.size)
    clear hb2 ho hw1
    go_wp2
    go_ret
    rw [hG]
    exact ⟨rfl, HB2.out⟩
  by_cases hm : 1 < (Fd.vals sRange fs).length
  · have hG : rngV fs s now = false := by unfold rngV; rw [if_neg h0, if_pos (.inl hm)]
    generalize rngV fs s now = G at *
    generalize Fd.vals sRange fs = V at *
    have hl2 : ((V.length : Int) == 0) = false := by rw [beq_eq_false_iff_ne]; omega
    have hl3 : (1 : Int) < (V.length : Int) := by omega
    clear hsum hlen h1 HD HSc h0
    go_enter Tryz.func11, Tryz.ntmps11
    go_wp2_with fail
    rw [← hw1]
    refine HA.out.mono ?_
    rintro e w2 ⟨u, rfl, ho, hb2⟩
    obtain ⟨ua, uc, rfl⟩ := ho.form
    have HB2 : Hid (Below w.heap.size w w2) := HB1.out.trans (hb2.mono HB1.out.size)
    clear hb2 ho hw1
    go_wp2
    go_ret
    rw [hG]
    exact ⟨rfl, HB2.out⟩
  obtain ⟨v, hv⟩ := one_of h0 hm
  have hvz : v.length ≤ 1048576 := by
    rw [hv] at h1
    simp [Fd.sumV] at h1
    omega
  have htl := trim_len v
  have HT : Hid (∀ W, _) := fun W => Fd.rTrim_any (str v) (by rw [str_size]; unfold maxLen; omega) W
  have HP : Hid (∀ W, _) := fun W => rParse_any (str (trim v)) (by rw [str_size]; omega) W
  rw [str_list] at HT HP
  have HX : Hid (∀ W, _) := fun W => rStrong_any (parseT (trim v)).1 s.own W
  have hdv : ∀ hth : s.th = true, rngV fs s now = if (parseT (trim v)).2.2 = 0 then (s.tg && lkS (parseT (trim v)).1 s.own) else ((rdateV sRange fs now).2 && (s.td && decide (s.tm = (rdateV sRange fs now).1))) := fun hth => by
    unfold rngV
    rw [if_neg h0, if_neg (fun h => h.elim hm (fun h => by rw [hth] at h; cases h)), hv]
    rw [rng_r fs s now hth]
    rfl
  have hno : s.th = false → rngV fs s now = false := fun h => by unfold rngV; rw [if_neg h0, if_pos (.inr h)]
  rw [hv] at HA
  generalize rngV fs s now = G at *
  generalize rdateV sRange fs now = D at *
  obtain ⟨Dt, Db⟩ := D
  clear hsum hlen h1 h0 hm hv hvl e1
  generalize parseT (trim v) = PT at *
  obtain ⟨⟨pb, pt⟩, pn, pe⟩ := PT
  generalize lkS (pb, pt) s.own = LK at *
  generalize str (trim v) = TV at *
  obtain ⟨th, own, tg, tm, td⟩ := s
  obtain ⟨ob, ot⟩ := own
  dsimp only at *
  generalize str pt = PS at *
  have hl1 : ([v] : List (List UInt8)).length = 1 := rfl
  generalize hsv : str v = SV at *
  cases th with
  | false =>
    have hG : G = false := hno rfl
    go_enter Tryz.func11, Tryz.ntmps11
    go_wp2_with fail
    rw [← hw1]
    refine HA.out.mono ?_
    rintro e w2 ⟨u, rfl, ho, hb2⟩
    have HB2 : Hid (Below w.heap.size w w2) := HB1.out.trans (hb2.mono HB1.out.size)
    obtain ⟨k0, k1, k2, k3, k4, k5⟩ := HSc.out w2 hb2
    obtain ⟨ua, uc, rfl⟩ := ho.form
    clear hb2 ho hw1
    go_wp2
    go_ret
    rw [hG]
    exact ⟨rfl, HB2.out⟩
  | true =>
    have HG : Hid (G = _) := hdv rfl
    clear hdv hno
    go_enter Tryz.func11, Tryz.ntmps11
    go_wp2_with fail
    rw [← hw1]
    refine HA.out.mono ?_
    rintro e w2 ⟨u, rfl, ho, hb2⟩
    have HB2 : Hid (Below w1.heap.size w1 w2) := hb2
    obtain ⟨k0, k1, k2, k3, k4, k5⟩ := HSc.out w2 hb2
    obtain ⟨ua, uc, rfl, hcs⟩ := ho.rd
    rcases hcs with hh | ⟨g2, o2, rfl, hlc, hcell⟩
    · cases hh
    have q0 := hcell 0 (by simp)
    clear hcell hb2 ho hw1
    simp only [Nat.add_zero] at q0
    rw [show ([v] : List (List UInt8)).getD 0 [] = v from rfl, hsv] at q0
    go_wp2_with fail
    refine (HT.out _).mono ?_
    rintro e w3 ⟨rfl, hw3⟩
    rw [hw3]
    clear hw3
    have HB3 : Hid (Below w1.heap.size w1 w2) := HB2.out
    go_wp2_with fail
    refine (HP.out _).mono ?_
    rintro e w4 ⟨rfl, hb4⟩
    have HB4 : Hid (Below w1.heap.size w1 w4) := HB2.out.trans (hb4.mono HB2.out.size)
    clear hb4 k0 k1 k2 k3 k4 k5 q0
    obtain ⟨k0, k1, k2, k3, k4, k5⟩ := HSc.out w4 HB4.out
    obtain ⟨wt, hwt⟩ : ∃ wt, wt = w4.alloc (.cells #[.bool pb, .string PS] 36) := ⟨_, rfl⟩
    have HBt : Hid (Below w1.heap.size w1 wt) := by rw [hwt]; exact HB4.out.alloc HB4.out.size _
    have hsl : w.heap.size < w4.heap.size := by have := HB4.out.size; have := HS1.out.lt; omega
    by_cases hpe : pe = 0
    · rw [if_pos hpe] at HG
      subst hpe
      cases tg with
      | false =>
        have hG : G = false := HG.out
        have HBf : Hid (Below w.heap.size w (w4.alloc (.cells #[.bool pb, .string PS] 36))) := by rw [← hwt]; exact HB1.out.trans (HBt.out.mono HB1.out.size)
        clear hwt
        go_wp2
        go_ret
        rw [hG]
        exact ⟨rfl, HBf.out⟩
      | true =>
        have hG : G = LK := by rw [HG.out]; simp
        go_wp2_with fail
        rw [← hwt]
        refine (HX.out _).mono ?_
        rintro e w5 ⟨rfl, hb5⟩
        have HB5 : Hid (Below w1.heap.size w1 w5) := HBt.out.trans (hb5.mono HBt.out.size)
        clear hb5 hwt
        go_wp2
        go_ret
        rw [hG]
        exact ⟨rfl, HB1.out.trans (HB5.out.mono HB1.out.size)⟩
    · rw [if_neg hpe] at HG
      have hpe' : (pe == 0) = false := by simp [hpe]
      go_wp2_with fail
      rw [← hwt]
      refine (HD.out _ HBt.out).mono ?_
      rintro e w5 ⟨rfl, hb5⟩
      have HB5 : Hid (Below w1.heap.size w1 w5) := HBt.out.trans (hb5.mono HBt.out.size)
      clear hb5 hwt k0 k1 k2 k3 k4 k5
      obtain ⟨k0, k1, k2, k3, k4, k5⟩ := HSc.out w5 HB5.out
      cases Db with
      | false =>
        have hG : G = false := HG.out
        go_wp2
        go_ret
        rw [hG]
        exact ⟨rfl, HB1.out.trans (HB5.out.mono HB1.out.size)⟩
      | true =>
        cases td with
        | false =>
          have hG : G = false := HG.out
          go_wp2
          go_ret
          rw [hG]
          exact ⟨rfl, HB1.out.trans (HB5.out.mono HB1.out.size)⟩
        | true =>
          have hG : G = decide (tm = Dt) := by rw [HG.out]; simp
          go_wp2
          go_ret
          rw [hG]
          exact ⟨by first | rfl | (simp; rfl), HB1.out.trans (HB5.out.mono HB1.out.size)⟩


end Tt
end Go.Proofs.YtjngpafokkjkdaaGreatDoor
