/- Several texts as one. -/
import Derived.Test.YtjngpafokkjkdaaGreatDoorMgR
import Derived.Test.YtjngpafokkjkdaaGreatDoorMgS
import Derived.Test.YtjngpafokkjkdaaGreatDoorRPs
import Derived.Test.YtjngpafokkjkdaaGreatDoorTDh
import Derived.Deep.Cut
import Derived.Deep.CutRange
import Derived.Deep.RegionHeld3
/-
  The document's Date.
-/
set_option linter.unusedVariables false
set_option linter.unusedSimpArgs false
namespace Go.Proofs.YtjngpafokkjkdaaGreatDoor
open Go.RowKit Go.Shelf
namespace Tt
open Oc Tg

set_option maxRecDepth 100000 in
set_option maxHeartbeats 2000000 in
theorem rDate_any (n : List UInt8) (hn : n.length ≤ 100) (fv : Value) (fs : List Fd.Fl) (now : Int) (hnow : Bs.I64 now) (w : World) (hrd : Fd.RdF fv fs w) (hsum : Fd.sumF fs ≤ 1048576) :
    Calls Tryz.prog 16 #[fv, .string (str n), .int .i64 now] w fun e w' => e = .returned (.tuple #[.int .i64 (rdateV n fs now).1, .bool (rdateV n fs now).2]) ∧ Below w.heap.size w w' := by
  have hlen := Fd.len_sumF fs
  have HA : Hid (Calls _ _ _ _ _) := Fd.rAll_any fv fs n (by omega) ((Fd.each_sumF fs).mono hsum) (by omega) w hrd
  have h1 := Fd.sumV_filter n fs
  obtain ⟨fa, fc, rfl, _⟩ := hrd
  unfold rdateV
  by_cases hl : (Fd.vals n fs).length = 1
  · rw [if_pos hl]
    obtain ⟨v, hv⟩ := List.length_eq_one_iff.1 hl
    rw [hv] at HA h1 ⊢
    have hvl : v.length ≤ 1048576 := by
      simp [Fd.sumV] at h1
      omega
    rw [show ([v] : List (List UInt8)).getD 0 [] = v from rfl]
    have HP : Hid (∀ W, Calls Tryz.prog 33 #[.string (str v), .int .i64 now] W fun e w' => e = .returned (.tuple #[.int .i64 (Bs.parseS v now).1, .int .i64 (Bs.parseS v now).2.1, .int .i64 (Bs.parseS v now).2.2.1, .int .i64 (Bs.parseS v now).2.2.2]) ∧ Below W.heap.size W w') := fun W => Bs.rParse_any v now (by omega) hnow W
    generalize Bs.parseS v now = P at *
    obtain ⟨P1, P2, P3, P4⟩ := P
    dsimp only at *
    generalize str n = N at *
    clear hsum hlen hv hl h1
    go_enter Tryz.func16, Tryz.ntmps16
    go_wp2_with fail
    refine HA.out.mono ?_
    rintro e w2 ⟨u, rfl, ho, hb2⟩
    have HB2 : Hid (Below w.heap.size w w2) := hb2
    obtain ⟨ua, uc, rfl, hcs⟩ := ho.rd
    rcases hcs with hh | ⟨g2, o2, rfl, hlc, hcell⟩
    · cases hh
    have q0 := hcell 0 (by simp)
    clear hcell hb2 ho
    simp only [Nat.add_zero] at q0
    rw [show ([v] : List (List UInt8)).getD 0 [] = v from rfl] at q0
    have hl1 : ([v] : List (List UInt8)).length = 1 := rfl
    generalize str v = V at *
    go_wp2_with fail
    refine (HP.out _).mono ?_
    rintro e w3 ⟨rfl, hb3⟩
    have HB3 : Hid (Below w.heap.size w w3) := HB2.out.trans (hb3.mono HB2.out.size)
    clear hb3
    go_wp2
    go_ret2
    exact ⟨rfl, HB3.out⟩
  · rw [if_neg hl]
    have hvl : (Fd.vals n fs).length ≤ 16777216 := by omega
    generalize Fd.vals n fs = V at *
    generalize str n = N at *
    have hl2 : ((V.length : Int) != 1) = true := by simp; omega
    clear hsum hlen h1
    go_enter Tryz.func16, Tryz.ntmps16
    go_wp2_with fail
    refine HA.out.mono ?_
    rintro e w2 ⟨u, rfl, ho, hb2⟩
    obtain ⟨ua, uc, rfl⟩ := ho.form
    have HB2 : Hid (Below w.heap.size w w2) := hb2
    clear hb2 ho
    go_wp2
    go_ret2
    exact ⟨rfl, HB2.out⟩

end Tt
end Go.Proofs.YtjngpafokkjkdaaGreatDoor

/-
  The law's own ref, same.
-/
set_option linter.unusedVariables false
set_option linter.unusedSimpArgs false
namespace Go.Proofs.YtjngpafokkjkdaaGreatDoor
open Go.RowKit Go.Shelf
namespace Tt
open Oc Tg

set_option maxRecDepth 100000 in
set_option maxHeartbeats 1000000 in
theorem ref_any (b : Bool) (x : ByteArray) (w : World) :
    Calls Tryz.prog 17 #[.agg #[.bool b, .string x]] w fun e w' => e = .returned (.agg #[.bool b, .string x]) ∧ Below w.heap.size w w' := by
  go_enter Tryz.func17, Tryz.ntmps17
  go_wp2
  refine bodyPost_ret (v := .agg #[.bool b, .string x]) (by simp [results, Tryz.results17, go_sem]) rfl ?_
  refine ⟨rfl, ?_⟩
  repeat (first | exact Below.refl _ _ | refine Below.setCell ?_ (by simp) _ | refine Below.alloc ?_ (by simp) _)

end Tt
end Go.Proofs.YtjngpafokkjkdaaGreatDoor

/-
  The law TagPrints.
-/
set_option linter.unusedVariables false
set_option linter.unusedSimpArgs false
namespace Go.Proofs.YtjngpafokkjkdaaGreatDoor
open Go.RowKit Go.Shelf
namespace Tt
open Oc Tg

set_option maxRecDepth 100000 in
set_option maxHeartbeats 1000000 in
theorem rAlike_any (t u : Tg1) (w : World) :
    Calls Tryz.prog 32 #[.agg #[.bool t.1, .string (str t.2)], .agg #[.bool u.1, .string (str u.2)]] w fun e w' => e = .returned (.bool (lkA t u)) ∧ Below w.heap.size w w' := by
  have HE : Hid (_ = lkA t u) := same_text t.2 u.2
  obtain ⟨tb, tl⟩ := t
  obtain ⟨ub, ul⟩ := u
  dsimp only at *
  generalize str tl = X at *
  generalize str ul = Y at *
  go_enter Tryz.func32, Tryz.ntmps32
  go_wp2
  go_ret
  refine ⟨ret_bool HE.out, ?_⟩
  repeat (first | exact Below.refl _ _ | refine Below.alloc ?_ (by simp) _)

set_option maxRecDepth 100000 in
set_option maxHeartbeats 1000000 in
theorem rStrong_any (t u : Tg1) (w : World) :
    Calls Tryz.prog 25 #[.agg #[.bool t.1, .string (str t.2)], .agg #[.bool u.1, .string (str u.2)]] w fun e w' => e = .returned (.bool (lkS t u)) ∧ Below w.heap.size w w' := by
  have HE : Hid (lkS t u = (!t.1 && (!u.1 && decide (t.2 = u.2)))) := (rfl : _ = _)
  have HQ : Hid (_ = _) := same_text t.2 u.2
  have HB : Hid (∀ a b, Below w.heap.size w ((w.alloc a).alloc b)) := fun a b => ((Below.refl _ w).alloc (Nat.le_refl _) _).alloc (by simp) _
  generalize lkS t u = y at *
  obtain ⟨tb, tl⟩ := t
  obtain ⟨ub, ul⟩ := u
  dsimp only at *
  generalize decide (tl = ul) = q at *
  generalize str tl = X at *
  generalize str ul = Y at *
  cases tb with
  | true =>
    go_enter Tryz.func25, Tryz.ntmps25
    go_wp2
    go_ret
    exact ⟨ret_bool HE.out.symm, HB.out _ _⟩
  | false =>
    cases ub with
    | true =>
      go_enter Tryz.func25, Tryz.ntmps25
      go_wp2
      go_ret
      exact ⟨ret_bool HE.out.symm, HB.out _ _⟩
    | false =>
      go_enter Tryz.func25, Tryz.ntmps25
      go_wp2
      go_ret
      exact ⟨ret_bool (by rw [HE.out, HQ.out]; simp), HB.out _ _⟩

end Tt
end Go.Proofs.YtjngpafokkjkdaaGreatDoor

/-
  The document's met.
-/
set_option linter.unusedVariables false
set_option linter.unusedSimpArgs false
namespace Go.Proofs.YtjngpafokkjkdaaGreatDoor
open Go.RowKit Go.Shelf
namespace Tt
open Oc Tg

/-- A state in a block. -/
def StB (T : Nat) (w : World) (g : Nat) (s : St) : Prop := w.heap[g]? = some (.cells #[.bool s.th, .bool s.own.1, .string (str s.own.2), .bool s.tg, .int .i64 s.tm, .bool s.td] T (0, 0))
theorem StB.lt {T : Nat} {w : World} {g : Nat} {s : St} (h : StB T w g s) : g < w.heap.size := (Array.getElem?_eq_some_iff.1 h).1
theorem StB.below {T : Nat} {w w' : World} {g : Nat} {s : St} (h : StB T w g s) (b : Below w.heap.size w w') : StB T w' g s := (b.block _ h.lt).trans h
theorem StB.cells {T : Nat} {w : World} {g : Nat} {s : St} (h : StB T w g s) : w.cell? ⟨g, 0, none⟩ = some (.bool s.th) ∧ w.cell? ⟨g, 1, none⟩ = some (.bool s.own.1) ∧ w.cell? ⟨g, 2, none⟩ = some (.string (str s.own.2)) ∧ w.cell? ⟨g, 3, none⟩ = some (.bool s.tg) ∧ w.cell? ⟨g, 4, none⟩ = some (.int .i64 s.tm) ∧ w.cell? ⟨g, 5, none⟩ = some (.bool s.td) :=
  ⟨by have := Lib.cell_of_heap h 0; simpa using this, by have := Lib.cell_of_heap h 1; simpa using this, by have := Lib.cell_of_heap h 2; simpa using this, by have := Lib.cell_of_heap h 3; simpa using this, by have := Lib.cell_of_heap h 4; simpa using this, by have := Lib.cell_of_heap h 5; simpa using this⟩
theorem StB.new (T : Nat) (w : World) (s : St) : StB T (w.alloc (.cells #[.bool s.th, .bool s.own.1, .string (str s.own.2), .bool s.tg, .int .i64 s.tm, .bool s.td] T)) w.heap.size s := heap_alloc_new w _

theorem any_none (ts : List Tg1) (f : Tg1 → Bool) (h : ∀ j, j < ts.length → f (nth ts j) = false) : ts.any f = false := by
  rw [List.any_eq_false]
  intro x hx
  obtain ⟨k, hk, rfl⟩ := List.mem_iff_getElem.1 hx
  have := h k hk
  unfold nth at this
  rw [List.getD_eq_getElem?_getD, List.getElem?_eq_getElem hk] at this
  simpa using this
theorem any_some (ts : List Tg1) (f : Tg1 → Bool) (k : Nat) (hk : k < ts.length) (h : f (nth ts k) = true) : ts.any f = true := by
  rw [List.any_eq_true]
  refine ⟨ts[k], List.getElem_mem _, ?_⟩
  unfold nth at h
  rw [List.getD_eq_getElem?_getD, List.getElem?_eq_getElem hk] at h
  exact h

set_option maxRecDepth 100000 in
set_option maxHeartbeats 4000000 in
theorem rmet_any (v : List UInt8) (hv : v.length ≤ 2000000000) (s : St) (strong : Bool) (w : World) :
    Calls Tryz.prog 15 #[.string (str v), .agg #[.bool s.th, .bool s.own.1, .string (str s.own.2), .bool s.tg, .int .i64 s.tm, .bool s.td], .bool strong] w fun e w' => e = .returned (.bool (metV strong v s)) ∧ Below w.heap.size w w' := by
  obtain ⟨w1, hw1⟩ : ∃ w1, w1 = w.alloc (.cells #[.bool s.th, .bool s.own.1, .string (str s.own.2), .bool s.tg, .int .i64 s.tm, .bool s.td] 38) := ⟨_, rfl⟩
  have HS1 : Hid (StB 38 w1 w.heap.size s) := by rw [hw1]; exact StB.new _ w s
  have HB1 : Hid (Below w.heap.size w w1) := by rw [hw1]; exact (Below.refl _ w).alloc (Nat.le_refl _) _
  have hz1 : w.heap.size < w1.heap.size := HS1.out.lt
  have HL : Hid (Calls _ _ _ _ _) := rList_any (str v) (by rw [str_size]; exact hv) w1
  rw [str_list] at HL
  have hlen := listT_len v
  have HM : Hid (metV strong v s = if (listT v).2.1 then s.th else (listT v).1.any fun t => s.th && (s.tg && lkX strong t s.own)) := (rfl : _ = _)
  generalize metV strong v s = M at *
  generalize listT v = LT at *
  obtain ⟨ts, star, l3, l4⟩ := LT
  dsimp only at *
  have hlv : v.length ≤ 2000000000 := hv
  generalize str v = V at *
  cases star with
  | true =>
    rw [if_pos rfl] at HM
    go_enter Tryz.func15, Tryz.ntmps15
    go_wp2_with fail
    rw [← hw1]
    refine HL.out.mono ?_
    rintro e w2 ⟨u, rfl, ho, hb2⟩
    have HB2 : Hid (Below w.heap.size w w2) := HB1.out.trans (hb2.mono HB1.out.size)
    obtain ⟨k0, k1, k2, k3, k4, k5⟩ := (HS1.out.below hb2).cells
    clear hb2 ho hw1
    go_wp2
    go_ret
    rw [HM.out]
    exact ⟨rfl, HB2.out⟩
  | false =>
    rw [if_neg (by decide)] at HM
    go_enter Tryz.func15, Tryz.ntmps15
    go_wp2_with fail
    rw [← hw1]
    refine HL.out.mono ?_
    rintro e w2 ⟨u, rfl, ho, hb2⟩
    have HB2 : Hid (Below w.heap.size w w2) := HB1.out.trans (hb2.mono HB1.out.size)
    have HS2 : Hid (StB 38 w2 w.heap.size s) := HS1.out.below hb2
    have HO2 : Hid (RdT u ts w2) := ho.rd
    obtain ⟨ua, uc, rfl, _⟩ := ho.rd
    have hz2 : w1.heap.size ≤ w2.heap.size := hb2.size
    clear hb2 ho hw1 HS1 HB1 HL
    go_wp2
    go_loopw [25] (fun i wr => ∃ k : Nat, k ≤ ts.length ∧ i = .int .i64 k ∧ Hid (∀ j, j < k → (s.th && (s.tg && lkX strong (nth ts j) s.own)) = false) ∧ Hid (Below w2.heap.size w2 wr)) (fun i _ => ts.length - (intOf i).toNat)
    case atStart => exact ⟨0, Nat.zero_le _, rfl, (fun j hj => absurd hj (Nat.not_lt_zero _) : ∀ j, j < 0 → _), Below.refl _ _⟩
    case round =>
      obtain ⟨k, hk, rfl, hA, hW⟩ := hrel
      have hsz := hW.out.size
      by_cases hlt : k < ts.length
      · obtain ⟨a', c', e', hcs⟩ := HO2.out
        injection e' with ea' el' ec'
        rcases hcs with hcs | ⟨g, o, hga, hcap, hcell⟩
        · rw [hcs] at hlt; simp at hlt
        rw [hga] at ea'
        subst ea'
        obtain ⟨c0, c1⟩ := hcell k hlt
        have hg : g < w2.heap.size := World.block_lt_of_cell? w2 _ c0
        have d0 := (hW.out.cell (p := ⟨g, o + k * 2, none⟩) hg).trans c0
        have d1 := (hW.out.cell (p := ⟨g, o + k * 2 + 1, none⟩) hg).trans c1
        have HAn : Hid ((s.th && (s.tg && lkX strong (nth ts k) s.own)) = false → ∀ j, j < k + 1 → (s.th && (s.tg && lkX strong (nth ts j) s.own)) = false) := fun h j hj => by
          by_cases e : j = k
          · rw [e]; exact h
          · exact hA.out j (by omega)
        have HAy : Hid ((s.th && (s.tg && lkX strong (nth ts k) s.own)) = true → M = true) := fun h => by
          rw [HM.out]; exact any_some ts _ k hlt h
        have HSr : Hid (StB 38 wr w.heap.size s) := HS2.out.below hW.out
        have hgz : g < wr.heap.size := by omega
        clear hcell c0 c1 hcap el' ec'
        have HX : Hid (_) := @rStrong_any (nth ts k) s.own
        have HY : Hid (_) := @rAlike_any (nth ts k) s.own
        generalize nth ts k = p at *
        obtain ⟨pb, pt⟩ := p
        dsimp only at d0 d1 HX HY
        generalize str pt = PT at *
        obtain ⟨wt, hwt⟩ : ∃ wt, wt = wr.alloc (.cells #[.bool pb, .string PT] 36) := ⟨_, rfl⟩
        have Rt : Hid (wt.heap[wr.heap.size]? = some (.cells #[.bool pb, .string PT] 36 (0, 0))) := by rw [hwt]; exact heap_alloc_new wr _
        have HWt : Hid (Below w2.heap.size w2 wt) := by rw [hwt]; exact hW.out.alloc hsz _
        have HSt : Hid (StB 38 wt w.heap.size s) := HS2.out.below HWt.out
        obtain ⟨q0, q1, q2, q3, q4, q5⟩ := HSr.out.cells
        have hsl : w.heap.size < wr.heap.size := HSr.out.lt
        have hsn : w.heap.size ≠ wr.heap.size := by omega
        obtain ⟨th, own, tg, tm, td⟩ := s
        obtain ⟨ob, ot⟩ := own
        dsimp only at *
        generalize str ot = OT at *
        cases th with
        | false =>
          have HAk : Hid (∀ j, j < k + 1 → (false && (tg && lkX strong (nth ts j) (ob, ot))) = false) := HAn.out rfl
          have HWf : Hid (Below w2.heap.size w2 (wr.alloc (.cells #[.bool pb, .string PT] 36))) := hW.out.alloc hsz _
          clear hwt
          go_wp2
          go_roundw
          case rel => exact ⟨k + 1, by omega, by go_num, HAk, HWf⟩
          case measure => simp [intOf]; omega
        | true =>
          cases tg with
          | false =>
            have HAk : Hid (∀ j, j < k + 1 → (true && (false && lkX strong (nth ts j) (ob, ot))) = false) := HAn.out rfl
            have HWf : Hid (Below w2.heap.size w2 (wr.alloc (.cells #[.bool pb, .string PT] 36))) := hW.out.alloc hsz _
            clear hwt
            go_wp2
            go_roundw
            case rel => exact ⟨k + 1, by omega, by go_num, HAk, HWf⟩
            case measure => simp [intOf]; omega
          | true =>
            cases strong with
            | true =>
              go_wp2_with fail
              rw [← hwt]
              refine (HX.out _).mono ?_
              rintro e w4 ⟨rfl, hb4⟩
              have HW4 : Hid (Below w2.heap.size w2 w4) := HWt.out.trans (hb4.mono HWt.out.size)
              clear hb4 hwt
              cases hq : lkS (pb, pt) (ob, ot) with
              | true =>
                have hM : M = true := HAy.out (by rw [lkX_t, hq]; rfl)
                clear hq
                go_wp2
                go_ret
                rw [hM]
                exact ⟨rfl, HB2.out.trans (HW4.out.mono HB2.out.size)⟩
              | false =>
                have HAk : Hid (∀ j, j < k + 1 → (true && (true && lkX true (nth ts j) (ob, ot))) = false) := HAn.out (by rw [lkX_t, hq]; rfl)
                clear hq
                go_wp2
                go_roundw
                case rel => exact ⟨k + 1, by omega, by go_num, HAk, HW4⟩
                case measure => simp [intOf]; omega
            | false =>
              go_wp2_with fail
              rw [← hwt]
              refine (HY.out _).mono ?_
              rintro e w4 ⟨rfl, hb4⟩
              have HW4 : Hid (Below w2.heap.size w2 w4) := HWt.out.trans (hb4.mono HWt.out.size)
              clear hb4 hwt
              cases hq : lkA (pb, pt) (ob, ot) with
              | true =>
                have hM : M = true := HAy.out (by rw [lkX_f, hq]; rfl)
                clear hq
                go_wp2
                go_ret
                rw [hM]
                exact ⟨rfl, HB2.out.trans (HW4.out.mono HB2.out.size)⟩
              | false =>
                have HAk : Hid (∀ j, j < k + 1 → (true && (true && lkX false (nth ts j) (ob, ot))) = false) := HAn.out (by rw [lkX_f, hq]; rfl)
                clear hq
                go_wp2
                go_roundw
                case rel => exact ⟨k + 1, by omega, by go_num, HAk, HW4⟩
                case measure => simp [intOf]; omega
      · obtain rfl : k = ts.length := by omega
        have hM : M = false := by rw [HM.out]; exact any_none ts _ hA.out
        go_wp2
        go_ret
        rw [hM]
        exact ⟨rfl, HB2.out.trans (hW.out.mono HB2.out.size)⟩

end Tt
end Go.Proofs.YtjngpafokkjkdaaGreatDoor
