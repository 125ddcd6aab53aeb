/- Several texts as one. -/
import Derived.Test.YtjngpafokkjkdaaGreatDoorMgW
import Derived.Test.YtjngpafokkjkdaaGreatDoorMgY
import Derived.Test.YtjngpafokkjkdaaGreatDoorRPs
import Derived.Test.YtjngpafokkjkdaaGreatDoorTDh
import Derived.Deep.Cut
import Derived.Deep.CutRange
import Derived.Deep.RegionHeld3
/-
  The document's Date.
-/
set_option linter.unusedVariables false
set_option linter.unusedSimpArgs false
namespace Go.Proofs.YtjngpafokkjkdaaGreatDoor
open Go.RowKit Go.Shelf
namespace Tt
open Oc Tg

set_option maxRecDepth 100000 in
set_option maxHeartbeats 2000000 in
theorem rDate_any (n : List UInt8) (hn : n.length ≤ 100) (fv : Value) (fs : List Fd.Fl) (now : Int) (hnow : Bs.I64 now) (w : World) (hrd : Fd.RdF fv fs w) (hsum : Fd.sumF fs ≤ 1048576) :
    Calls Tryz.prog 16 #[fv, .string (str n), .int .i64 now] w fun e w' => e = .returned (.tuple #[.int .i64 (rdateV n fs now).1, .bool (rdateV n fs now).2]) ∧ Below w.heap.size w w' := by
  have hlen := Fd.len_sumF fs
  have HA : Hid (Calls _ _ _ _ _) := Fd.rAll_any fv fs n (by omega) ((Fd.each_sumF fs).mono hsum) (by omega) w hrd
  have h1 := Fd.sumV_filter n fs
  obtain ⟨fa, fc, rfl, _⟩ := hrd
  unfold rdateV
  by_cases hl : (Fd.vals n fs).length = 1
  · rw [if_pos hl]
    obtain ⟨v, hv⟩ := List.length_eq_one_iff.1 hl
    rw [hv] at HA h1 ⊢
    have hvl : v.length ≤ 1048576 := by
      simp [Fd.sumV] at h1
      omega
    rw [show ([v] : List (List UInt8)).getD 0 [] = v from rfl]
    have HP : Hid (∀ W, Calls Tryz.prog 33 #[.string (str v), .int .i64 now] W fun e w' => e = .returned (.tuple #[.int .i64 (Bs.parseS v now).1, .int .i64 (Bs.parseS v now).2.1, .int .i64 (Bs.parseS v now).2.2.1, .int .i64 (Bs.parseS v now).2.2.2]) ∧ Below W.heap.size W w') := fun W => Bs.rParse_any v now (by omega) hnow W
    generalize Bs.parseS v now = P at *
    obtain ⟨P1, P2, P3, P4⟩ := P
    dsimp only at *
    generalize str n = N at *
    clear hsum hlen hv hl h1
    go_enter Tryz.func16, Tryz.ntmps16
    go_wp2_with fail
    refine HA.out.mono ?_
    rintro e w2 ⟨u, rfl, ho, hb2⟩
    have HB2 : Hid (Below w.heap.size w w2) := hb2
    obtain ⟨ua, uc, rfl, hcs⟩ := ho.rd
    rcases hcs with hh | ⟨g2, o2, rfl, hlc, hcell⟩
    · cases hh
    have q0 := hcell 0 (by simp)
    clear hcell hb2 ho
    simp only [Nat.add_zero] at q0
    rw [show ([v] : List (List UInt8)).getD 0 [] = v from rfl] at q0
    have hl1 : ([v] : List (List UInt8)).length = 1 := rfl
    generalize str v = V at *
    go_wp2_with fail
    refine (HP.out _).mono ?_
    rintro e w3 ⟨rfl, hb3⟩
    have HB3 : Hid (Below w.heap.size w w3) := HB2.out.trans (hb3.mono HB2.out.size)
    clear hb3
    go_wp2
    go_ret2
    exact ⟨rfl, HB3.out⟩
  · rw [if_neg hl]
    have hvl : (Fd.vals n fs).length ≤ 16777216 := by omega
    generalize Fd.vals n fs = V at *
    generalize str n = N at *
    have hl2 : ((V.length : Int) != 1) = true := by simp; omega
    clear hsum hlen h1
    go_enter Tryz.func16, Tryz.ntmps16
    go_wp2_with fail
    refine HA.out.mono ?_
    rintro e w2 ⟨u, rfl, ho, hb2⟩
    obtain ⟨ua, uc, rfl⟩ := ho.form
    have HB2 : Hid (Below w.heap.size w w2) := hb2
    clear hb2 ho
    go_wp2
    go_ret2
    exact ⟨rfl, HB2.out⟩

end Tt
end Go.Proofs.YtjngpafokkjkdaaGreatDoor

/-
  The law's own ref, same.
-/
set_option linter.unusedVariables false
set_option linter.unusedSimpArgs false
namespace Go.Proofs.YtjngpafokkjkdaaGreatDoor
open Go.RowKit Go.Shelf
namespace Tt
open Oc Tg

set_option maxRecDepth 100000 in
set_option maxHeartbeats 1000000 in
theorem ref_any (b : Bool) (x : ByteArray) (w : World) :
    Calls Tryz.prog 17 #[.agg #[.bool b, .string x]] w fun e w' => e = .returned (.agg #[.bool b, .string x]) ∧ Below w.heap.size w w' := by
  go_enter Tryz.func17, Tryz.ntmps17
  go_wp2
  refine bodyPost_ret (v := .agg #[.bool b, .string x]) (by simp [results, Tryz.results17, go_sem]) rfl ?_
  refine ⟨rfl, ?_⟩
  repeat (first | exact Below.refl _ _ | refine Below.setCell ?_ (by simp) _ | refine Below.alloc ?_ (by simp) _)

end Tt
end Go.Proofs.YtjngpafokkjkdaaGreatDoor

/-
  The law TagPrints.
-/
set_option linter.unusedVariables false
set_option linter.unusedSimpArgs false
namespace Go.Proofs.YtjngpafokkjkdaaGreatDoor
open Go.RowKit Go.Shelf
namespace Tt
open Oc Tg

set_option maxRecDepth 100000 in
set_option maxHeartbeats 1000000 in
theorem rAlike_any (t u : Tg1) (w : World) :
    Calls Tryz.prog 32 #[.agg #[.bool t.1, .string (str t.2)], .agg #[.bool u.1, .string (str u.2)]] w fun e w' => e = .returned (.bool (lkA t u)) ∧ Below w.heap.size w w' := by
  have HE : Hid (_ = lkA t u) := same_text t.2 u.2
  obtain ⟨tb, tl⟩ := t
  obtain ⟨ub, ul⟩ := u
  dsimp only at *
  generalize str tl = X at *
  generalize str ul = Y at *
  go_enter Tryz.func32, Tryz.ntmps32
  go_wp2
  go_ret
  refine ⟨ret_bool HE.out, ?_⟩
  repeat (first | exact Below.refl _ _ | refine Below.alloc ?_ (by simp) _)

set_option maxRecDepth 100000 in
set_option maxHeartbeats 1000000 in
theorem rStrong_any (t u : Tg1) (w : World) :
    Calls Tryz.prog 25 #[.agg #[.bool t.1, .string (str t.2)], .agg #[.bool u.1, .string (str u.2)]] w fun e w' => e = .returned (.bool (lkS t u)) ∧ Below w.heap.size w w' := by
  have HE : Hid (lkS t u = (!t.1 && (!u.1 && decide (t.2 = u.2)))) := (rfl : _ = _)
  have HQ : Hid (_ = _) := same_text t.2 u.2
  have HB : Hid (∀ a b, Below w.heap.size w ((w.alloc a).alloc b)) := fun a b => ((Below.refl _ w).alloc (Nat.le_refl _) _).alloc (by simp) _
  generalize lkS t u = y at *
  obtain ⟨tb, tl⟩ := t
  obtain ⟨ub, ul⟩ := u
  dsimp only at *
  generalize decide (tl = ul) = q at *
  generalize str tl = X at *
  generalize str ul = Y at *
  cases tb with
  | true =>
    go_enter Tryz.func25, Tryz.ntmps25
    go_wp2
    go_ret
    exact ⟨ret_bool HE.out.symm, HB.out _ _⟩
  | false =>
    cases ub with
    | true =>
      go_enter Tryz.func25, Tryz.ntmps25
      go_wp2
      go_ret
      exact ⟨ret_bool HE.out.symm, HB.out _ _⟩
    | false =>
      go_enter Tryz.func25, Tryz.ntmps25
      go_wp2
      go_ret
      exact ⟨ret_bool (by rw [HE.out, HQ.out]; simp), HB.out _ _⟩

end Tt
end Go.Proofs.YtjngpafokkjkdaaGreatDoor
