/- Several texts as one. -/
import Derived.Test.YthdfgepnadgkjaaDoorZzA
import Derived.Test.YthdfgepnadgkjaaDoorRows
import Derived.WalkKit
import Derived.Shelf.SlSortCmp.QuietGrown
import Derived.Lib.AppendIntMem
import Derived.Test.YthdfgepnadgkjaaDoorZzJ
import Derived.Laws.StructEq
/-
  Worlds that only grew.
-/
set_option linter.unusedVariables false
set_option linter.unusedSimpArgs false
namespace Go.Proofs.YthdfgepnadgkjaaDoor
open Go.RowKit Go.Shelf
open Go.Sort (grow alloc_eq_grow grow_grow grow_empty)
namespace Sn

theorem mixO : Tryd.prog.follows .mixedOrders = true := by kernel_rfl

/-- A world that only grew: draws, new blocks. -/
def Grew (w w' : World) : Prop := ∃ q os, w' = grow (w.drewN q) os
theorem Grew.below {w w' : World} (h : Grew w w') : Below w.heap.size w w' := by
  obtain ⟨q, os, rfl⟩ := h
  exact Lib.below_grow _ w (Nat.le_refl _) q os
theorem Grew.refl (w : World) : Grew w w := ⟨0, #[], by rw [grow_empty]; rfl⟩
theorem Grew.trans {w w1 w2 : World} (h : Grew w w1) (h' : Grew w1 w2) : Grew w w2 := by
  obtain ⟨q, os, rfl⟩ := h
  obtain ⟨q', os', rfl⟩ := h'
  exact ⟨q + q', os ++ os', by show grow (grow ((w.drewN q).drewN q') os) os' = _; rw [grow_grow, World.drewN_drewN]⟩
theorem Grew.alloc {w w1 : World} (h : Grew w w1) (o : Obj) : Grew w (w1.alloc o) := h.trans ⟨0, #[o], by rw [alloc_eq_grow]; rfl⟩
theorem Grew.drewN {w w1 : World} (h : Grew w w1) (k : Nat) : Grew w (w1.drewN k) := h.trans ⟨k, #[], by rw [grow_empty]⟩

end Sn
end Go.Proofs.YthdfgepnadgkjaaDoor

/-
  span: isSpan.
-/
set_option linter.unusedVariables false
set_option linter.unusedSimpArgs false
namespace Go.Proofs.YthdfgepnadgkjaaDoor
open Go.RowKit Go.Shelf
open Go.Sort (grow alloc_eq_grow grow_grow grow_empty)
namespace Sn
open Oc Tg Ac

theorem eqN (a b c d : Int) (w : World) : (binOp .eql 52 (.agg #[.int .i64 a, .int .i64 b]) (.agg #[.int .i64 c, .int .i64 d])).run Tryd.prog w = .ok (.bool (a == c && b == d)) w := by
  have u3 := Tryd.underlying3
  have a3 := Tryd.isAgg3
  have z3 := Tryd.sizeOf3
  have hS : Tryd.prog.underlying 52 = some (.struct (Tryd.prog.fieldsOf 52)) := by kernel_rfl
  have hp : Tryd.prog.stoodInHeld 52 = false := by kernel_rfl
  rw [run_eql_struct, show (10000 : Nat) = 9999 + 1 from rfl, run_equalIn_agg w 9999 52 _ _ hS hp]
  simp only [Program.fieldsOf, Tryd.underlying52]
  go_simp
  by_cases h1 : a = c <;> by_cases h2 : b = d <;> simp [h1, h2]

theorem PB.grown {T : Nat} {w : World} {g : Nat} {t : Sp} (h : PB T w g t) (n : Nat) (os : Array Obj) : PB T (grow (w.drewN n) os) g t := h.below (Grew.below ⟨n, os, rfl⟩)

set_option maxHeartbeats 400000 in
theorem isEmpty_gr (a b : Int) (w : World) :
    Calls Tryd.prog 29 #[.agg #[.int .i64 a, .int .i64 b]] w fun e w' => e = .returned (.bool (emp (a, b))) ∧ ∃ q os, w' = grow (w.drewN q) os := by
  unfold emp
  dsimp only
  go_enter Tryd.func29, Tryd.ntmps29
  go_wp2
  go_ret
  exact ⟨rfl, (Grew.refl w).alloc _⟩

set_option maxHeartbeats 400000 in
theorem within_gr (a b size : Int) (w : World) :
    Calls Tryd.prog 28 #[.agg #[.int .i64 a, .int .i64 b], .int .i64 size] w fun e w' => e = .returned (.agg #[.int .i64 (wth (a, b) size).1, .int .i64 (wth (a, b) size).2]) ∧ ∃ q os, w' = grow (w.drewN q) os := by
  unfold wth
  dsimp only
  go_enter Tryd.func28, Tryd.ntmps28
  go_wp2
  refine bodyPost_ret (v := .agg #[.int .i64 (max a 0), .int .i64 (min b size)]) (by simp [results, Tryd.results28, go_sem]) rfl ?_
  exact ⟨rfl, ((Grew.refl w).alloc _).alloc _⟩

set_option maxRecDepth 100000 in
set_option maxHeartbeats 1000000 in
theorem isSpan_gr (a b size : Int) (w : World) :
    Calls Tryd.prog 30 #[.agg #[.int .i64 a, .int .i64 b], .int .i64 size] w fun e w' => e = .returned (.bool (isSp (a, b) size)) ∧ ∃ q os, w' = grow (w.drewN q) os := by
  have HI : Hid (∀ W, Calls _ _ _ W _) := fun W => isEmpty_gr a b W
  have HW : Hid (∀ W, Calls _ _ _ W _) := fun W => within_gr a b size W
  obtain ⟨w1, hw1⟩ : ∃ w1, w1 = w.alloc (.cells #[.int .i64 a, .int .i64 b] 52) := ⟨_, rfl⟩
  have HPB : Hid (PB 52 w1 w.heap.size (a, b)) := (by rw [hw1]; exact heap_alloc_new w _ : PB _ _ _ _)
  have HB1 : Hid (Grew w w1) := (by rw [hw1]; exact (Grew.refl w).alloc _ : Grew _ _)
  have k0 : ∀ n os, (grow (w1.drewN n) os).cell? ⟨w.heap.size, 0, none⟩ = some (.int .i64 a) := fun n os => (HPB.out.grown n os).c0
  have k1 : ∀ n os, (grow (w1.drewN n) os).cell? ⟨w.heap.size, 1, none⟩ = some (.int .i64 b) := fun n os => (HPB.out.grown n os).c1
  have HEQ := fun y1 y2 w => eqN a b y1 y2 w
  have hmx := mixO
  cases hem : emp (a, b) with
  | true =>
    rw [hem] at HI
    have HS : Hid (isSp (a, b) size = false) := isSp_emp hem size
    clear hem
    go_enter Tryd.func30, Tryd.ntmps30
    go_wp2_with fail
    rw [← hw1]
    clear hw1
    generalize w.heap.size = g at *
    go_quiet_grown (first | (go_at_call 29; refine Calls.grown_of (HI.out _)) | (go_at_call 28; refine Calls.grown_of (HW.out _)))
    go_wp2
    go_ret
    rw [HS.out]
    exact ⟨rfl, HB1.out.trans ⟨nq, osq, rfl⟩⟩
  | false =>
    rw [hem] at HI
    have HS : Hid (isSp (a, b) size = decide ((a, b) = wth (a, b) size)) := isSp_wth hem size
    clear hem
    generalize wth (a, b) size = Y at *
    obtain ⟨y1, y2⟩ := Y
    dsimp only at *
    go_enter Tryd.func30, Tryd.ntmps30
    go_wp2_with fail
    rw [← hw1]
    clear hw1
    generalize w.heap.size = g at *
    go_quiet_grown (first | (go_at_call 29; refine Calls.grown_of (HI.out _)) | (go_at_call 28; refine Calls.grown_of (HW.out _)))
    go_wp2
    go_ret
    rw [HS.out]
    refine ⟨ret_bool ?_, HB1.out.trans ⟨nq, osq, rfl⟩⟩
    rw [Bool.eq_iff_iff]
    simp

end Sn
end Go.Proofs.YthdfgepnadgkjaaDoor

/-
  Numbers in digits: worlds that only grew.
-/
set_option linter.unusedVariables false
set_option linter.unusedSimpArgs false
namespace Go.Proofs.YthdfgepnadgkjaaDoor
open Go.RowKit Go.Shelf
open Go.Sort (grow alloc_eq_grow grow_grow grow_empty)
namespace Sn
open Oc

set_option maxHeartbeats 400000 in
theorem Digits_gr (n : Int) (h0 : -9223372036854775808 ≤ n) (h1 : n ≤ 9223372036854775807) (w : World) (t : Pow w) :
    Calls Tryd.prog 59 #[.int .i64 n] w fun e w' => e = .returned (.string (str (Lib.itoa n))) ∧ ∃ q os, w' = grow (w.drewN q) os := by
  have HT : Hid (Pow w) := t
  clear t
  have hcon := Tryd.strconv_Itoa n h0 h1 w HT.out
  change Calls Tryd.prog 66 _ _ (fun e w' => e = .returned (.string (str (Lib.itoa n))) ∧ ∃ k os, w' = grow (w.drewN k) os) at hcon
  have HC : Hid (Calls Tryd.prog 66 #[.int .i64 n] w (fun e w' => e = .returned (.string (str (Lib.itoa n))) ∧ ∃ k os, w' = grow (w.drewN k) os)) := hcon
  clear hcon
  go_enter Tryd.func59, Tryd.ntmps59
  go_wp2_with fail
  refine HC.out.mono ?_
  rintro e w' ⟨rfl, k, os, rfl⟩
  go_wp2
  go_ret
  exact ⟨rfl, k, os, rfl⟩

set_option maxRecDepth 100000 in
set_option maxHeartbeats 1000000 in
theorem rDigits_gr (n : Int) (h0 : -9223372036854775808 ≤ n) (h1 : n ≤ 9223372036854775807) (w : World) :
    Calls Tryd.prog 37 #[.int .i64 n] w fun e w' => e = .returned (.string (str (Lib.itoa n))) ∧ ∃ q os, w' = grow (w.drewN q) os := by
  by_cases hz : n = 0
  · subst hz
    have HZ : Hid (Lib.itoa 0 = [48]) := itoa_zero
    go_enter Tryd.func37, Tryd.ntmps37
    go_wp2
    go_ret
    exact ⟨ret_string (by rw [HZ.out]; rfl), Grew.refl _⟩
  · have hz' : (n == 0) = false := by simp [hz]
    have HI : Hid (Lib.itoa n = (if n < 0 then [45] else []) ++ decD n.natAbs) := itoa_decD n hz
    have HL : Hid ((decD n.natAbs).length ≤ 21) := decD_len n h0 h1
    go_enter Tryd.func37, Tryd.ntmps37
    go_wp2
    go_loopw [0, 4] (fun mv ov wr => ∃ (m : Int) (o : ByteArray), mv = .int .i64 m ∧ ov = .string o ∧ -9223372036854775808 ≤ m ∧ m ≤ 9223372036854775807 ∧ o.size ≤ 21 ∧ Hid (decD m.natAbs ++ o.data.toList = decD n.natAbs) ∧ Hid (Grew w wr)) (fun mv _ _ => (intOf mv).natAbs)
    case atStart => exact ⟨n, ⟨#[]⟩, rfl, rfl, h0, h1, by decide, (by simp : decD n.natAbs ++ (⟨#[]⟩ : ByteArray).data.toList = decD n.natAbs), Grew.refl _⟩
    case round =>
      obtain ⟨m, o, rfl, rfl, m0, m1, hos, hst, hbl⟩ := hrel
      by_cases hm : m = 0
      · subst hm
        have HO : Hid (str (decD n.natAbs) = o) := (by rw [← hst.out]; exact str_self o : str (decD n.natAbs) = o)
        have hsz : (⟨#[45]⟩ : ByteArray).size + o.size ≤ 9223372036854775807 := by show 1 + o.size ≤ _; omega
        by_cases hn : n < 0
        · have HN : Hid (str (Lib.itoa n) = ⟨#[45]⟩ ++ o) := by
            show str (Lib.itoa n) = _
            rw [HI.out, if_pos hn, ← HO.out, show (⟨#[45]⟩ : ByteArray) = str [45] from rfl, cat_str, str_list]
          go_wp2
          go_ret
          exact ⟨ret_string HN.out.symm, hbl.out⟩
        · have HN : Hid (str (Lib.itoa n) = o) := by
            show str (Lib.itoa n) = _
            rw [HI.out, if_neg hn, ← HO.out]; rfl
          go_wp2
          go_ret
          exact ⟨ret_string HN.out.symm, hbl.out⟩
      · have hm' : (m != 0) = true := by simp [hm]
        have HS : Hid (decD m.natAbs = decD (m.natAbs / 10) ++ [UInt8.ofNat (48 + m.natAbs % 10)]) := decD_step _ (by omega)
        have HL2 : Hid ((decD m.natAbs).length + o.size ≤ 21) := by
          have h1 := HL.out
          rw [← hst.out, List.length_append, size_list] at h1
          exact h1
        have HL3 : Hid (1 + o.size ≤ 21) := by
          have h1 := HL2.out
          rw [HS.out, List.length_append] at h1
          simp at h1
          show 1 + o.size ≤ 21
          omega
        have hsz : ∀ c : UInt8, (str [c]).size + o.size ≤ 9223372036854775807 := by intro c; rw [str_size]; simp; omega
        have next : ∀ (q d : Int), q.natAbs = m.natAbs / 10 → 0 ≤ d → d = ((m.natAbs % 10 : Nat) : Int) → decD q.natAbs ++ (str [UInt8.ofNat (48 + d).toNat] ++ o).data.toList = decD n.natAbs := by
          intro q d e1 d0 e2
          rw [cat_str, str_list, e1, ← hst.out, HS.out, List.append_assoc, show (48 + d).toNat = 48 + m.natAbs % 10 by omega]
        have HX : Hid (∀ (q d : Int), q.natAbs = m.natAbs / 10 → 0 ≤ d → d = ((m.natAbs % 10 : Nat) : Int) → decD q.natAbs ++ (str [UInt8.ofNat (48 + d).toNat] ++ o).data.toList = decD n.natAbs) := next
        clear next
        have HZ : Hid (∀ c : UInt8, (str [c] ++ o).size ≤ 21) := by
          intro c
          rw [cat_str, str_size]
          have := HL3.out
          simp
          omega
        rcases (show 0 < m ∨ m < 0 by omega) with hp | hp
        · have hob := one_byte wr (48 + m % 10) (by omega) (by omega)
          have hsz' := hsz (UInt8.ofNat (48 + m % 10).toNat)
          clear hsz
          go_wp2
          go_roundw
          case rel => exact ⟨m / 10, _, rfl, rfl, by omega, by omega, HZ.out _, HX.out (m / 10) (m % 10) (by omega) (by omega) (by omega), hbl.out.alloc _⟩
          case measure => simp [intOf]; omega
        · obtain ⟨f1, f2, f3, f4⟩ := div_facts m 10 (by omega)
          have f5 : m.tmod 10 ≤ 0 := by
            have := Int.tmod_nonneg 10 (show 0 ≤ -m by omega)
            rw [Int.neg_tmod] at this
            omega
          have HM : Hid ((m.tdiv 10).natAbs < m.natAbs) := (by omega : (m.tdiv 10).natAbs < m.natAbs)
          by_cases hd : m.tmod 10 < 0
          · have hob := one_byte wr (48 + -m.tmod 10) (by omega) (by omega)
            have hsz' := hsz (UInt8.ofNat (48 + -m.tmod 10).toNat)
            clear hsz
            have F : Hid (10 * m.tdiv 10 + m.tmod 10 = m) := f1
            clear f1
            go_wp2
            go_roundw
            case rel =>
              have f1 := F.out
              exact ⟨m.tdiv 10, _, rfl, rfl, by omega, by omega, HZ.out _, HX.out (m.tdiv 10) (-m.tmod 10) (by omega) (by omega) (by omega), hbl.out.alloc _⟩
            case measure => exact HM.out
          · have hd0 : 0 ≤ m.tmod 10 := by omega
            have hob := one_byte wr (48 + m.tmod 10) (by omega) (by omega)
            have hsz' := hsz (UInt8.ofNat (48 + m.tmod 10).toNat)
            clear hsz
            have F : Hid (10 * m.tdiv 10 + m.tmod 10 = m) := f1
            clear f1
            go_wp2
            go_roundw
            case rel =>
              have f1 := F.out
              exact ⟨m.tdiv 10, _, rfl, rfl, by omega, by omega, HZ.out _, HX.out (m.tdiv 10) (m.tmod 10) (by omega) (by omega) (by omega), hbl.out.alloc _⟩
            case measure => exact HM.out

end Sn
end Go.Proofs.YthdfgepnadgkjaaDoor
