/-
  SpanLeast.
-/
import Derived.Test.YtbgbidjngjdceaaDoorMgM
import Derived.Test.YtbgbidjngjdceaaDoorSnY
import Derived.Test.YtbgbidjngjdceaaDoorOpN
set_option linter.unusedVariables false
set_option linter.unusedSimpArgs false
namespace Go.Proofs.YtbgbidjngjdceaaDoor
open Go.RowKit
namespace Sn
open Oc Tg Ac

theorem Norm.adj : ∀ {t : List Sp}, Norm t → ∀ i, i + 1 < t.length → (nthN t i).2 < (nthN t (i + 1)).1
  | [], _, i, h => by simp at h
  | [x], _, i, h => by simp at h
  | x :: y :: t, h, 0, _ => h.2.1 y (by simp)
  | x :: y :: t, h, i + 1, hi => by
    have e : ∀ k, nthN (x :: y :: t) (k + 1) = nthN (y :: t) k := fun k => by unfold nthN; simp
    rw [e, e]
    exact Norm.adj h.2.2 i (by simpa using hi)
theorem inN_next (t : List Sp) (k : Nat) (hk : k < t.length) (p : Int) : inN (t.take (k + 1)) p = (inN (t.take k) p || (decide ((nthN t k).1 ≤ p) && decide (p < (nthN t k).2))) := by
  rw [List.take_succ_eq_append_getElem hk, inN_app, ← nthN_mem hk]
  congr 1
  simp [inN]

set_option maxRecDepth 100000 in
set_option maxHeartbeats 4000000 in
theorem walk_SpanLeast (v : Value) (t : List Sp) (ht : t.length ≤ 1048576) (p : Int) (hz : (Lit.int .i64 p).wf = true) (w : World) (hrd : RdN v t w) (hw : ML w) :
    Calls Tryd.prog 6 #[v, .int .i64 p] w fun e w' => e = .returned (.bool true) ∧ Below w.heap.size w w' := by
  have HA : Hid (∀ W, Below w.heap.size w W → Calls _ _ _ W _) := fun W hb => awake_any W (hw.below hb)
  have HM : Hid (Calls _ _ _ w _) := Merge_any v t ht w hrd
  have HR : Hid (RdN v t w) := hrd
  obtain ⟨va, vc, rfl, _⟩ := hrd
  clear hw hz
  go_enter Tryd.func6, Tryd.ntmps6
  go_wp2_with fail
  refine HM.out.mono ?_
  rintro e w1 ⟨u, m, rfl, hru, hmo, hb1⟩
  have HB1 : Hid (Below w.heap.size w w1) := hb1
  have HRM : Hid (RdN u m w1) := hru
  have HRT : Hid (RdN (.slice va t.length vc) t w1) := HR.out.below hb1
  have HMO : Hid (MrgOf t m) := hmo
  have hml : m.length ≤ 1048576 := by have := hmo.2.2; omega
  obtain ⟨ma, mc, rfl, _⟩ := hru
  clear hb1 hmo
  go_wp2
  go_loopw [6] (fun iv wr => ∃ k : Nat, k ≤ m.length ∧ iv = .int .i64 k ∧ Hid (Below w1.heap.size w1 wr)) (fun iv _ => m.length - (intOf iv).toNat)
  case atStart => exact ⟨0, Nat.zero_le _, rfl, Below.refl _ _⟩
  case round =>
    obtain ⟨k, hk, rfl, hbl⟩ := hrel
    by_cases hlt : k < m.length
    · obtain ⟨a', c', e', hcs⟩ := HRM.out.below hbl.out
      injection e' with e1 _ e2
      subst e1 e2
      rcases hcs with h | ⟨g, o, rfl, hlc, hcell⟩
      · rw [h] at hlt; simp at hlt
      obtain ⟨p0, p1⟩ := hcell k hlt
      have hd0 : decide ((nthN m k).2 ≤ (nthN m k).1) = false := by
        have := HMO.out.1.pos (nthN m k) (by rw [nthN_mem hlt]; exact List.getElem_mem _)
        simp
        omega
      have k0 : (0 : Int) ≤ (k : Int) := by omega
      have k1 : (k : Int) < (m.length : Int) := by omega
      rcases Nat.eq_zero_or_pos k with hk0 | hk0
      · have hNd : decide (0 < k) = false := by simp [hk0]
        have hNi : decide ((0 : Int) < (k : Int)) = false := by simp [hk0]
        clear hk0 hcell
        generalize (nthN m k).1 = X at *
        generalize (nthN m k).2 = Y at *
        go_wp2_with fail
        go_quiet (fail)
        go_wp2
        go_roundw
        case rel => exact ⟨k + 1, by omega, by go_num, bel_drewN hbl.out _⟩
        case measure => simp [intOf]; omega
      · obtain ⟨i, hi⟩ : ∃ i, i + 1 = k := ⟨k - 1, by omega⟩
        obtain ⟨r0, r1⟩ := hcell i (by omega)
        have hsub : ((k : Int) - 1) = (i : Int) := by omega
        have hwi : IntKind.i64.wrap (i : Int) = (i : Int) := by rw [IntKind.wrap_i64]; omega
        have i0 : (0 : Int) ≤ (i : Int) := by omega
        have i1 : (i : Int) < (m.length : Int) := by omega
        have hNd : decide (0 < k) = true := by simp; omega
        have hNi : decide ((0 : Int) < (k : Int)) = true := by simp; omega
        have hdl : decide ((nthN m k).1 ≤ (nthN m i).2) = false := by
          have := HMO.out.1.adj i (by omega)
          rw [hi] at this
          simp
          omega
        clear hcell hi
        generalize (nthN m k).1 = X at *
        generalize (nthN m k).2 = Y at *
        generalize (nthN m i).2 = Z at *
        go_wp2_with fail
        go_quiet (fail)
        go_wp2
        go_roundw
        case rel => exact ⟨k + 1, by omega, by go_num, bel_drewN hbl.out _⟩
        case measure => simp [intOf]; omega
    · have HRT2 : Hid (RdN (.slice va t.length vc) t wr) := HRT.out.below hbl.out
      have HRM2 : Hid (RdN (.slice ma m.length mc) m wr) := HRM.out.below hbl.out
      have HB2 : Hid (Below w.heap.size w wr) := bel_trans HB1.out hbl.out
      clear hbl HRT HRM
      generalize wr = w2 at *
      go_wp2
      go_loopw [7, 9] (fun bv iv wr => ∃ k : Nat, k ≤ t.length ∧ iv = .int .i64 k ∧ bv = .bool (inN (t.take k) p) ∧ Hid (w2 = wr)) (fun _ iv _ => t.length - (intOf iv).toNat)
      case atStart => exact ⟨0, Nat.zero_le _, rfl, rfl, (rfl : w2 = w2)⟩
      case round =>
        obtain ⟨k2, hk2, rfl, rfl, hweq⟩ := hrel
        have hw2 := hweq.out
        subst hw2
        by_cases hlt2 : k2 < t.length
        · obtain ⟨a', c', e', hcs⟩ := HRT2.out
          injection e' with e1 _ e2
          subst e1 e2
          rcases hcs with h | ⟨g, o, rfl, hlc, hcell⟩
          · rw [h] at hlt2; simp at hlt2
          obtain ⟨p0, p1⟩ := hcell k2 hlt2
          have HNX : Hid (_ = _) := inN_next t k2 hlt2 p
          clear hcell
          generalize (nthN t k2).1 = X at *
          generalize (nthN t k2).2 = Y at *
          have k0 : (0 : Int) ≤ (k2 : Int) := by omega
          have k1 : (k2 : Int) < (t.length : Int) := by omega
          generalize inN (t.take k2) p = ib at *
          generalize hd1 : decide (X ≤ p) = b1 at *
          generalize hd2 : decide (p < Y) = b2 at *
          cases ib <;> cases b1 <;> cases b2
          all_goals
            go_wp2
            go_roundw
            case rel => exact ⟨k2 + 1, by omega, by go_num, by rw [HNX.out]; rfl, (by first | exact hweq | exact (trivial : True))⟩
            case measure => simp [intOf]; omega
        · obtain rfl : k2 = t.length := by omega
          rw [List.take_length]
          go_wp2
          go_loopw [8, 10] (fun bv iv wr => ∃ k : Nat, k ≤ m.length ∧ iv = .int .i64 k ∧ bv = .bool (inN (m.take k) p) ∧ Hid (w2 = wr)) (fun _ iv _ => m.length - (intOf iv).toNat)
          case atStart => exact ⟨0, Nat.zero_le _, rfl, rfl, (rfl : w2 = w2)⟩
          case round =>
            obtain ⟨k3, hk3, rfl, rfl, hweq3⟩ := hrel
            have hw3 := hweq3.out
            subst hw3
            by_cases hlt3 : k3 < m.length
            · obtain ⟨a', c', e', hcs⟩ := HRM2.out
              injection e' with e1 _ e2
              subst e1 e2
              rcases hcs with h | ⟨g, o, rfl, hlc, hcell⟩
              · rw [h] at hlt3; simp at hlt3
              obtain ⟨p0, p1⟩ := hcell k3 hlt3
              have HNX : Hid (_ = _) := inN_next m k3 hlt3 p
              clear hcell
              generalize (nthN m k3).1 = X at *
              generalize (nthN m k3).2 = Y at *
              have k0 : (0 : Int) ≤ (k3 : Int) := by omega
              have k1 : (k3 : Int) < (m.length : Int) := by omega
              generalize inN (m.take k3) p = ib at *
              generalize hd1 : decide (X ≤ p) = b1 at *
              generalize hd2 : decide (p < Y) = b2 at *
              cases ib <;> cases b1 <;> cases b2
              all_goals
                go_wp2
                go_roundw
                case rel => exact ⟨k3 + 1, by omega, by go_num, by rw [HNX.out]; rfl, (by first | exact hweq3 | exact (trivial : True))⟩
                case measure => simp [intOf]; omega
            · obtain rfl : k3 = m.length := by omega
              rw [List.take_length]
              have heq := HMO.out.2.1 p
              generalize inN m p = im at *
              subst heq
              have hbb : (inN t p == inN t p) = true := by simp
              go_wp2_with fail
              refine (HA.out _ HB2.out).mono ?_
              rintro e w6 ⟨rfl, hb6⟩
              have HB6 : Hid (Below w.heap.size w w6) := bel_trans HB2.out hb6
              clear hb6
              go_wp2
              go_ret
              exact ⟨ret_bool (by simp), HB6.out⟩

end Sn
end Go.Proofs.YtbgbidjngjdceaaDoor
