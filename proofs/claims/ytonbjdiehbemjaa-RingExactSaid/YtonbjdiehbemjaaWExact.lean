/-
  The walk of the law RingExact.
-/
import Derived.Test.YtonbjdiehbemjaaGStep
import Derived.Test.YtonbjdiehbemjaaWArgument
import Derived.Test.YtonbjdiehbemjaaGArg3
set_option linter.unusedVariables false
set_option linter.unusedSimpArgs false
namespace Go.Proofs.Ytonbjdiehbemjaa
open Go.RowKit
namespace Rg

set_option maxRecDepth 100000 in
set_option maxHeartbeats 4000000 in
theorem walkS_RingExact (S : StepAll) (cp : Int) (v1 : Value) (ls : List Op) (w : World) (h1 : RdO w v1 ls) (hM : ML w) (hcp0 : -9223372036854775808 ≤ cp) (hcp1 : cp ≤ 9223372036854775807) (hz : ls.length ≤ 9223372036854775807) :
    Calls Try.prog 3 #[.int .i64 cp, v1] w fun e w' => e = .returned (.bool true) ∧ Below w.heap.size w w' := by
  have SA : Hid StepAll := S
  have HML : Hid (ML w) := hM
  obtain ⟨a1, c1, rfl, hc1, hr1⟩ := h1
  have HR1 : Hid (ls = [] ∨ ∃ g o, a1 = some ⟨g, o, none⟩ ∧ ∀ j x, ls[j]? = some x → ∃ u, OpAt w g (o + j * 4) x u) := hr1
  clear hr1 S hM
  go_enter Try.func3, Try.ntmps3
  go_wp2_with fail
  refine (awake_any w).mono ?_
  rintro e w1 ⟨rfl, hb⟩
  have HB1 : Hid (Below w.heap.size w w1) := hb
  clear hb
  go_wp2_with fail
  refine (madeP w1 cp hcp0 hcp1).mono ?_
  rintro e w2 ⟨p, bs, cap, rfl, hP, hbs, hb⟩
  have HB2 : Hid (Below w.heap.size w w2) := bel_trans HB1.out hb
  have HP2 : Hid (RingP w2 p bs cap 0 []) := hP
  have HBS : Hid (∀ x ∈ bs, w.heap.size ≤ x) := fun x hx => Nat.le_trans HB1.out.size (hbs x hx)
  have HBS2 : Hid (∀ x ∈ bs, x < w2.heap.size) := hP.lt
  obtain ⟨_, hcap⟩ := hP.hlen
  clear hP hbs hb
  obtain ⟨mb, hmb⟩ : ∃ mb, mb = w2.heap.size := ⟨_, rfl⟩
  have hmb0 : w.heap.size ≤ mb := by rw [hmb]; exact HB2.out.size
  have HBM : Hid (∀ x ∈ bs, x < mb) := (by rw [hmb]; exact HBS2.out : ∀ x ∈ bs, x < mb)
  obtain ⟨w3, hw3⟩ : ∃ w3, w3 = w2.alloc (.cells #[.int .i64 (cap : Int), .slice none 0 0, .int .i64 0] 27) := ⟨_, rfl⟩
  have HM3 : Hid (w3.heap[mb]? = some (.cells #[.int .i64 (cap : Int), .slice none 0 0, .int .i64 0] 27 (0, 0))) := (by rw [hw3, hmb]; exact heap_alloc_new _ _ : w3.heap[mb]? = _)
  have HB3 : Hid (Below w.heap.size w w3) := (by rw [hw3]; exact HB2.out.alloc HB2.out.size _ : Below w.heap.size w w3)
  have HP3 : Hid (RingP w3 p bs cap 0 []) := (by rw [hw3]; exact HP2.out.below ((Below.refl _ _).alloc (Nat.le_refl _) _) : RingP w3 p bs cap 0 [])
  go_wp2
  rw [← hw3, ← hmb]
  clear hw3 hmb HP2 HBS2
  go_loopw [22] (fun i wr => ∃ (k h : Nat) (mv : Value) (ml : List UInt8), k ≤ ls.length ∧ i = .int .i64 k ∧ Hid (wr.heap[mb]? = some (.cells #[.int .i64 (cap : Int), mv, .int .i64 (h : Int)] 27 (0, 0))) ∧ Hid (RdB wr mv ml) ∧ Hid (∀ g, mv.ownBlock = some g → mb < g) ∧ Hid (RingP wr p bs cap h ml) ∧ Hid (h < cap ∨ (cap = 0 ∧ h = 0)) ∧ Hid (Below w.heap.size w wr)) (fun i _ => ls.length - (intOf i).toNat)
  case atStart => exact ⟨0, 0, .slice none 0 0, [], Nat.zero_le _, rfl, HM3, RdB.nil _, (fun g hg => by cases hg), HP3, (by omega : 0 < cap ∨ (cap = 0 ∧ 0 = 0)), HB3⟩
  case round =>
    obtain ⟨k, h, mv, ml, hk, rfl, HM, HMV, HMG, HP, HH, HB⟩ := hrel
    obtain ⟨hml, _⟩ := HP.out.hlen
    by_cases hlt : k < ls.length
    · obtain ⟨x, hx⟩ : ∃ x, ls[k]? = some x := ⟨_, List.getElem?_eq_getElem hlt⟩
      rcases HR1.out with e | ⟨g, o, rfl, hcell⟩
      · rw [e] at hlt; simp at hlt
      obtain ⟨u, hu⟩ := hcell k x hx
      have HU : Hid (OpAt w g (o + k * 4) x u) := hu
      have HUB : Hid (x.p ≠ [] → ∀ g, u.ownBlock = some g → g < w.heap.size) := hu.p.in
      obtain ⟨K, I, N, q⟩ := x
      obtain ⟨au, cu, rfl, hcu, _⟩ := hu.p
      have e0 : wr.cell? ⟨g, o + k * 4, none⟩ = some (.int .i64 K) := (But.of_below HB.out).cell hu.c0 (fun e => by cases e)
      have e1 : wr.cell? ⟨g, o + k * 4 + 1, none⟩ = some (.int .i64 I) := (But.of_below HB.out).cell hu.c1 (fun e => by cases e)
      have e2 : wr.cell? ⟨g, o + k * 4 + 2, none⟩ = some (.int .i64 N) := (But.of_below HB.out).cell hu.c2 (fun e => by cases e)
      have e3 : wr.cell? ⟨g, o + k * 4 + 3, none⟩ = some (.slice au q.length cu) := (But.of_below HB.out).cell hu.c3 (fun e => by cases e)
      have hlt' : ((k : Nat) : Int) < ((ls.length : Nat) : Int) := by omega
      have hmbr : mb < wr.heap.size := (Array.getElem?_eq_some_iff.1 HM.out).1
      clear hcell hu hx
      obtain ⟨w4, hw4⟩ : ∃ w4, w4 = wr.alloc (.cells #[.int .i64 K, .int .i64 I, .int .i64 N, .slice au q.length cu] 31) := ⟨_, rfl⟩
      have HB4 : Hid (Below wr.heap.size wr w4) := (by rw [hw4]; exact (Below.refl _ _).alloc (Nat.le_refl _) _ : Below wr.heap.size wr w4)
      have HO4 : Hid (w4.heap[wr.heap.size]? = some (.cells #[.int .i64 K, .int .i64 I, .int .i64 N, .slice au q.length cu] 31 (0, 0))) := (by rw [hw4]; exact heap_alloc_new _ _ : w4.heap[wr.heap.size]? = _)
      obtain ⟨am, cm, rfl, hcm, _⟩ := HMV.out
      obtain ⟨d0, d1, d2, df⟩ := row3 HM.out
      go_wp2_with fail
      rw [← hw4]
      clear hw4 e0 e1 e2 e3 d0 d1 d2 df
      refine (SA.out ⟨HP.out.below HB4.out, HMV.out.below HB4.out, (fun g hg hb => by have := HMG.out g hg; have := HBM.out g hb; omega), HH.out, HU.out.k0, HU.out.k1, HU.out.i0, HU.out.i1, HU.out.n0, HU.out.n1, HU.out.p.below (bel_trans HB.out HB4.out), (fun hne g hg hb => by have := HUB.out hne g hg; have := HBS.out g hb; omega), HU.out.len, HML.out.below (bel_trans HB.out HB4.out), (fun hb => by have := HBS.out _ hb; have := ML.lt HML.out; omega)⟩).mono ?_
      rintro e w5 ⟨mv5, h5, xs5, rfl, hh5, hrd, hor, hP5, hb5⟩
      have HH5 : Hid (h5 < cap ∨ (cap = 0 ∧ h5 = 0)) := hh5
      have HMG5 : Hid (∀ g, mv5.ownBlock = some g → mb < g) := (fun g hg => by
        rcases hor with rfl | hor
        · exact HMG.out g hg
        · have := hor g hg; have := HB4.out.size; omega : ∀ g, mv5.ownBlock = some g → mb < g)
      have HV5 : Hid (RdB w5 mv5 xs5) := hrd
      have HP5 : Hid (RingP w5 p bs cap h5 xs5) := hP5
      have HB5 : Hid (Below w.heap.size w w5) := HB.out.trans ((HB4.out.mono HB.out.size).trans (hb5.below (by have := HB.out.size; have := HB4.out.size; omega) HBS.out))
      have HM5 : Hid (w5.heap[mb]? = some (.cells #[.int .i64 (cap : Int), .slice am ml.length cm, .int .i64 (h : Int)] 27 (0, 0))) := hb5.heap ((But.of_below HB4.out).heap HM.out (fun e => by cases e)) (fun hb => by have := HBM.out mb hb; omega)
      obtain ⟨a5, c5, rfl, hc5, _⟩ := hrd
      clear hh5 hor hP5 hb5
      obtain ⟨d0, d1, d2, df⟩ := row3 HM5.out
      have z1 := heap_setCell_same w5 mb 0 _ _ (.int .i64 (cap : Int)) HM5.out
      have z2 := heap_setCell_same _ mb 1 _ _ (.slice a5 xs5.length c5) z1
      have z3 := heap_setCell_same _ mb 2 _ _ (.int .i64 (h5 : Int)) z2
      have BT : Hid (But [mb] w5 (((w5.setCell ⟨mb, 0, none⟩ (.int .i64 (cap : Int))).setCell ⟨mb, 1, none⟩ (.slice a5 xs5.length c5)).setCell ⟨mb, 2, none⟩ (.int .i64 (h5 : Int)))) := (((But.refl _ w5).setCell (by simp) _).setCell (by simp) _).setCell (by simp) _
      have Z3 : Hid (_ = _) := z3
      clear z1 z2 z3
      go_wp2
      go_roundw
      case rel => exact ⟨k + 1, h5, _, xs5, by omega, by go_num, Z3, HV5.out.but BT.out (fun x hx hb => by have := HMG5.out x hx; simp at hb; omega), HMG5, HP5.out.but BT.out (fun x hx hb => by have := HBM.out x hx; simp at hb; omega), HH5, HB5.out.trans (BT.out.below HB5.out.size (by simp; omega))⟩
      case measure => simp [intOf]; omega
    · have hlt' : ¬ ((k : Nat) : Int) < ((ls.length : Nat) : Int) := by omega
      go_wp2
      go_ret
      exact ⟨rfl, HB.out⟩

end Rg
end Go.Proofs.Ytonbjdiehbemjaa
