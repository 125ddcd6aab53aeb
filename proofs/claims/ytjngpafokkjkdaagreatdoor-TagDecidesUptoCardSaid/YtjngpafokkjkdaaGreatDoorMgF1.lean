/- Several texts as one. -/
import Derived.Test.YtjngpafokkjkdaaGreatDoorMgE1
import Derived.Test.YtjngpafokkjkdaaGreatDoorRows
import Derived.Test.YtjngpafokkjkdaaGreatDoorMgJ
import Derived.Test.YtjngpafokkjkdaaGreatDoorMgO
import Derived.OpenShut
import Derived.SliceStrings
import Derived.Carry
import Derived.Deep.Strs
import Derived.Test.YtjngpafokkjkdaaGreatDoorMgP
import Derived.LaidMore
import Derived.Deep.DeepHandedRow
import Derived.Lib.LaidTab
import Derived.Stop.LaidErr
/-
  The law TagDecides (written by mkwde.py).
-/
set_option linter.unusedVariables false
set_option linter.unusedSimpArgs false
namespace Go.Proofs.YtjngpafokkjkdaaGreatDoor
open Go.RowKit Go.Shelf
namespace Tt
open Oc Tg

theorem nth_mid (t : List Fd.Fl) (x : Fd.Fl) (j : Nat) (h : j < t.length) : Fd.nth (t ++ [x]) j = Fd.nth t j := by
  unfold Fd.nth; rw [List.getD_eq_getElem?_getD, List.getD_eq_getElem?_getD, List.getElem?_append_left h]
theorem nth_end (t : List Fd.Fl) (x : Fd.Fl) : Fd.nth (t ++ [x]) t.length = x := by
  unfold Fd.nth; rw [List.getD_eq_getElem?_getD]; simp

set_option maxRecDepth 100000 in
set_option maxHeartbeats 8000000 in
theorem walk_TagDecides (A : ByteArray) (u : Value) (t : List Fd.Fl) (now : Int) (s : St) (hnow : Bs.I64 now) (htm : -9223372036854775808 ≤ s.tm ∧ s.tm ≤ 9223372036854775807) (hA : A.size ≤ 1048576) (hsum : Fd.sumF t ≤ 1048576) (w : World) (hin : Fd.InF u t w) (hml : Fd.ML w) (tb : Bs.Tb w) :
    Calls Tryz.prog 3 #[.agg #[.string A, u, .int .i64 now], .agg #[.bool s.th, .bool s.own.1, .string (str s.own.2), .bool s.tg, .int .i64 s.tm, .bool s.td]] w fun e w' => e = .returned (.bool true) ∧ Below w.heap.size w w' := by
  have hlen := Fd.len_sumF t
  have HAw : Hid (∀ W, Fd.ML W → _) := fun W h => awake_any W h
  have HDc : Hid (∀ fv W, Fd.RdF fv t W → Fd.ML W → Bs.Tb W → _) := fun fv W h1 h2 h3 => Decide_any A.data.toList fv t s now W h1 hsum h2 hnow h3
  have HDr : Hid (∀ fv W, Fd.RdF fv t W → _) := fun fv W h1 => rDecide_any A.data.toList fv t s now hnow htm W h1 hsum
  have HSt : Hid (∀ W, _) := fun W => state8_any s W
  rw [str_self] at HDc HDr
  rw [rdec_eq] at HDr
  generalize decideV A.data.toList t s now = DV at *
  obtain ⟨ua, uc, hu, _⟩ := hin.1
  subst hu
  have HPl : Hid (∀ W, Fd.RdF (.slice ua t.length uc) t W → _) := fun W h => Fd.plain8_any _ t W h (by omega)
  have HI0 : Hid (Fd.InF (.slice ua t.length uc) t w) := hin
  have HML : Hid (Fd.ML w) := hml
  have HTB : Hid (Bs.Tb w) := tb
  clear hin hml tb
  obtain ⟨th, own, tg, tm, td⟩ := s
  obtain ⟨ob, ot⟩ := own
  dsimp only at *
  generalize str ot = OT at *
  obtain ⟨w1, hw1⟩ : ∃ w1, w1 = w.alloc (.cells #[.string A, .slice ua t.length uc, .int .i64 now] 24) := ⟨_, rfl⟩
  obtain ⟨w2, hw2⟩ : ∃ w2, w2 = w1.alloc (.cells #[.bool th, .bool ob, .string OT, .bool tg, .int .i64 tm, .bool td] 28) := ⟨_, rfl⟩
  have z1 : w1.heap.size = w.heap.size + 1 := by rw [hw1]; simp
  have z2 : w2.heap.size = w.heap.size + 2 := by rw [hw2]; simp; omega
  have HB2 : Hid (Below w.heap.size w w2) := (by rw [hw2, hw1]; exact ((Below.refl _ w).alloc (Nat.le_refl _) _).alloc (by simp) _ : Below _ _ _)
  have R0 : w2.heap[w.heap.size]? = some (.cells #[.string A, .slice ua t.length uc, .int .i64 now] 24 (0, 0)) := by
    rw [hw2, Lib.alloc_old w1 _ _ (by omega), hw1]; exact heap_alloc_new w _
  have R1 : w2.heap[w.heap.size + 1]? = some (.cells #[.bool th, .bool ob, .string OT, .bool tg, .int .i64 tm, .bool td] 28 (0, 0)) := by
    rw [hw2, ← z1]; exact heap_alloc_new w1 _
  have HK : Hid (∀ W : World, Below w2.heap.size w2 W → (W.cell? ⟨w.heap.size, 0, none⟩ = some (.string A) ∧ W.cell? ⟨w.heap.size, 1, none⟩ = some (.slice ua t.length uc) ∧ W.cell? ⟨w.heap.size, 2, none⟩ = some (.int .i64 now) ∧ W.cell? ⟨w.heap.size + 1, 0, none⟩ = some (.bool th) ∧ W.cell? ⟨w.heap.size + 1, 1, none⟩ = some (.bool ob) ∧ W.cell? ⟨w.heap.size + 1, 2, none⟩ = some (.string OT) ∧ W.cell? ⟨w.heap.size + 1, 3, none⟩ = some (.bool tg) ∧ W.cell? ⟨w.heap.size + 1, 4, none⟩ = some (.int .i64 tm) ∧ W.cell? ⟨w.heap.size + 1, 5, none⟩ = some (.bool td))) := fun W hb => by
    have X := (hb.block _ (Array.getElem?_eq_some_iff.1 R0).1).trans R0
    have Y := (hb.block _ (Array.getElem?_eq_some_iff.1 R1).1).trans R1
    exact ⟨by have := Lib.cell_of_heap X 0; simpa using this, by have := Lib.cell_of_heap X 1; simpa using this, by have := Lib.cell_of_heap X 2; simpa using this, by have := Lib.cell_of_heap Y 0; simpa using this, by have := Lib.cell_of_heap Y 1; simpa using this, by have := Lib.cell_of_heap Y 2; simpa using this, by have := Lib.cell_of_heap Y 3; simpa using this, by have := Lib.cell_of_heap Y 4; simpa using this, by have := Lib.cell_of_heap Y 5; simpa using this⟩
  have HRu : Hid (∀ W : World, Below w2.heap.size w2 W → Fd.InF (.slice ua t.length uc) t W) := fun W hb => HI0.out.below (bel_trans HB2.out hb)
  have HMu : Hid (∀ W : World, Below w2.heap.size w2 W → Fd.ML W) := fun W hb => HML.out.below (bel_trans HB2.out hb)
  have HTu : Hid (∀ W : World, Below w2.heap.size w2 W → Bs.Tb W) := fun W hb => HTB.out.bel (bel_trans HB2.out hb)
  clear R0 R1 z1 z2
  go_enter Tryz.func3, Tryz.ntmps3
  go_wp2_with fail
  rw [← hw1, ← hw2]
  clear hw1 hw2
  refine (HAw.out _ (HMu.out _ (Below.refl _ _))).mono ?_
  rintro e w3 ⟨rfl, hb3⟩
  have HB3 : Hid (Below w2.heap.size w2 w3) := hb3
  have hz3 := hb3.size
  obtain ⟨a0, a1, a2, b0, b1, b2, b3, b4, b5⟩ := HK.out w3 hb3
  have hP : w.heap.size < w3.heap.size := World.block_lt_of_cell? w3 _ a0
  have hQ : w.heap.size + 1 < w3.heap.size := World.block_lt_of_cell? w3 _ b0
  have HOe : Hid (Fd.OwnF 31 w3.heap.size (.slice (some ⟨w3.heap.size, 0, none⟩) 0 0) [] (w3.alloc (.cells #[] 31))) := Fd.ownF_empty _ w3 (Nat.le_refl _)
  have HBe : Hid (Below w2.heap.size w2 (w3.alloc (.cells #[] 31))) := hb3.alloc hz3 _
  have HIn : Hid (Fd.InF (.slice ua t.length uc) t (w3.alloc (.cells #[] 31))) := HRu.out _ HBe.out
  have HN : Hid ((⟨#[115, 112, 97, 114, 101]⟩ : ByteArray) = str [115, 112, 97, 114, 101]) := (rfl : _ = _)
  have HV : Hid ((⟨#[]⟩ : ByteArray) = str []) := (rfl : _ = _)
  have hla : w3.heap.size ≤ (w3.alloc (.cells #[] 31)).heap.size := by simp
  clear hb3
  go_wp2_with (first | (at_builtin; refine Fd.wp_appFs 31 22 Fd.infoF Tryz.underlying22 rfl (.tmp 12) (.tmp 14) rfl w3.heap.size _ _ [] t rfl HOe.out rfl HIn.out (by simp; omega) hla ?_; intro v4 w4 ho4 hb4; have HO4 : Hid (Fd.OwnF 31 w3.heap.size v4 t w4) := ho4; have HB4 : Hid (Below w3.heap.size w3 w4) := ((Below.refl _ w3).alloc (Nat.le_refl _) _).trans hb4; have hz4 : w3.heap.size ≤ w4.heap.size := HB4.out.size; clear ho4 hb4) | (at_builtin; go_must (refine Fd.wp_appF 31 22 Fd.infoF Tryz.underlying22 rfl (.tmp 15) (.tmp 17) rfl w3.heap.size _ t _ ([115, 112, 97, 114, 101], []) _ _ HN.out HV.out rfl HO4.out _ rfl rfl (by omega) hz4 ?_); intro v5 w5 ho5 hb5; have HO5 : Hid (Fd.OwnF 31 w3.heap.size v5 (t ++ [([115, 112, 97, 114, 101], [])]) w5) := ho5; have HB5 : Hid (Below w3.heap.size w3 w5) := HB4.out.trans hb5; clear ho5 hb5; obtain ⟨fa, fc, rfl⟩ := HO5.out.form))
  have HC5 : Hid (Below w2.heap.size w2 w5) := HB3.out.trans (HB5.out.mono HB3.out.size)
  have hcap : t.length + 1 ≤ fc := by have := HO5.out.rd.cap; rw [List.length_append] at this; exact this
  have hll : (t ++ [(([115, 112, 97, 114, 101], []) : Fd.Fl)]).length = t.length + 1 := by simp
  (try rw [hll])
  have HF5 : Hid (Fd.RdF (.slice fa (t.length + 1) fc) (t ++ [([115, 112, 97, 114, 101], [])]) w5) := (by have := HO5.out.rd; rw [hll] at this; exact this : Fd.RdF _ _ _)
  have HT5 : Hid (Fd.RdF (.slice fa t.length fc) t w5) := HF5.out.front
  obtain ⟨fg, hfg⟩ := HF5.out.some (by simp)
  have hl1 : t.length < t.length + 1 := by omega
  clear hll
  generalize t.length + 1 = L1 at *
  have hbd : Hid (Below w5.heap.size w5 w5.drew) := ⟨rfl, rfl, rfl, Nat.le_refl _, fun _ _ => rfl⟩
  have HCd : Hid (Below w2.heap.size w2 w5.drew) := HC5.out.trans (hbd.out.mono HC5.out.size)
  have HBn : Hid (Below w2.heap.size w2 w5.drew) := HCd.out
  clear a0 a1 a2 b0 b1 b2 b3 b4 b5 HO5
  obtain ⟨a0, a1, a2, b0, b1, b2, b3, b4, b5⟩ := HK.out w5 HC5.out
  obtain ⟨c0, c1, c2, d0, d1, d2, d3, d4, d5⟩ := HK.out w5.drew HCd.out
  have hn0 : (0 : Int) ≤ (t.length : Int) := by omega
  have hn1 : (t.length : Int) ≤ (fc : Int) := by omega
  have hn2 : t.length ≤ fc := by omega
  subst hfg
  go_wp2_with fail
  go_region_held3 (fun W => (W.cell? ⟨w.heap.size, 0, none⟩ = some (.string A) ∧ W.cell? ⟨w.heap.size, 1, none⟩ = some (.slice ua t.length uc) ∧ W.cell? ⟨w.heap.size, 2, none⟩ = some (.int .i64 now) ∧ W.cell? ⟨w.heap.size + 1, 0, none⟩ = some (.bool th) ∧ W.cell? ⟨w.heap.size + 1, 1, none⟩ = some (.bool ob) ∧ W.cell? ⟨w.heap.size + 1, 2, none⟩ = some (.string OT) ∧ W.cell? ⟨w.heap.size + 1, 3, none⟩ = some (.bool tg) ∧ W.cell? ⟨w.heap.size + 1, 4, none⟩ = some (.int .i64 tm) ∧ W.cell? ⟨w.heap.size + 1, 5, none⟩ = some (.bool td))) (first | with_reducible exact HK.out _ HBn.out) (first | (go_at_call 6; refine (HDc.out _ _ (HT5.out.below hbd.out) (HMu.out _ HCd.out) (HTu.out _ HCd.out)).mono ?_; rintro e wn ⟨rfl, hbn⟩; have HBn : Hid (Below w2.heap.size w2 wn) := HCd.out.trans (hbn.mono HCd.out.size); have HFn : Hid (Fd.RdF (.slice (some fg) L1 fc) (t ++ [([115, 112, 97, 114, 101], [])]) wn) := (HF5.out.below hbd.out).below hbn; clear hbn))
  clear a0 a1 a2 b0 b1 b2 b3 b4 b5 c0 c1 c2 d0 d1 d2 d3 d4 d5
  obtain ⟨w6, rfl⟩ : ∃ w6, w6 = wn := ⟨_, rfl⟩
  have HC6 : Hid (Below w2.heap.size w2 w6) := HBn.out
  have HF6 : Hid (Fd.RdF (.slice (some fg) L1 fc) (t ++ [([115, 112, 97, 114, 101], [])]) w6) := HFn.out
  clear HBn HFn
  have hbd6 : Hid (Below w6.heap.size w6 w6.drew) := ⟨rfl, rfl, rfl, Nat.le_refl _, fun _ _ => rfl⟩
  have HBn : Hid (Below w6.heap.size w6 w6.drew) := hbd6.out
  have HK6 : Hid (∀ W : World, Below w6.heap.size w6 W → (W.cell? ⟨w.heap.size, 0, none⟩ = some (.string A) ∧ W.cell? ⟨w.heap.size, 1, none⟩ = some (.slice ua t.length uc) ∧ W.cell? ⟨w.heap.size, 2, none⟩ = some (.int .i64 now) ∧ W.cell? ⟨w.heap.size + 1, 0, none⟩ = some (.bool th) ∧ W.cell? ⟨w.heap.size + 1, 1, none⟩ = some (.bool ob) ∧ W.cell? ⟨w.heap.size + 1, 2, none⟩ = some (.string OT) ∧ W.cell? ⟨w.heap.size + 1, 3, none⟩ = some (.bool tg) ∧ W.cell? ⟨w.heap.size + 1, 4, none⟩ = some (.int .i64 tm) ∧ W.cell? ⟨w.heap.size + 1, 5, none⟩ = some (.bool td))) := fun W hb => HK.out _ (HC6.out.trans (hb.mono HC6.out.size))
  have HR6 : Hid (∀ W : World, Below w6.heap.size w6 W → Fd.RdF (.slice ua t.length uc) t W) := fun W hb => (HRu.out _ (HC6.out.trans (hb.mono HC6.out.size))).1
  obtain ⟨a0, a1, a2, b0, b1, b2, b3, b4, b5⟩ := HK6.out w6 (Below.refl _ _)
  obtain ⟨c0, c1, c2, d0, d1, d2, d3, d4, d5⟩ := HK6.out w6.drew hbd6.out
  have HU : Hid (True) := trivial
  go_wp2_with fail
  go_region_held3 (fun W => (W.cell? ⟨w.heap.size, 0, none⟩ = some (.string A) ∧ W.cell? ⟨w.heap.size, 1, none⟩ = some (.slice ua t.length uc) ∧ W.cell? ⟨w.heap.size, 2, none⟩ = some (.int .i64 now) ∧ W.cell? ⟨w.heap.size + 1, 0, none⟩ = some (.bool th) ∧ W.cell? ⟨w.heap.size + 1, 1, none⟩ = some (.bool ob) ∧ W.cell? ⟨w.heap.size + 1, 2, none⟩ = some (.string OT) ∧ W.cell? ⟨w.heap.size + 1, 3, none⟩ = some (.bool tg) ∧ W.cell? ⟨w.heap.size + 1, 4, none⟩ = some (.int .i64 tm) ∧ W.cell? ⟨w.heap.size + 1, 5, none⟩ = some (.bool td))) (first | with_reducible exact HK6.out _ HBn.out) (first | (go_at_call 8; refine (HPl.out _ (HR6.out _ HBn.out)).mono ?_; rintro e wn ⟨v7, rfl, ho7, hbn⟩; have HBn : Hid (Below w6.heap.size w6 wn) := bel_trans HBn.out hbn; have HU : Hid (Fd.RdF v7 t wn) := ho7.rd; obtain ⟨va, vc, rfl, _⟩ := ho7.rd; clear hbn ho7) | (go_at_call 9; refine (HSt.out _).mono ?_; rintro e wn ⟨rfl, hbn⟩; have HBn : Hid (Below w6.heap.size w6 wn) := bel_trans HBn.out hbn; (try (have HU : Hid (Fd.RdF _ t wn) := HU.out.below hbn)); clear hbn) | (go_at_call 7; refine (HDr.out _ _ HU.out).mono ?_; rintro e wn ⟨rfl, hbn⟩; have HBn : Hid (Below w6.heap.size w6 wn) := bel_trans HBn.out hbn; clear hbn))
  all_goals
    clear HU a0 a1 a2 b0 b1 b2 b3 b4 b5 c0 c1 c2 d0 d1 d2 d3 d4 d5
    obtain ⟨w7, rfl⟩ : ∃ w7, w7 = wn := ⟨_, rfl⟩
    have HC7 : Hid (Below w6.heap.size w6 w7) := HBn.out
    clear HBn
    obtain ⟨a0, a1, a2, b0, b1, b2, b3, b4, b5⟩ := HK6.out w7 HC7.out
    have HF7 : Hid (Fd.RdF (.slice (some fg) L1 fc) (t ++ [([115, 112, 97, 114, 101], [])]) w7) := HF6.out.below HC7.out
    have HU7 : Hid (Fd.RdF (.slice ua t.length uc) t w7) := HR6.out _ HC7.out
    have HB7 : Hid (Below w.heap.size w w7) := bel_trans HB2.out (HC6.out.trans (HC7.out.mono HC6.out.size))
    go_wp2
    go_loopw [43] (fun i wr => ∃ k : Nat, k ≤ t.length ∧ i = .int .i64 k ∧ Hid (Below w7.heap.size w7 wr)) (fun i _ => t.length - (intOf i).toNat)
    case atStart => exact ⟨0, Nat.zero_le _, rfl, Below.refl _ _⟩
    case round =>
      obtain ⟨k, hk, rfl, hbl⟩ := hrel
      by_cases hlt : k < t.length
      · obtain ⟨a', c', e', hcs⟩ := HU7.out.below hbl.out
        injection e' with e1 _ e2
        subst e1 e2
        rcases hcs with h | ⟨g, o, rfl, hlc, hcell⟩
        · rw [h] at hlt; simp at hlt
        obtain ⟨p0, p1⟩ := hcell k hlt
        obtain ⟨a'', c'', e'', hcs2⟩ := HF7.out.below hbl.out
        injection e'' with e1 e3 e2
        subst e2
        clear e3
        rcases hcs2 with h | ⟨g2, o2, h2, hlc2, hcell2⟩
        · simp at h
        rw [h2] at e1
        injection e1 with e1
        subst e1
        obtain ⟨q0, q1⟩ := hcell2 k (by simp; omega)
        rw [nth_mid t _ k hlt] at q0 q1
        clear hcell hcell2 hlc2 h2
        have hgz : g < wr.heap.size := World.block_lt_of_cell? wr _ p0
        have hgz2 : g2 < wr.heap.size := World.block_lt_of_cell? wr _ q0
        generalize Fd.nth t k = p at *
        obtain ⟨pn, pv⟩ := p
        dsimp only at p0 p1 q0 q1
        generalize str pn = PN at *
        generalize str pv = PV at *
        have HWf : Hid (Below w7.heap.size w7 (wr.alloc (.cells #[.string PN, .string PV] 31))) := hbl.out.alloc hbl.out.size _
        have HWg : Hid (Below w7.heap.size w7 (wr.alloc (.cells #[.string PN, .string PV] 31)).drew) := below_drewN HWf.out 1
        have hk2 : k < L1 := by omega
        go_wp2_with fail
        go_region
        all_goals
          go_wp2
          go_roundw
          case rel => exact ⟨k + 1, by omega, by go_num, HWg⟩
          case measure => simp [intOf]; omega
      · obtain rfl : k = t.length := by omega
        obtain ⟨r0, r1, r2, s0, s1, s2, s3, s4, s5⟩ := HK6.out wr (HC7.out.trans (hbl.out.mono HC7.out.size))
        obtain ⟨a'', c'', e'', hcs2⟩ := HF7.out.below hbl.out
        injection e'' with e1 e3 e2
        subst e2
        clear e3
        rcases hcs2 with h | ⟨g2, o2, h2, hlc2, hcell2⟩
        · simp at h
        rw [h2] at e1
        injection e1 with e1
        subst e1
        obtain ⟨q0, q1⟩ := hcell2 t.length (by simp)
        rw [nth_end] at q0
        dsimp only at q0
        rw [← HN.out] at q0
        clear hcell2 hlc2 h2 q1
        have HBf : Hid (Below w.heap.size w wr) := bel_trans HB7.out hbl.out
        go_wp2
        go_ret
        exact ⟨rfl, HBf.out⟩

end Tt
end Go.Proofs.YtjngpafokkjkdaaGreatDoor

/-
  What was asked, and a state, that came in by value (written by mkopa.py).
-/
set_option linter.unusedVariables false
set_option linter.unusedSimpArgs false
namespace Go.Proofs.YtjngpafokkjkdaaGreatDoor
open Go.ChangeShapes Go.WideShapes Go.RowKit
namespace Fd
open Oc

set_option maxRecDepth 100000 in
theorem open_fieldsT {H : Type} {enc : TypeId × Value → H} {W : World} {v : Value} {d : DataW H} {ps : List MemPlace} (hval : ∃ a len cap, v = .slice a len cap)
    (h : DataW.Trod enc Tryz.prog W 0 (fun _ => true) true 22 v d ps) : ∃ t : List Fl, InF v t W ∧ bulkfields t ≤ Rows.uptoBulk d := by
  obtain ⟨a0, len, cap, rfl⟩ := hval
  obtain ⟨fuel, hf⟩ := h
  rcases DataW.trod_slice Tryz.underlying22 hf with ⟨hcs, hx⟩ | ⟨a, len', cap', elems, rest, n, _, hcs, hx, hb, hl, hm, hlen, hel, _, _⟩
  · simp [Value.cells] at hcs
    obtain ⟨rfl, rfl, rfl⟩ := hcs
    exact ⟨[], ⟨⟨none, 0, rfl, .inl rfl⟩, fun _ => .inl rfl⟩, by simp [bulkfields, sumF]⟩
  · simp [Value.cells] at hcs
    obtain ⟨rfl, rfl, rfl⟩ := hcs
    simp only [Prod.mk.injEq] at hx
    obtain ⟨rfl, rfl⟩ := hx
    have each : ∀ i y, elems[i]? = some y → ∃ (s1 s2 : ByteArray), y.1 = .agg [.lit (.string s1.data.toList), .lit (.string s2.data.toList)] ∧ W.cell? ((a.add (i * 2)).add 0) = some (.string s1) ∧ W.cell? ((a.add (i * 2)).add 1) = some (.string s2) := by
      intro i y hy
      have hi : i < len := by rw [← hlen]; exact (List.getElem?_eq_some_iff.1 hy).1
      have h1 := hel i hi
      rw [hy, cellsF, Option.bind_eq_some_iff] at h1
      obtain ⟨cs, hcs, ht⟩ := h1
      obtain ⟨ys, m, _, hx, hl4, hy4, hfs⟩ := DataW.trod_struct Tryz.underlying31 ht
      rw [cellsF] at hl4
      have hcc := (World.cells?_some hcs).2.2
      have t0 := hfs 0 _ rfl
      have t1 := hfs 1 _ rfl
      match cs, hl4 with
      | [x0, x1], _ =>
        match ys, hy4 with
        | [y0, y1], _ =>
          simp [cells9] at t0 t1
          obtain ⟨m0, e0, q0, w0⟩ := DataW.trod_string Tryz.underlying9 t0
          obtain ⟨m1, e1, q1, w1⟩ := DataW.trod_string Tryz.underlying9 t1
          simp at e0 e1
          subst e0 e1
          subst q0 q1
          refine ⟨m0, m1, ?_, hcc 0 (by omega), hcc 1 (by omega)⟩
          rw [hx]
          rfl
    refine ⟨elems.map flOf, ⟨⟨some a, cap, by rw [List.length_map, hlen], ?_⟩, fun e => .inr ⟨a, cap, by have := congrArg List.length e; rw [List.length_map, hlen] at this; rw [this]; rfl⟩⟩, ?_⟩
    · by_cases hl0 : len = 0
      · left
        have : elems = [] := List.length_eq_zero_iff.1 (by omega)
        rw [this]; rfl
      · right
        obtain ⟨g, o, spot⟩ := a
        have hspot : spot = none := by
          obtain ⟨y, hy⟩ : ∃ y, elems[0]? = some y := ⟨elems[0]'(by omega), List.getElem?_eq_getElem (by omega)⟩
          obtain ⟨s1, s2, _, c0, _⟩ := each 0 y hy
          simpa [Addr.add] using World.cell?_spot c0
        subst hspot
        refine ⟨g, o, rfl, by rw [List.length_map, hlen]; exact hl, fun j hj => ?_⟩
        rw [List.length_map] at hj
        obtain ⟨s1, s2, ey, c0, c1⟩ := each j _ (List.getElem?_eq_getElem hj)
        have en : nth (elems.map flOf) j = (s1.data.toList, s2.data.toList) := by
          unfold nth
          rw [List.getD_eq_getElem?_getD, List.getElem?_map, List.getElem?_eq_getElem hj]
          show flOf elems[j] = _
          unfold flOf
          rw [ey]
        rw [addr_add, addr_add] at c0 c1
        rw [en]
        dsimp only
        rw [str_self, str_self]
        exact ⟨c0, c1⟩
    · have hb := bulk_fls elems (fun y hy => by
        obtain ⟨i, hi⟩ := List.getElem?_of_mem hy
        obtain ⟨s1, s2, ey, _⟩ := each i y hi
        exact ⟨_, _, ey⟩)
      simp only [Rows.uptoBulk, hb, bulkfields]
      omega


theorem cells3a : Tryz.prog.cellsOf 3 = 1 := by kernel_rfl
theorem cells4a : Tryz.prog.cellsOf 4 = 1 := by kernel_rfl
theorem cellsA : Tryz.prog.cellsOf 24 = 3 := by kernel_rfl
theorem cellsLF : Tryz.prog.cellsOf 22 = 1 := by kernel_rfl
theorem cellsTa : Tryz.prog.cellsOf 26 = 2 := by kernel_rfl
theorem cellsSt : Tryz.prog.cellsOf 28 = 6 := by kernel_rfl
theorem array3 {α : Type} {cs : Array α} (h : cs.size = 3) : ∃ c0 c1 c2, cs = #[c0, c1, c2] := by
  obtain ⟨l⟩ := cs
  match l, h with
  | [c0, c1, c2], _ => exact ⟨c0, c1, c2, rfl⟩
theorem array6 {α : Type} {cs : Array α} (h : cs.size = 6) : ∃ c0 c1 c2 c3 c4 c5, cs = #[c0, c1, c2, c3, c4, c5] := by
  obtain ⟨l⟩ := cs
  match l, h with
  | [c0, c1, c2, c3, c4, c5], _ => exact ⟨c0, c1, c2, c3, c4, c5, rfl⟩
theorem list5 {α : Type} {cs : List α} (h : cs.length = 5) : ∃ c0 c1 c2 c3 c4, cs = [c0, c1, c2, c3, c4] := by
  match cs, h with
  | [c0, c1, c2, c3, c4], _ => exact ⟨c0, c1, c2, c3, c4, rfl⟩
theorem list2 {α : Type} {cs : List α} (h : cs.length = 2) : ∃ c0 c1, cs = [c0, c1] := by
  match cs, h with
  | [c0, c1], _ => exact ⟨c0, c1, rfl⟩
theorem i64_of {n : Int} (h : (Lit.int .i64 n).wf = true) : -9223372036854775808 ≤ n ∧ n ≤ 9223372036854775807 := by
  simpa [Lit.wf, IntKind.min, IntKind.max, IntKind.signed, IntKind.bits] using h

set_option maxRecDepth 100000 in
theorem open_asked {H : Type} {enc : TypeId × Value → H} {W : World} {base : Nat} {v : Value} {d : DataW H} {ps : List MemPlace} (hval : Value.okWide Tryz.prog W .any base 24 v)
    (h : DataW.Trod enc Tryz.prog W 0 (fun _ => true) true 24 v d ps) :
    ∃ (A : ByteArray) (u : Value) (t : List Fl) (n : Int), v = .agg #[.string A, u, .int .i64 n] ∧ InF u t W ∧ (-9223372036854775808 ≤ n ∧ n ≤ 9223372036854775807) ∧ A.size + bulkfields t ≤ Rows.uptoBulk d := by
  obtain ⟨cs, rfl, hsz⟩ := okWide_struct Tryz.underlying24 hval
  obtain ⟨c0, c1, c2, rfl⟩ := array3 (hsz.trans cellsA)
  obtain ⟨fuel, hf⟩ := h
  obtain ⟨y0, y1, y2, m, hx, _, t0, t1, t2⟩ := Deep.trod_struct3 Tryz.underlying24 hf
  simp only [cells9, cellsLF, cells3a, Value.cells, List.drop_zero] at t0 t1 t2
  obtain ⟨s1, e1, r1, _⟩ := DataW.trod_string Tryz.underlying9 t0
  obtain ⟨n, e3, r3, w3⟩ := DataW.trod_int Tryz.underlying3 t2
  have hs2 : ∃ a len cap, c1 = .slice a len cap := by
    rcases DataW.trod_slice Tryz.underlying22 t1 with ⟨hcs, _⟩ | ⟨a, len', cap', elems, rest, n, _, hcs, _⟩
    · simp at hcs; exact ⟨_, _, _, hcs⟩
    · simp at hcs; exact ⟨_, _, _, hcs⟩
  obtain ⟨a2, l2, cap2, rfl⟩ := hs2
  obtain ⟨t, ht, hb⟩ := open_fieldsT (enc := enc) (W := W) (v := .slice a2 l2 cap2) (d := y1.1) (ps := y1.2) ⟨_, _, _, rfl⟩ ⟨m, by simpa [Value.cells] using t1⟩
  simp at e1 e3
  subst e1 e3 r1 r3
  refine ⟨s1, _, t, n, rfl, ht, i64_of w3, ?_⟩
  have hd : d = .agg [.lit (.string s1.data.toList), y1.1, .lit (.int .i64 n)] := by
    injection hx
  rw [hd]
  simp only [Rows.uptoBulk, Rows.uptoBulkAll]
  have h1 := size_list s1
  omega

set_option maxRecDepth 100000 in
theorem open_state {H : Type} {enc : TypeId × Value → H} {W : World} {base : Nat} {v : Value} {d : DataW H} {ps : List MemPlace} (hval : Value.okWide Tryz.prog W .any base 28 v)
    (h : DataW.Trod enc Tryz.prog W 0 (fun _ => true) true 28 v d ps) :
    ∃ s : Tt.St, v = .agg #[.bool s.th, .bool s.own.1, .string (str s.own.2), .bool s.tg, .int .i64 s.tm, .bool s.td] ∧ (-9223372036854775808 ≤ s.tm ∧ s.tm ≤ 9223372036854775807) ∧ s.own.2.length ≤ Rows.uptoBulk d := by
  obtain ⟨cs, rfl, hsz⟩ := okWide_struct Tryz.underlying28 hval
  obtain ⟨x0, x1, x2, x3, x4, x5, rfl⟩ := array6 (hsz.trans cellsSt)
  obtain ⟨fuel, hf⟩ := h
  obtain ⟨xs, n, _, hx, hl, hlen, hff⟩ := DataW.trod_struct Tryz.underlying28 hf
  obtain ⟨z0, z1, z2, z3, z4, rfl⟩ := list5 (hlen.trans rfl)
  have f0 := hff 0 _ rfl
  have f1 := hff 1 _ rfl
  have f2 := hff 2 _ rfl
  have f3 := hff 3 _ rfl
  have f4 := hff 4 _ rfl
  simp [Value.cells, cells9, cells4a, cells3a, cellsTa] at f0 f1 f2 f3 f4
  obtain ⟨b0, e0, r0⟩ := DataW.trod_bool Tryz.underlying4 f0
  obtain ⟨ys, n1, _, hx1, hl1, hlen1, hff1⟩ := DataW.trod_struct Tryz.underlying26 f1
  obtain ⟨q0, q1, rfl⟩ := list2 (hlen1.trans rfl)
  have g0 := hff1 0 _ rfl
  have g1 := hff1 1 _ rfl
  simp [cells9, cells4a] at g0 g1
  obtain ⟨b1, e1, r1⟩ := DataW.trod_bool Tryz.underlying4 g0
  obtain ⟨t2, e2, r2, _⟩ := DataW.trod_string Tryz.underlying9 g1
  obtain ⟨b3, e3, r3⟩ := DataW.trod_bool Tryz.underlying4 f2
  obtain ⟨m4, e4, r4, w4⟩ := DataW.trod_int Tryz.underlying3 f3
  obtain ⟨b5, e5, r5⟩ := DataW.trod_bool Tryz.underlying4 f4
  subst r0 r1 r2 r3 r4 r5
  simp at e0 e1 e2 e3 e4 e5 hx hx1
  subst e0 e1 e2 e3 e4 e5
  refine ⟨⟨b0, (b1, t2.data.toList), b3, m4, b5⟩, by simp [str_self], i64_of w4, ?_⟩
  rw [hx.1, hx1]
  simp only [Rows.uptoBulk, Rows.uptoBulkAll]
  omega

end Fd
end Go.Proofs.YtjngpafokkjkdaaGreatDoor

/-
  The tables of dates lie where the program's text lays them (for the rows of tag).
-/
set_option linter.unusedVariables false
set_option linter.unusedSimpArgs false
namespace Go.Proofs.YtjngpafokkjkdaaGreatDoor
open Go.ChangeShapes Go.WideShapes Go.ChangeAt Go.RowKit
namespace Bs

def stabData {H : Type} (zs : List (List UInt8)) : DataW H := .agg (zs.map fun z => .lit (.string z))
theorem cells_of_stab {H : Type} {enc : TypeId × Value → H} {P : Program} {w : World} {base : Nat} {sp : Nat → Bool} {held : Bool} {fuel : Nat} {t e : TypeId} {n : Nat} {cs : List Value} {zs : List (List UInt8)} {p : List MemPlace}
    (ht : P.underlying t = some (.array n e)) (he : P.underlying e = some .string) (hce : P.cellsOf e = 1) (hct : P.cellsOf t = n)
    (h : DataW.trod enc P w base sp held fuel t cs = some (stabData zs, p)) : cs = zs.map fun z => Value.string (str z) := by
  cases fuel with
  | zero => simp [DataW.trod] at h
  | succ fuel =>
    simp only [DataW.trod, ht, hce, hct, Nat.mul_one] at h
    split at h
    · rename_i hl
      obtain ⟨xs, hm, hx⟩ := Option.map_eq_some_iff.1 h
      have hxs : xs.map (·.1) = zs.map fun z => (DataW.lit (.string z) : DataW H) := by
        have := congrArg Prod.fst hx
        simpa [stabData] using this
      have hxl : xs.length = n := by simpa using Lib.mapM_length hm
      have hzl : zs.length = n := by
        have := congrArg List.length hxs
        simp at this
        omega
      apply List.ext_getElem?
      intro i
      by_cases hi : i < n
      · obtain ⟨b, hb, hf⟩ := Lib.mapM_at hm i i (by simp [hi])
        obtain ⟨z, hc, rfl, _⟩ := DataW.trod_string he hf
        have h1 : cs[i]? = some (.string z) := by
          have := congrArg (·[0]?) hc
          simpa [List.getElem?_take, List.getElem?_drop] using this
        have h2 : (xs.map (·.1))[i]? = some (DataW.lit (.string z.data.toList) : DataW H) := by simp [hb]
        rw [hxs] at h2
        simp only [List.getElem?_map, Option.map_eq_some_iff, DataW.lit.injEq, Lit.string.injEq] at h2
        obtain ⟨z', hz', e⟩ := h2
        simp [h1, hz', e, str_self]
      · rw [List.getElem?_eq_none (by omega), List.getElem?_eq_none (by simp; omega)]
    · cases h
theorem stab_cell {P : Program} {W : World} {name : String} {zs : List (List UInt8)} {rest : List (String × DataW Unit)} {g : Nat} {t e : TypeId} {n : Nat}
    (hg : P.globalNamed name = some g) (hty : (P.globals[g]?).map (·.type) = some t) (ht : P.underlying t = some (.array n e)) (he : P.underlying e = some .string) (hce : P.cellsOf e = 1) (hct : P.cellsOf t = n)
    (h : laidMet P ((name, stabData zs) :: rest) W) (i : Nat) (hi : i < zs.length) : W.cell? ⟨g, i, none⟩ = some (.string (str (zs.getD i []))) := by
  obtain ⟨ps, ⟨g', t', cs, fuel, p, q, hg', ht', hvar, hd, _, _⟩, _⟩ := h
  obtain rfl := Option.some.inj (hg.symm.trans hg')
  obtain rfl := Option.some.inj (hty.symm.trans ht')
  have hv : W.var? P name = some (zs.map fun z => Value.string (str z)).toArray := by rw [hvar, ← cells_of_stab ht he hce hct hd]
  have := World.var?_cell hg hv i
  simpa [List.getD, hi] using this

def laidL8 : List (String × DataW Unit) := [("unicode/utf8.acceptRanges", Rows.laid_unicode_utf8_acceptRanges), ("turnpike/stamp.plainMonths", Rows.laid_turnpike_stamp_plainMonths), ("turnpike/stamp.shortDays", Rows.laid_turnpike_stamp_shortDays), ("turnpike/stamp.longDays", Rows.laid_turnpike_stamp_longDays), ("turnpike/stamp.months", Rows.laid_turnpike_stamp_months), ("unicode/utf8.first", Rows.laid_unicode_utf8_first)]
theorem gPm : Tryz.prog.globalNamed "turnpike/stamp.plainMonths" = some 2 := by kernel_rfl
theorem gSd : Tryz.prog.globalNamed "turnpike/stamp.shortDays" = some 0 := by kernel_rfl
theorem gLd : Tryz.prog.globalNamed "turnpike/stamp.longDays" = some 1 := by kernel_rfl
theorem gMo : Tryz.prog.globalNamed "turnpike/stamp.months" = some 3 := by kernel_rfl
theorem tPm : (Tryz.prog.globals[2]?).map (·.type) = some 149 := by kernel_rfl
theorem tSd : (Tryz.prog.globals[0]?).map (·.type) = some 134 := by kernel_rfl
theorem tLd : (Tryz.prog.globals[1]?).map (·.type) = some 134 := by kernel_rfl
theorem tMo : (Tryz.prog.globals[3]?).map (·.type) = some 153 := by kernel_rfl

theorem tb_of_laid8 {W : World} (h : laidMetH Tryz.prog laidL8 W) : Tb W := by
  rw [MakeChecks.laidMetH_plain _ _ _ (by kernel_rfl)] at h
  have h3 := laidMet.tail h
  have h4 := laidMet.tail h3
  have h5 := laidMet.tail h4
  have h6 := laidMet.tail h5
  have hM := Lib.tabIs_of_head (k := .i64) (zs := pms) gPm tPm Tryz.underlying149 Tryz.underlying3 (by kernel_rfl) (by kernel_rfl) h3
  have hS := stab_cell (zs := shorts) gSd tSd Tryz.underlying134 Tryz.underlying9 (by kernel_rfl) (by kernel_rfl) h4
  have hL := stab_cell (zs := longs) gLd tLd Tryz.underlying134 Tryz.underlying9 (by kernel_rfl) (by kernel_rfl) h5
  have hO := stab_cell (zs := mons) gMo tMo Tryz.underlying153 Tryz.underlying9 (by kernel_rfl) (by kernel_rfl) h6
  exact ⟨World.block_lt_of_cell? W _ (hM.cell gPm 0 (by decide)), World.block_lt_of_cell? W _ (hS 0 (by decide)), World.block_lt_of_cell? W _ (hL 0 (by decide)), World.block_lt_of_cell? W _ (hO 0 (by decide)), fun i hi => hM.cell gPm i hi, fun i hi => hS i hi, fun i hi => hL i hi, fun i hi => hO i hi⟩

end Bs
end Go.Proofs.YtjngpafokkjkdaaGreatDoor
