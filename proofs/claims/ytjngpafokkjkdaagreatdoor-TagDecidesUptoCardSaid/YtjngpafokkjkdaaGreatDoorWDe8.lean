/-
  The law TagDecides (written by mkwde.py).
-/
import Derived.Test.YtjngpafokkjkdaaGreatDoorTLw8
set_option linter.unusedVariables false
set_option linter.unusedSimpArgs false
namespace Go.Proofs.YtjngpafokkjkdaaGreatDoor
open Go.RowKit Go.Shelf
namespace Tt
open Oc Tg

theorem nth_mid (t : List Fd.Fl) (x : Fd.Fl) (j : Nat) (h : j < t.length) : Fd.nth (t ++ [x]) j = Fd.nth t j := by
  unfold Fd.nth; rw [List.getD_eq_getElem?_getD, List.getD_eq_getElem?_getD, List.getElem?_append_left h]
theorem nth_end (t : List Fd.Fl) (x : Fd.Fl) : Fd.nth (t ++ [x]) t.length = x := by
  unfold Fd.nth; rw [List.getD_eq_getElem?_getD]; simp

set_option maxRecDepth 100000 in
set_option maxHeartbeats 8000000 in
theorem walk_TagDecides (A : ByteArray) (u : Value) (t : List Fd.Fl) (now : Int) (s : St) (hnow : Bs.I64 now) (htm : -9223372036854775808 ≤ s.tm ∧ s.tm ≤ 9223372036854775807) (hA : A.size ≤ 1048576) (hsum : Fd.sumF t ≤ 1048576) (w : World) (hin : Fd.InF u t w) (hml : Fd.ML w) (tb : Bs.Tb w) :
    Calls Tryz.prog 3 #[.agg #[.string A, u, .int .i64 now], .agg #[.bool s.th, .bool s.own.1, .string (str s.own.2), .bool s.tg, .int .i64 s.tm, .bool s.td]] w fun e w' => e = .returned (.bool true) ∧ Below w.heap.size w w' := by
  have hlen := Fd.len_sumF t
  have HAw : Hid (∀ W, Fd.ML W → _) := fun W h => awake_any W h
  have HDc : Hid (∀ fv W, Fd.RdF fv t W → Fd.ML W → Bs.Tb W → _) := fun fv W h1 h2 h3 => Decide_any A.data.toList fv t s now W h1 hsum h2 hnow h3
  have HDr : Hid (∀ fv W, Fd.RdF fv t W → _) := fun fv W h1 => rDecide_any A.data.toList fv t s now hnow htm W h1 hsum
  have HSt : Hid (∀ W, _) := fun W => state8_any s W
  rw [str_self] at HDc HDr
  rw [rdec_eq] at HDr
  generalize decideV A.data.toList t s now = DV at *
  obtain ⟨ua, uc, hu, _⟩ := hin.1
  subst hu
  have HPl : Hid (∀ W, Fd.RdF (.slice ua t.length uc) t W → _) := fun W h => Fd.plain8_any _ t W h (by omega)
  have HI0 : Hid (Fd.InF (.slice ua t.length uc) t w) := hin
  have HML : Hid (Fd.ML w) := hml
  have HTB : Hid (Bs.Tb w) := tb
  clear hin hml tb
  obtain ⟨th, own, tg, tm, td⟩ := s
  obtain ⟨ob, ot⟩ := own
  dsimp only at *
  generalize str ot = OT at *
  obtain ⟨w1, hw1⟩ : ∃ w1, w1 = w.alloc (.cells #[.string A, .slice ua t.length uc, .int .i64 now] 24) := ⟨_, rfl⟩
  obtain ⟨w2, hw2⟩ : ∃ w2, w2 = w1.alloc (.cells #[.bool th, .bool ob, .string OT, .bool tg, .int .i64 tm, .bool td] 28) := ⟨_, rfl⟩
  have z1 : w1.heap.size = w.heap.size + 1 := by rw [hw1]; simp
  have z2 : w2.heap.size = w.heap.size + 2 := by rw [hw2]; simp; omega
  have HB2 : Hid (Below w.heap.size w w2) := (by rw [hw2, hw1]; exact ((Below.refl _ w).alloc (Nat.le_refl _) _).alloc (by simp) _ : Below _ _ _)
  have R0 : w2.heap[w.heap.size]? = some (.cells #[.string A, .slice ua t.length uc, .int .i64 now] 24 (0, 0)) := by
    rw [hw2, Lib.alloc_old w1 _ _ (by omega), hw1]; exact heap_alloc_new w _
  have R1 : w2.heap[w.heap.size + 1]? = some (.cells #[.bool th, .bool ob, .string OT, .bool tg, .int .i64 tm, .bool td] 28 (0, 0)) := by
    rw [hw2, ← z1]; exact heap_alloc_new w1 _
  have HK : Hid (∀ W : World, Below w2.heap.size w2 W → (W.cell? ⟨w.heap.size, 0, none⟩ = some (.string A) ∧ W.cell? ⟨w.heap.size, 1, none⟩ = some (.slice ua t.length uc) ∧ W.cell? ⟨w.heap.size, 2, none⟩ = some (.int .i64 now) ∧ W.cell? ⟨w.heap.size + 1, 0, none⟩ = some (.bool th) ∧ W.cell? ⟨w.heap.size + 1, 1, none⟩ = some (.bool ob) ∧ W.cell? ⟨w.heap.size + 1, 2, none⟩ = some (.string OT) ∧ W.cell? ⟨w.heap.size + 1, 3, none⟩ = some (.bool tg) ∧ W.cell? ⟨w.heap.size + 1, 4, none⟩ = some (.int .i64 tm) ∧ W.cell? ⟨w.heap.size + 1, 5, none⟩ = some (.bool td))) := fun W hb => by
    have X := (hb.block _ (Array.getElem?_eq_some_iff.1 R0).1).trans R0
    have Y := (hb.block _ (Array.getElem?_eq_some_iff.1 R1).1).trans R1
    exact ⟨by have := Lib.cell_of_heap X 0; simpa using this, by have := Lib.cell_of_heap X 1; simpa using this, by have := Lib.cell_of_heap X 2; simpa using this, by have := Lib.cell_of_heap Y 0; simpa using this, by have := Lib.cell_of_heap Y 1; simpa using this, by have := Lib.cell_of_heap Y 2; simpa using this, by have := Lib.cell_of_heap Y 3; simpa using this, by have := Lib.cell_of_heap Y 4; simpa using this, by have := Lib.cell_of_heap Y 5; simpa using this⟩
  have HRu : Hid (∀ W : World, Below w2.heap.size w2 W → Fd.InF (.slice ua t.length uc) t W) := fun W hb => HI0.out.below (bel_trans HB2.out hb)
  have HMu : Hid (∀ W : World, Below w2.heap.size w2 W → Fd.ML W) := fun W hb => HML.out.below (bel_trans HB2.out hb)
  have HTu : Hid (∀ W : World, Below w2.heap.size w2 W → Bs.Tb W) := fun W hb => HTB.out.bel (bel_trans HB2.out hb)
  clear R0 R1 z1 z2
  go_enter Tryz.func3, Tryz.ntmps3
  go_wp2_with fail
  rw [← hw1, ← hw2]
  clear hw1 hw2
  refine (HAw.out _ (HMu.out _ (Below.refl _ _))).mono ?_
  rintro e w3 ⟨rfl, hb3⟩
  have HB3 : Hid (Below w2.heap.size w2 w3) := hb3
  have hz3 := hb3.size
  obtain ⟨a0, a1, a2, b0, b1, b2, b3, b4, b5⟩ := HK.out w3 hb3
  have hP : w.heap.size < w3.heap.size := World.block_lt_of_cell? w3 _ a0
  have hQ : w.heap.size + 1 < w3.heap.size := World.block_lt_of_cell? w3 _ b0
  have HOe : Hid (Fd.OwnF 31 w3.heap.size (.slice (some ⟨w3.heap.size, 0, none⟩) 0 0) [] (w3.alloc (.cells #[] 31))) := Fd.ownF_empty _ w3 (Nat.le_refl _)
  have HBe : Hid (Below w2.heap.size w2 (w3.alloc (.cells #[] 31))) := hb3.alloc hz3 _
  have HIn : Hid (Fd.InF (.slice ua t.length uc) t (w3.alloc (.cells #[] 31))) := HRu.out _ HBe.out
  have HN : Hid ((⟨#[115, 112, 97, 114, 101]⟩ : ByteArray) = str [115, 112, 97, 114, 101]) := (rfl : _ = _)
  have HV : Hid ((⟨#[]⟩ : ByteArray) = str []) := (rfl : _ = _)
  have hla : w3.heap.size ≤ (w3.alloc (.cells #[] 31)).heap.size := by simp
  clear hb3
  go_wp2_with (first | (at_builtin; refine Fd.wp_appFs 31 22 Fd.infoF Tryz.underlying22 rfl (.tmp 12) (.tmp 14) rfl w3.heap.size _ _ [] t rfl HOe.out rfl HIn.out (by simp; omega) hla ?_; intro v4 w4 ho4 hb4; have HO4 : Hid (Fd.OwnF 31 w3.heap.size v4 t w4) := ho4; have HB4 : Hid (Below w3.heap.size w3 w4) := ((Below.refl _ w3).alloc (Nat.le_refl _) _).trans hb4; have hz4 : w3.heap.size ≤ w4.heap.size := HB4.out.size; clear ho4 hb4) | (at_builtin; go_must (refine Fd.wp_appF 31 22 Fd.infoF Tryz.underlying22 rfl (.tmp 15) (.tmp 17) rfl w3.heap.size _ t _ ([115, 112, 97, 114, 101], []) _ _ HN.out HV.out rfl HO4.out _ rfl rfl (by omega) hz4 ?_); intro v5 w5 ho5 hb5; have HO5 : Hid (Fd.OwnF 31 w3.heap.size v5 (t ++ [([115, 112, 97, 114, 101], [])]) w5) := ho5; have HB5 : Hid (Below w3.heap.size w3 w5) := HB4.out.trans hb5; clear ho5 hb5; obtain ⟨fa, fc, rfl⟩ := HO5.out.form))
  have HC5 : Hid (Below w2.heap.size w2 w5) := HB3.out.trans (HB5.out.mono HB3.out.size)
  have hcap : t.length + 1 ≤ fc := by have := HO5.out.rd.cap; rw [List.length_append] at this; exact this
  have hll : (t ++ [(([115, 112, 97, 114, 101], []) : Fd.Fl)]).length = t.length + 1 := by simp
  (try rw [hll])
  have HF5 : Hid (Fd.RdF (.slice fa (t.length + 1) fc) (t ++ [([115, 112, 97, 114, 101], [])]) w5) := (by have := HO5.out.rd; rw [hll] at this; exact this : Fd.RdF _ _ _)
  have HT5 : Hid (Fd.RdF (.slice fa t.length fc) t w5) := HF5.out.front
  obtain ⟨fg, hfg⟩ := HF5.out.some (by simp)
  have hl1 : t.length < t.length + 1 := by omega
  clear hll
  generalize t.length + 1 = L1 at *
  have hbd : Hid (Below w5.heap.size w5 w5.drew) := ⟨rfl, rfl, rfl, Nat.le_refl _, fun _ _ => rfl⟩
  have HCd : Hid (Below w2.heap.size w2 w5.drew) := HC5.out.trans (hbd.out.mono HC5.out.size)
  have HBn : Hid (Below w2.heap.size w2 w5.drew) := HCd.out
  clear a0 a1 a2 b0 b1 b2 b3 b4 b5 HO5
  obtain ⟨a0, a1, a2, b0, b1, b2, b3, b4, b5⟩ := HK.out w5 HC5.out
  obtain ⟨c0, c1, c2, d0, d1, d2, d3, d4, d5⟩ := HK.out w5.drew HCd.out
  have hn0 : (0 : Int) ≤ (t.length : Int) := by omega
  have hn1 : (t.length : Int) ≤ (fc : Int) := by omega
  have hn2 : t.length ≤ fc := by omega
  subst hfg
  go_wp2_with fail
  go_region_held3 (fun W => (W.cell? ⟨w.heap.size, 0, none⟩ = some (.string A) ∧ W.cell? ⟨w.heap.size, 1, none⟩ = some (.slice ua t.length uc) ∧ W.cell? ⟨w.heap.size, 2, none⟩ = some (.int .i64 now) ∧ W.cell? ⟨w.heap.size + 1, 0, none⟩ = some (.bool th) ∧ W.cell? ⟨w.heap.size + 1, 1, none⟩ = some (.bool ob) ∧ W.cell? ⟨w.heap.size + 1, 2, none⟩ = some (.string OT) ∧ W.cell? ⟨w.heap.size + 1, 3, none⟩ = some (.bool tg) ∧ W.cell? ⟨w.heap.size + 1, 4, none⟩ = some (.int .i64 tm) ∧ W.cell? ⟨w.heap.size + 1, 5, none⟩ = some (.bool td))) (first | with_reducible exact HK.out _ HBn.out) (first | (go_at_call 6; refine (HDc.out _ _ (HT5.out.below hbd.out) (HMu.out _ HCd.out) (HTu.out _ HCd.out)).mono ?_; rintro e wn ⟨rfl, hbn⟩; have HBn : Hid (Below w2.heap.size w2 wn) := HCd.out.trans (hbn.mono HCd.out.size); have HFn : Hid (Fd.RdF (.slice (some fg) L1 fc) (t ++ [([115, 112, 97, 114, 101], [])]) wn) := (HF5.out.below hbd.out).below hbn; clear hbn))
  clear a0 a1 a2 b0 b1 b2 b3 b4 b5 c0 c1 c2 d0 d1 d2 d3 d4 d5
  obtain ⟨w6, rfl⟩ : ∃ w6, w6 = wn := ⟨_, rfl⟩
  have HC6 : Hid (Below w2.heap.size w2 w6) := HBn.out
  have HF6 : Hid (Fd.RdF (.slice (some fg) L1 fc) (t ++ [([115, 112, 97, 114, 101], [])]) w6) := HFn.out
  clear HBn HFn
  have hbd6 : Hid (Below w6.heap.size w6 w6.drew) := ⟨rfl, rfl, rfl, Nat.le_refl _, fun _ _ => rfl⟩
  have HBn : Hid (Below w6.heap.size w6 w6.drew) := hbd6.out
  have HK6 : Hid (∀ W : World, Below w6.heap.size w6 W → (W.cell? ⟨w.heap.size, 0, none⟩ = some (.string A) ∧ W.cell? ⟨w.heap.size, 1, none⟩ = some (.slice ua t.length uc) ∧ W.cell? ⟨w.heap.size, 2, none⟩ = some (.int .i64 now) ∧ W.cell? ⟨w.heap.size + 1, 0, none⟩ = some (.bool th) ∧ W.cell? ⟨w.heap.size + 1, 1, none⟩ = some (.bool ob) ∧ W.cell? ⟨w.heap.size + 1, 2, none⟩ = some (.string OT) ∧ W.cell? ⟨w.heap.size + 1, 3, none⟩ = some (.bool tg) ∧ W.cell? ⟨w.heap.size + 1, 4, none⟩ = some (.int .i64 tm) ∧ W.cell? ⟨w.heap.size + 1, 5, none⟩ = some (.bool td))) := fun W hb => HK.out _ (HC6.out.trans (hb.mono HC6.out.size))
  have HR6 : Hid (∀ W : World, Below w6.heap.size w6 W → Fd.RdF (.slice ua t.length uc) t W) := fun W hb => (HRu.out _ (HC6.out.trans (hb.mono HC6.out.size))).1
  obtain ⟨a0, a1, a2, b0, b1, b2, b3, b4, b5⟩ := HK6.out w6 (Below.refl _ _)
  obtain ⟨c0, c1, c2, d0, d1, d2, d3, d4, d5⟩ := HK6.out w6.drew hbd6.out
  have HU : Hid (True) := trivial
  go_wp2_with fail
  go_region_held3 (fun W => (W.cell? ⟨w.heap.size, 0, none⟩ = some (.string A) ∧ W.cell? ⟨w.heap.size, 1, none⟩ = some (.slice ua t.length uc) ∧ W.cell? ⟨w.heap.size, 2, none⟩ = some (.int .i64 now) ∧ W.cell? ⟨w.heap.size + 1, 0, none⟩ = some (.bool th) ∧ W.cell? ⟨w.heap.size + 1, 1, none⟩ = some (.bool ob) ∧ W.cell? ⟨w.heap.size + 1, 2, none⟩ = some (.string OT) ∧ W.cell? ⟨w.heap.size + 1, 3, none⟩ = some (.bool tg) ∧ W.cell? ⟨w.heap.size + 1, 4, none⟩ = some (.int .i64 tm) ∧ W.cell? ⟨w.heap.size + 1, 5, none⟩ = some (.bool td))) (first | with_reducible exact HK6.out _ HBn.out) (first | (go_at_call 8; refine (HPl.out _ (HR6.out _ HBn.out)).mono ?_; rintro e wn ⟨v7, rfl, ho7, hbn⟩; have HBn : Hid (Below w6.heap.size w6 wn) := bel_trans HBn.out hbn; have HU : Hid (Fd.RdF v7 t wn) := ho7.rd; obtain ⟨va, vc, rfl, _⟩ := ho7.rd; clear hbn ho7) | (go_at_call 9; refine (HSt.out _).mono ?_; rintro e wn ⟨rfl, hbn⟩; have HBn : Hid (Below w6.heap.size w6 wn) := bel_trans HBn.out hbn; (try (have HU : Hid (Fd.RdF _ t wn) := HU.out.below hbn)); clear hbn) | (go_at_call 7; refine (HDr.out _ _ HU.out).mono ?_; rintro e wn ⟨rfl, hbn⟩; have HBn : Hid (Below w6.heap.size w6 wn) := bel_trans HBn.out hbn; clear hbn))
  all_goals
    clear HU a0 a1 a2 b0 b1 b2 b3 b4 b5 c0 c1 c2 d0 d1 d2 d3 d4 d5
    obtain ⟨w7, rfl⟩ : ∃ w7, w7 = wn := ⟨_, rfl⟩
    have HC7 : Hid (Below w6.heap.size w6 w7) := HBn.out
    clear HBn
    obtain ⟨a0, a1, a2, b0, b1, b2, b3, b4, b5⟩ := HK6.out w7 HC7.out
    have HF7 : Hid (Fd.RdF (.slice (some fg) L1 fc) (t ++ [([115, 112, 97, 114, 101], [])]) w7) := HF6.out.below HC7.out
    have HU7 : Hid (Fd.RdF (.slice ua t.length uc) t w7) := HR6.out _ HC7.out
    have HB7 : Hid (Below w.heap.size w w7) := bel_trans HB2.out (HC6.out.trans (HC7.out.mono HC6.out.size))
    go_wp2
    go_loopw [43] (fun i wr => ∃ k : Nat, k ≤ t.length ∧ i = .int .i64 k ∧ Hid (Below w7.heap.size w7 wr)) (fun i _ => t.length - (intOf i).toNat)
    case atStart => exact ⟨0, Nat.zero_le _, rfl, Below.refl _ _⟩
    case round =>
      obtain ⟨k, hk, rfl, hbl⟩ := hrel
      by_cases hlt : k < t.length
      · obtain ⟨a', c', e', hcs⟩ := HU7.out.below hbl.out
        injection e' with e1 _ e2
        subst e1 e2
        rcases hcs with h | ⟨g, o, rfl, hlc, hcell⟩
        · rw [h] at hlt; simp at hlt
        obtain ⟨p0, p1⟩ := hcell k hlt
        obtain ⟨a'', c'', e'', hcs2⟩ := HF7.out.below hbl.out
        injection e'' with e1 e3 e2
        subst e2
        clear e3
        rcases hcs2 with h | ⟨g2, o2, h2, hlc2, hcell2⟩
        · simp at h
        rw [h2] at e1
        injection e1 with e1
        subst e1
        obtain ⟨q0, q1⟩ := hcell2 k (by simp; omega)
        rw [nth_mid t _ k hlt] at q0 q1
        clear hcell hcell2 hlc2 h2
        have hgz : g < wr.heap.size := World.block_lt_of_cell? wr _ p0
        have hgz2 : g2 < wr.heap.size := World.block_lt_of_cell? wr _ q0
        generalize Fd.nth t k = p at *
        obtain ⟨pn, pv⟩ := p
        dsimp only at p0 p1 q0 q1
        generalize str pn = PN at *
        generalize str pv = PV at *
        have HWf : Hid (Below w7.heap.size w7 (wr.alloc (.cells #[.string PN, .string PV] 31))) := hbl.out.alloc hbl.out.size _
        have HWg : Hid (Below w7.heap.size w7 (wr.alloc (.cells #[.string PN, .string PV] 31)).drew) := below_drewN HWf.out 1
        have hk2 : k < L1 := by omega
        go_wp2_with fail
        go_region
        all_goals
          go_wp2
          go_roundw
          case rel => exact ⟨k + 1, by omega, by go_num, HWg⟩
          case measure => simp [intOf]; omega
      · obtain rfl : k = t.length := by omega
        obtain ⟨r0, r1, r2, s0, s1, s2, s3, s4, s5⟩ := HK6.out wr (HC7.out.trans (hbl.out.mono HC7.out.size))
        obtain ⟨a'', c'', e'', hcs2⟩ := HF7.out.below hbl.out
        injection e'' with e1 e3 e2
        subst e2
        clear e3
        rcases hcs2 with h | ⟨g2, o2, h2, hlc2, hcell2⟩
        · simp at h
        rw [h2] at e1
        injection e1 with e1
        subst e1
        obtain ⟨q0, q1⟩ := hcell2 t.length (by simp)
        rw [nth_end] at q0
        dsimp only at q0
        rw [← HN.out] at q0
        clear hcell2 hlc2 h2 q1
        have HBf : Hid (Below w.heap.size w wr) := bel_trans HB7.out hbl.out
        go_wp2
        go_ret
        exact ⟨rfl, HBf.out⟩

end Tt
end Go.Proofs.YtjngpafokkjkdaaGreatDoor
