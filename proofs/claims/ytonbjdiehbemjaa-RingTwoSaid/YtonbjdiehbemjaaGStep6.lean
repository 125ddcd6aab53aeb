/-
  One call and what the document says of it: kind 6.
-/
import Derived.Test.YtonbjdiehbemjaaGStep
import Derived.Test.YtonbjdiehbemjaaGRef8
set_option linter.unusedVariables false
set_option linter.unusedSimpArgs false
namespace Go.Proofs.Ytonbjdiehbemjaa
open Go.RowKit
namespace Rg

theorem row4_6 {W : World} {b T : Nat} {x y z u : Value} (h : W.heap[b]? = some (.cells #[x, y, z, u] T (0, 0))) : W.cell? ⟨b, 0, none⟩ = some x ∧ W.cell? ⟨b, 1, none⟩ = some y ∧ W.cell? ⟨b, 2, none⟩ = some z ∧ W.cell? ⟨b, 3, none⟩ = some u := by
  refine ⟨?_, ?_, ?_, ?_⟩ <;> rw [cell_of_row W b _ _ _ _ h] <;> rfl

set_option maxRecDepth 100000 in
set_option maxHeartbeats 8000000 in
theorem step_6 {w : World} {p : Option Addr} {bs : List Nat} {cap h : Nat} {xs : List UInt8} {mv : Value} {K I N : Int} {pv : Value} {q : List UInt8} (H : StepPre w p bs cap h xs mv K I N pv q) (hk : kd K = 6) :
    Calls Try.prog 11 #[.pointer p, .agg #[.int .i64 (cap : Int), mv, .int .i64 (h : Int)], .agg #[.int .i64 K, .int .i64 I, .int .i64 N, pv]] w (StepPost w p bs cap mv) := by
  have HS : Hid (StepPre w p bs cap h xs mv K I N pv q) := H
  have HK : Hid (kd K = 6) := hk
  have i0 := H.i0
  have i1 := H.i1
  have n0 := H.n0
  have n1 := H.n1
  have hq := H.len
  obtain ⟨hx1, hx2⟩ := H.ring.hlen
  obtain ⟨am, cm, rfl, hcm, _⟩ := H.mod
  obtain ⟨ap, cp, rfl, hcp, _⟩ := H.arg
  clear H hk
  obtain ⟨b0, hb0⟩ : ∃ b0, b0 = w.heap.size := ⟨_, rfl⟩
  obtain ⟨w1, hw1⟩ : ∃ w1, w1 = ((w.alloc (.cells #[.int .i64 (cap : Int), .slice am xs.length cm, .int .i64 (h : Int)] 27)).alloc (.cells #[.int .i64 K, .int .i64 I, .int .i64 N, .slice ap q.length cp] 31)).alloc (.cells #[.int .i64 0, .slice none 0 0, .int .i64 0] 27) := ⟨_, rfl⟩
  have HB1 : Hid (Below w.heap.size w w1) := (by rw [hw1]; exact (((Below.refl _ w).alloc (Nat.le_refl _) _).alloc (by simp) _).alloc (by simp; omega) _ : Below w.heap.size w w1)
  have M1 : Hid (w1.heap[b0]? = some (.cells #[.int .i64 (cap : Int), .slice am xs.length cm, .int .i64 (h : Int)] 27 (0, 0))) := (by rw [hw1, hb0, Below.heap_alloc _ _ w.heap.size (by simp; omega)]; exact heap_alloc2_old _ _ _ : w1.heap[b0]? = _)
  have O1 : Hid (w1.heap[b0 + 1]? = some (.cells #[.int .i64 K, .int .i64 I, .int .i64 N, .slice ap q.length cp] 31 (0, 0))) := (by rw [hw1, hb0, Below.heap_alloc _ _ (w.heap.size + 1) (by simp)]; exact heap_alloc2_new _ _ _ : w1.heap[b0 + 1]? = _)
  have R1 : Hid (w1.heap[b0 + 2]? = some (.cells #[.int .i64 0, .slice none 0 0, .int .i64 0] 27 (0, 0))) := (by rw [hw1, hb0]; have := heap_alloc_new ((w.alloc (.cells #[.int .i64 (cap : Int), .slice am xs.length cm, .int .i64 (h : Int)] 27)).alloc (.cells #[.int .i64 K, .int .i64 I, .int .i64 N, .slice ap q.length cp] 31)) (.cells #[.int .i64 0, .slice none 0 0, .int .i64 0] 27); simpa using this : w1.heap[b0 + 2]? = _)
  have hs1 : w1.heap.size = b0 + 3 := by rw [hw1, hb0]; simp
  have HBS : Hid (∀ x ∈ bs, x < b0) := (by rw [hb0]; exact HS.out.ring.lt : ∀ x ∈ bs, x < b0)
  have HB0 : Hid (b0 = w.heap.size) := hb0
  go_enter Try.func11, Try.ntmps11
  go_wp2_with fail
  rw [← hw1, ← hb0]
  clear hw1 hb0
  refine (copied_any (HS.out.arg.below HB1.out) hq).mono ?_
  rintro e w2 ⟨pa, pc, fa, fc, rfl, r1, r2, g1, g2, hb⟩
  have HB2 : Hid (Below w1.heap.size w1 w2) := hb
  have RP2 : Hid (RdB w2 (.slice pa q.length pc) q) := r1
  have RF2 : Hid (RdB w2 (.slice fa (q.length + 3) fc) (q ++ [201, 202, 203])) := r2
  have GP : Hid (∀ g, (Value.slice pa q.length pc).ownBlock = some g → b0 + 3 ≤ g) := fun g hg => by have := g1 g hg; omega
  have GF : Hid (∀ g, (Value.slice fa (q.length + 3) fc).ownBlock = some g → b0 + 3 ≤ g) := fun g hg => by have := g2 g hg; omega
  clear r1 r2 g1 g2 hb
  obtain ⟨o0, o1, o2, o3⟩ := row4_6 ((But.of_below HB2.out).heap O1.out (fun e => by cases e))
  go_wp2_with fail
  refine (kind13 w2 K HS.out.k0 HS.out.k1 6 HK.out).mono ?_
  rintro e w3 ⟨rfl, hb⟩
  have HB3 : Hid (Below w1.heap.size w1 w3) := bel_trans HB2.out hb
  have RP3 : Hid (RdB w3 (.slice pa q.length pc) q) := RP2.out.below hb
  have RF3 : Hid (RdB w3 (.slice fa (q.length + 3) fc) (q ++ [201, 202, 203])) := RF2.out.below hb
  have HW3 : Hid (Below w.heap.size w w3) := bel_trans HB1.out HB3.out
  have P3 : Hid (RingP w3 p bs cap h xs) := HS.out.ring.below HW3.out
  have MV3 : Hid (RdB w3 (.slice am xs.length cm) xs) := HS.out.mod.below HW3.out
  have AV3 : Hid (RdB w3 (.slice ap q.length cp) q) := HS.out.arg.below HW3.out
  have hs3 : b0 + 3 ≤ w3.heap.size := by have := HB3.out.size; omega
  clear hb RP2 RF2 HB2 o0 o1 o2 o3
  obtain ⟨m0, m1, m2, mf⟩ := row3 ((But.of_below HB3.out).heap M1.out (fun e => by cases e))
  obtain ⟨o0, o1, o2, o3⟩ := row4_6 ((But.of_below HB3.out).heap O1.out (fun e => by cases e))
  obtain ⟨n, hn⟩ : ∃ n, n = rch xs.length 0 N := ⟨_, rfl⟩
  have HN : Hid (n = rch xs.length 0 N) := hn
  have hnl : n ≤ xs.length := by rw [hn]; exact rch_le _ _ _
  clear hn
  go_wp2_with fail
  refine (rTake2_any MV3.out hx2 hx1 HS.out.head N n0 n1 n HN.out).mono ?_
  rintro e w4 ⟨lv, ov, rfl, ho, ⟨aw, cw, rfl⟩, go4, hov, hb⟩
  obtain ⟨ys, hys⟩ : ∃ ys, ys = xs.drop n := ⟨_, rfl⟩
  rw [← hys] at ho
  have HYS : Hid (xs.drop n = ys) := hys.symm
  clear hys
  obtain ⟨a4, c4, rfl, _⟩ := owns_slice ho
  have G4 : Hid (∀ g, (Value.slice a4 ys.length c4).ownBlock = some g → w3.heap.size ≤ g) := fun g hg => owns_fresh ho g hg
  have V4 : Hid (RdB w4 (.slice a4 ys.length c4) ys) := RdB.ofOwn ho
  have OV4 : Hid (RdB w4 (.slice aw n cw) (xs.take n)) := hov
  have GO4 : Hid (∀ g, (Value.slice aw n cw).ownBlock = some g → w3.heap.size ≤ g) := go4
  have HB4 : Hid (Below w3.heap.size w3 w4) := hb
  obtain ⟨hd, hhd⟩ : ∃ hd, hd = pl cap h n := ⟨_, rfl⟩
  rw [← hhd]
  have HHW : Hid (hd < cap ∨ (cap = 0 ∧ hd = 0)) := (by rw [hhd]; exact pl_head HS.out.head (by omega) : hd < cap ∨ (cap = 0 ∧ hd = 0))
  have HHD : Hid (pl cap h n = hd) := hhd.symm
  clear ho hb hov go4 hhd m0 m1 m2 mf o0 o1 o2 o3
  have M4 := (But.of_below (bel_trans HB3.out HB4.out)).heap M1.out (fun e => by cases e)
  obtain ⟨m0, m1, m2, mf⟩ := row3 M4
  have z1 := heap_setCell_same w4 b0 0 _ _ (.int .i64 (cap : Int)) M4
  have z2 := heap_setCell_same _ b0 1 _ _ (.slice a4 ys.length c4) z1
  have z3 := heap_setCell_same _ b0 2 _ _ (.int .i64 (hd : Int)) z2
  have Z3 : Hid (_ = _) := z3
  have BT : Hid (But [b0] w4 (((w4.setCell ⟨b0, 0, none⟩ (.int .i64 (cap : Int))).setCell ⟨b0, 1, none⟩ (.slice a4 ys.length c4)).setCell ⟨b0, 2, none⟩ (.int .i64 (hd : Int)))) := (((But.refl _ w4).setCell (by simp) _).setCell (by simp) _).setCell (by simp) _
  have o4 : w4.cell? ⟨b0 + 1, 2, none⟩ = some (.int .i64 N) := (But.of_below (bel_trans HB3.out HB4.out)).cell (row4_6 O1.out).2.2.1 (fun e => by cases e)
  have o5 : (((w4.setCell ⟨b0, 0, none⟩ (.int .i64 (cap : Int))).setCell ⟨b0, 1, none⟩ (.slice a4 ys.length c4)).setCell ⟨b0, 2, none⟩ (.int .i64 (hd : Int))).cell? ⟨b0 + 1, 2, none⟩ = some (.int .i64 N) := BT.out.cell o4 (by simp)
  clear z1 z2 z3 M4
  go_wp2_with fail
  obtain ⟨w5, hw5⟩ : ∃ w5, w5 = ((w4.setCell ⟨b0, 0, none⟩ (.int .i64 (cap : Int))).setCell ⟨b0, 1, none⟩ (.slice a4 ys.length c4)).setCell ⟨b0, 2, none⟩ (.int .i64 (hd : Int)) := ⟨_, rfl⟩
  have M5 : Hid (w5.heap[b0]? = some (.cells #[.int .i64 (cap : Int), .slice a4 ys.length c4, .int .i64 (hd : Int)] 27 (0, 0))) := (by rw [hw5]; exact Z3.out : w5.heap[b0]? = _)
  have BT5 : Hid (But [b0] w3 w5) := (by rw [hw5]; exact (But.of_below HB4.out).nil.trans BT.out : But [b0] w3 w5)
  have V5 : Hid (RdB w5 (.slice a4 ys.length c4) ys) := (by rw [hw5]; exact V4.out.but BT.out (fun g hg => by have := G4.out g hg; simp; omega) : RdB w5 (.slice a4 ys.length c4) ys)
  have OV5 : Hid (RdB w5 (.slice aw n cw) (xs.take n)) := (by rw [hw5]; exact OV4.out.but BT.out (fun g hg => by have := GO4.out g hg; simp; omega) : RdB w5 (.slice aw n cw) (xs.take n))
  rw [← hw5]
  clear hw5 Z3 BT m0 m1 m2 mf V4 o4 o5
  refine (TakeP (P3.out.but BT5.out (fun x hx => by have := HBS.out x hx; simp; omega)) N n0 n1 n HN.out).mono ?_
  rintro e wt ⟨tv, rfl, hot, hP, hb⟩
  rw [HYS.out, HHD.out] at hP
  have NBT : Hid (But bs w5 wt) := hb
  have OVT : Hid (RdB wt (.slice aw n cw) (xs.take n)) := OV5.out.but hb (fun g hg hbs => by have := GO4.out g hg; have := HBS.out g hbs; omega)
  have PT : Hid (RingP wt p bs cap hd ys) := hP
  have RT : Hid (RdB wt tv (xs.take n)) := RdB.ofOwn hot
  obtain ⟨ta, tc, rfl, _⟩ := owns_slice hot
  have BT6 : Hid (But (b0 :: bs) w3 wt) := (BT5.out.mono (by simp)).trans (hb.mono (fun x hx => List.mem_cons_of_mem _ hx))
  have nb0 : b0 ∉ bs := fun hbs => by have := HBS.out b0 hbs; omega
  have nb1 : ∀ x, b0 < x → x ∉ bs := fun x hx hbs => by have := HBS.out x hbs; omega
  have MW : Hid (wt.heap[b0]? = some (.cells #[.int .i64 (cap : Int), .slice a4 ys.length c4, .int .i64 (hd : Int)] 27 (0, 0))) := hb.heap M5.out nb0
  have OW : Hid (wt.heap[b0 + 1]? = some (.cells #[.int .i64 K, .int .i64 I, .int .i64 N, .slice ap q.length cp] 31 (0, 0))) := BT6.out.heap ((But.of_below HB3.out).heap O1.out (fun e => by cases e)) (by simp; exact nb1 _ (by omega))
  have RW : Hid (wt.heap[b0 + 2]? = some (.cells #[.int .i64 0, .slice none 0 0, .int .i64 0] 27 (0, 0))) := BT6.out.heap ((But.of_below HB3.out).heap R1.out (fun e => by cases e)) (by simp; exact nb1 _ (by omega))
  have RFW : Hid (RdB wt (.slice fa (q.length + 3) fc) (q ++ [201, 202, 203])) := RF3.out.but BT6.out (fun g hg => by have := GF.out g hg; simp; exact ⟨by omega, nb1 _ (by omega)⟩)
  have AVW : Hid (RdB wt (.slice ap q.length cp) q) := HS.out.arg.but' (bs := bs) ((But.of_below HW3.out).nil.trans0 BT6.out HB0.out) HS.out.argb
  have BW : Hid (But bs w wt) := (But.of_below HW3.out).nil.trans0 BT6.out HB0.out
  have VT : Hid (RdB wt (.slice a4 ys.length c4) ys) := V5.out.but hb (fun g hg => by have := G4.out g hg; exact nb1 _ (by omega))
  have GW : Hid (Value.slice a4 ys.length c4 = Value.slice am xs.length cm ∨ ∀ g, (Value.slice a4 ys.length c4).ownBlock = some g → w.heap.size ≤ g) := .inr (fun g hg => by have := G4.out g hg; have := HB0.out; omega)
  have GV : Hid (∀ g, (Value.slice a4 ys.length c4).ownBlock = some g → g ≠ b0 + 2) := fun g hg => by have := G4.out g hg; omega
  have hsW : b0 + 3 ≤ wt.heap.size := by have := BT6.out.size; omega
  clear M5 BT5 RP3 RF3 P3 MV3 AV3
  clear hP hb hot OV5
  go_wp2_with fail
  refine (same_any RT.out OVT.out true (by simp)).mono ?_
  rintro e WW ⟨rfl, hbs⟩
  have HBS9 : Hid (Below wt.heap.size wt WW) := hbs
  have MX : Hid (WW.heap[b0]? = some (.cells #[.int .i64 (cap : Int), .slice a4 ys.length c4, .int .i64 (hd : Int)] 27 (0, 0))) := (But.of_below hbs).heap MW.out (fun e => by cases e)
  have OX : Hid (WW.heap[b0 + 1]? = some (.cells #[.int .i64 K, .int .i64 I, .int .i64 N, .slice ap q.length cp] 31 (0, 0))) := (But.of_below hbs).heap OW.out (fun e => by cases e)
  have RX : Hid (WW.heap[b0 + 2]? = some (.cells #[.int .i64 0, .slice none 0 0, .int .i64 0] 27 (0, 0))) := (But.of_below hbs).heap RW.out (fun e => by cases e)
  have RFX : Hid (RdB WW (.slice fa (q.length + 3) fc) (q ++ [201, 202, 203])) := RFW.out.below hbs
  have AVX : Hid (RdB WW (.slice ap q.length cp) q) := AVW.out.below hbs
  have BX : Hid (But bs w WW) := BW.out.trans (But.of_below hbs).nil
  have VW : Hid (RdB WW (.slice a4 ys.length c4) ys) := VT.out.below hbs
  have PW : Hid (RingP WW p bs cap hd ys) := PT.out.below hbs
  have hsX : b0 + 3 ≤ WW.heap.size := by have := hbs.size; omega
  clear hbs
  go_wp2_with fail
  have Wd : Hid (Below WW.heap.size WW WW.drew) := (Below.refl _ _).drew
  obtain ⟨z0, z1, z2, zf⟩ := row3 MX.out
  obtain ⟨y0, y1, y2, y3⟩ := row4_6 OX.out
  obtain ⟨x0, x1, x2, xf⟩ := row3 RX.out
  have zd0 : WW.drew.cell? ⟨b0, 0, none⟩ = some (.int .i64 (cap : Int)) := z0
  have zd1 : WW.drew.cell? ⟨b0, 1, none⟩ = some (.slice a4 ys.length c4) := z1
  have zd2 : WW.drew.cell? ⟨b0, 2, none⟩ = some (.int .i64 ((hd : Nat) : Int)) := z2
  have yd3 : WW.drew.cell? ⟨b0 + 1, 3, none⟩ = some (.slice ap q.length cp) := y3
  go_region_with (go_at_call 42; refine (whole_any (RFX.out.below Wd.out) (AVX.out.below Wd.out) hq).mono ?_; rintro e w9 ⟨rfl, hb9⟩; have HB9 : Hid (Below WW.heap.size WW w9) := bel_trans Wd.out hb9; clear hb9; have k0 : w9.cell? ⟨b0, 0, none⟩ = some (.int .i64 (cap : Int)) := (But.of_below HB9.out).cell z0 (fun e => by cases e); have k1 : w9.cell? ⟨b0, 1, none⟩ = some (.slice a4 ys.length c4) := (But.of_below HB9.out).cell z1 (fun e => by cases e); have k2 : w9.cell? ⟨b0, 2, none⟩ = some (.int .i64 ((hd : Nat) : Int)) := (But.of_below HB9.out).cell z2 (fun e => by cases e); obtain ⟨j0, j1, j2, jf⟩ := row3 ((But.of_below HB9.out).heap RX.out (fun e => by cases e)))
  all_goals
    have fin : ∀ W, But [b0 + 2] w9 W → StepPost w p bs cap (.slice am xs.length cm) (.returned (.tuple #[.agg #[.int .i64 ((cap : Nat) : Int), (.slice a4 ys.length c4), .int .i64 ((hd : Nat) : Int)], .bool true])) W := fun W b => ⟨(.slice a4 ys.length c4), hd, ys, rfl, HHW.out, (VW.out.below HB9.out).but b (fun g hg => by have := GV.out g hg; simp; omega), GW.out, (PW.out.below HB9.out).but b (fun x hx => by have := HBS.out x hx; simp; omega), (BX.out.trans (But.of_below HB9.out).nil).trans1 b (by have := HB0.out; omega)⟩
    go_wp2
    refine bodyPost_ret (v := .tuple #[.agg #[.int .i64 ((cap : Nat) : Int), (.slice a4 ys.length c4), .int .i64 ((hd : Nat) : Int)], .bool true]) (by simp [results, Try.results11, go_sem, j0, j1, j2]) rfl (fin _ ?_)
    repeat (first | exact But.refl _ _ | refine But.setCell ?_ (by simp) _ | refine But.drew ?_)

end Rg
end Go.Proofs.Ytonbjdiehbemjaa
