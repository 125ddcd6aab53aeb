/-
  One call and what the document says of it: kind 4.
-/
import Derived.Test.YtonbjdiehbemjaaGStep
import Derived.Test.YtonbjdiehbemjaaGRef7
set_option linter.unusedVariables false
set_option linter.unusedSimpArgs false
namespace Go.Proofs.Ytonbjdiehbemjaa
open Go.RowKit
namespace Rg

theorem row4_4 {W : World} {b T : Nat} {x y z u : Value} (h : W.heap[b]? = some (.cells #[x, y, z, u] T (0, 0))) : W.cell? ⟨b, 0, none⟩ = some x ∧ W.cell? ⟨b, 1, none⟩ = some y ∧ W.cell? ⟨b, 2, none⟩ = some z ∧ W.cell? ⟨b, 3, none⟩ = some u := by
  refine ⟨?_, ?_, ?_, ?_⟩ <;> rw [cell_of_row W b _ _ _ _ h] <;> rfl

set_option maxRecDepth 100000 in
set_option maxHeartbeats 8000000 in
theorem step_4 {w : World} {p : Option Addr} {bs : List Nat} {cap h : Nat} {xs : List UInt8} {mv : Value} {K I N : Int} {pv : Value} {q : List UInt8} (H : StepPre w p bs cap h xs mv K I N pv q) (hk : kd K = 4) :
    Calls Try.prog 11 #[.pointer p, .agg #[.int .i64 (cap : Int), mv, .int .i64 (h : Int)], .agg #[.int .i64 K, .int .i64 I, .int .i64 N, pv]] w (StepPost w p bs cap mv) := by
  have HS : Hid (StepPre w p bs cap h xs mv K I N pv q) := H
  have HK : Hid (kd K = 4) := hk
  have i0 := H.i0
  have i1 := H.i1
  have n0 := H.n0
  have n1 := H.n1
  have hq := H.len
  obtain ⟨hx1, hx2⟩ := H.ring.hlen
  obtain ⟨am, cm, rfl, hcm, _⟩ := H.mod
  obtain ⟨ap, cp, rfl, hcp, _⟩ := H.arg
  clear H hk
  obtain ⟨b0, hb0⟩ : ∃ b0, b0 = w.heap.size := ⟨_, rfl⟩
  obtain ⟨w1, hw1⟩ : ∃ w1, w1 = ((w.alloc (.cells #[.int .i64 (cap : Int), .slice am xs.length cm, .int .i64 (h : Int)] 27)).alloc (.cells #[.int .i64 K, .int .i64 I, .int .i64 N, .slice ap q.length cp] 31)).alloc (.cells #[.int .i64 0, .slice none 0 0, .int .i64 0] 27) := ⟨_, rfl⟩
  have HB1 : Hid (Below w.heap.size w w1) := (by rw [hw1]; exact (((Below.refl _ w).alloc (Nat.le_refl _) _).alloc (by simp) _).alloc (by simp; omega) _ : Below w.heap.size w w1)
  have M1 : Hid (w1.heap[b0]? = some (.cells #[.int .i64 (cap : Int), .slice am xs.length cm, .int .i64 (h : Int)] 27 (0, 0))) := (by rw [hw1, hb0, Below.heap_alloc _ _ w.heap.size (by simp; omega)]; exact heap_alloc2_old _ _ _ : w1.heap[b0]? = _)
  have O1 : Hid (w1.heap[b0 + 1]? = some (.cells #[.int .i64 K, .int .i64 I, .int .i64 N, .slice ap q.length cp] 31 (0, 0))) := (by rw [hw1, hb0, Below.heap_alloc _ _ (w.heap.size + 1) (by simp)]; exact heap_alloc2_new _ _ _ : w1.heap[b0 + 1]? = _)
  have R1 : Hid (w1.heap[b0 + 2]? = some (.cells #[.int .i64 0, .slice none 0 0, .int .i64 0] 27 (0, 0))) := (by rw [hw1, hb0]; have := heap_alloc_new ((w.alloc (.cells #[.int .i64 (cap : Int), .slice am xs.length cm, .int .i64 (h : Int)] 27)).alloc (.cells #[.int .i64 K, .int .i64 I, .int .i64 N, .slice ap q.length cp] 31)) (.cells #[.int .i64 0, .slice none 0 0, .int .i64 0] 27); simpa using this : w1.heap[b0 + 2]? = _)
  have hs1 : w1.heap.size = b0 + 3 := by rw [hw1, hb0]; simp
  have HBS : Hid (∀ x ∈ bs, x < b0) := (by rw [hb0]; exact HS.out.ring.lt : ∀ x ∈ bs, x < b0)
  have HB0 : Hid (b0 = w.heap.size) := hb0
  go_enter Try.func11, Try.ntmps11
  go_wp2_with fail
  rw [← hw1, ← hb0]
  clear hw1 hb0
  refine (copied_any (HS.out.arg.below HB1.out) hq).mono ?_
  rintro e w2 ⟨pa, pc, fa, fc, rfl, r1, r2, g1, g2, hb⟩
  have HB2 : Hid (Below w1.heap.size w1 w2) := hb
  have RP2 : Hid (RdB w2 (.slice pa q.length pc) q) := r1
  have RF2 : Hid (RdB w2 (.slice fa (q.length + 3) fc) (q ++ [201, 202, 203])) := r2
  have GP : Hid (∀ g, (Value.slice pa q.length pc).ownBlock = some g → b0 + 3 ≤ g) := fun g hg => by have := g1 g hg; omega
  have GF : Hid (∀ g, (Value.slice fa (q.length + 3) fc).ownBlock = some g → b0 + 3 ≤ g) := fun g hg => by have := g2 g hg; omega
  clear r1 r2 g1 g2 hb
  obtain ⟨o0, o1, o2, o3⟩ := row4_4 ((But.of_below HB2.out).heap O1.out (fun e => by cases e))
  go_wp2_with fail
  refine (kind13 w2 K HS.out.k0 HS.out.k1 4 HK.out).mono ?_
  rintro e w3 ⟨rfl, hb⟩
  have HB3 : Hid (Below w1.heap.size w1 w3) := bel_trans HB2.out hb
  have RP3 : Hid (RdB w3 (.slice pa q.length pc) q) := RP2.out.below hb
  have RF3 : Hid (RdB w3 (.slice fa (q.length + 3) fc) (q ++ [201, 202, 203])) := RF2.out.below hb
  have HW3 : Hid (Below w.heap.size w w3) := bel_trans HB1.out HB3.out
  have P3 : Hid (RingP w3 p bs cap h xs) := HS.out.ring.below HW3.out
  have MV3 : Hid (RdB w3 (.slice am xs.length cm) xs) := HS.out.mod.below HW3.out
  have AV3 : Hid (RdB w3 (.slice ap q.length cp) q) := HS.out.arg.below HW3.out
  have hs3 : b0 + 3 ≤ w3.heap.size := by have := HB3.out.size; omega
  clear hb RP2 RF2 HB2 o0 o1 o2 o3
  obtain ⟨m0, m1, m2, mf⟩ := row3 ((But.of_below HB3.out).heap M1.out (fun e => by cases e))
  obtain ⟨o0, o1, o2, o3⟩ := row4_4 ((But.of_below HB3.out).heap O1.out (fun e => by cases e))
  go_wp2_with fail
  refine (PartsP P3.out).mono ?_
  rintro e w4 ⟨va, vb, rfl, ra, rb, hb⟩
  have HB4 : Hid (Below w3.heap.size w3 w4) := hb
  have RA : Hid (RdB w4 va (part1 cap h xs)) := ra
  have RB : Hid (RdB w4 vb (part2 cap h xs)) := rb
  obtain ⟨aa, ka, rfl, _⟩ := ra
  obtain ⟨ab, kb, rfl, _⟩ := rb
  clear hb
  have p0 := (But.of_below HB4.out).cell m0 (fun e => by cases e)
  have p1 := (But.of_below HB4.out).cell m1 (fun e => by cases e)
  have p2 := (But.of_below HB4.out).cell m2 (fun e => by cases e)
  obtain ⟨L1, hL1⟩ : ∃ L1, L1 = (part1 cap h xs).length := ⟨_, rfl⟩
  obtain ⟨L2, hL2⟩ : ∃ L2, L2 = (part2 cap h xs).length := ⟨_, rfl⟩
  rw [← hL1] at RA ⊢
  rw [← hL2] at RB ⊢
  have HL1 : Hid ((part1 cap h xs).length = L1) := hL1.symm
  have HL2 : Hid ((part2 cap h xs).length = L2) := hL2.symm
  clear hL1 hL2
  go_wp2_with fail
  refine (rParts_any (HS.out.mod.below (bel_trans HW3.out HB4.out)) hx2 hx1 HS.out.head).mono ?_
  rintro e w5 ⟨vc, vd, rfl, rc, rd, hb⟩
  have HB5 : Hid (Below w3.heap.size w3 w5) := bel_trans HB4.out hb
  have RA5 : Hid (RdB w5 (.slice aa L1 ka) (part1 cap h xs)) := RA.out.below hb
  have RB5 : Hid (RdB w5 (.slice ab L2 kb) (part2 cap h xs)) := RB.out.below hb
  have RC5 : Hid (RdB w5 vc (part1 cap h xs)) := rc
  have RD5 : Hid (RdB w5 vd (part2 cap h xs)) := rd
  obtain ⟨ac, kc, rfl, _⟩ := rc
  obtain ⟨ad, kdd, rfl, _⟩ := rd
  rw [HL1.out] at RC5 ⊢
  rw [HL2.out] at RD5 ⊢
  clear hb p0 p1 p2
  go_wp2_with fail
  refine (same_any RA5.out RC5.out true (by simp)).mono ?_
  rintro e w6 ⟨rfl, hb⟩
  have HB6 : Hid (Below w3.heap.size w3 w6) := bel_trans HB5.out hb
  have RB6 : Hid (RdB w6 (.slice ab L2 kb) (part2 cap h xs)) := RB5.out.below hb
  have RD6 : Hid (RdB w6 (.slice ad L2 kdd) (part2 cap h xs)) := RD5.out.below hb
  clear hb
  go_wp2_with fail
  refine (same_any RB6.out RD6.out true (by simp)).mono ?_
  rintro e WW ⟨rfl, hb⟩
  have HBW : Hid (Below w3.heap.size w3 WW) := bel_trans HB6.out hb
  clear hb m0 m1 m2 mf o0 o1 o2 o3
  go_wp2_with fail
  have nb0 : b0 ∉ bs := fun hbs => by have := HBS.out b0 hbs; omega
  have MW : Hid (WW.heap[b0]? = some (.cells #[.int .i64 (cap : Int), .slice am xs.length cm, .int .i64 (h : Int)] 27 (0, 0))) := (But.of_below (bel_trans HB3.out HBW.out)).heap M1.out (fun e => by cases e)
  have OW : Hid (WW.heap[b0 + 1]? = some (.cells #[.int .i64 K, .int .i64 I, .int .i64 N, .slice ap q.length cp] 31 (0, 0))) := (But.of_below (bel_trans HB3.out HBW.out)).heap O1.out (fun e => by cases e)
  have RW : Hid (WW.heap[b0 + 2]? = some (.cells #[.int .i64 0, .slice none 0 0, .int .i64 0] 27 (0, 0))) := (But.of_below (bel_trans HB3.out HBW.out)).heap R1.out (fun e => by cases e)
  have RFW : Hid (RdB WW (.slice fa (q.length + 3) fc) (q ++ [201, 202, 203])) := RF3.out.below HBW.out
  have BW : Hid (But bs w WW) := (But.of_below (bel_trans HW3.out HBW.out)).nil
  have AVW : Hid (RdB WW (.slice ap q.length cp) q) := HS.out.arg.but' BW.out HS.out.argb
  have PW : Hid (RingP WW p bs cap h xs) := P3.out.below HBW.out
  have HHW : Hid (h < cap ∨ (cap = 0 ∧ h = 0)) := HS.out.head
  have hsW : b0 + 3 ≤ WW.heap.size := by have := HBW.out.size; omega
  have Wd : Hid (Below WW.heap.size WW WW.drew) := (Below.refl _ _).drew
  obtain ⟨z0, z1, z2, zf⟩ := row3 MW.out
  obtain ⟨y0, y1, y2, y3⟩ := row4_4 OW.out
  obtain ⟨x0, x1, x2, xf⟩ := row3 RW.out
  have zd0 : WW.drew.cell? ⟨b0, 0, none⟩ = some (.int .i64 (cap : Int)) := z0
  have zd1 : WW.drew.cell? ⟨b0, 1, none⟩ = some (.slice am xs.length cm) := z1
  have zd2 : WW.drew.cell? ⟨b0, 2, none⟩ = some (.int .i64 ((h : Nat) : Int)) := z2
  have yd3 : WW.drew.cell? ⟨b0 + 1, 3, none⟩ = some (.slice ap q.length cp) := y3
  go_region_with (go_at_call 42; refine (whole_any (RFW.out.below Wd.out) (AVW.out.below Wd.out) hq).mono ?_; rintro e w9 ⟨rfl, hb9⟩; have HB9 : Hid (Below WW.heap.size WW w9) := bel_trans Wd.out hb9; clear hb9; have k0 : w9.cell? ⟨b0, 0, none⟩ = some (.int .i64 (cap : Int)) := (But.of_below HB9.out).cell z0 (fun e => by cases e); have k1 : w9.cell? ⟨b0, 1, none⟩ = some (.slice am xs.length cm) := (But.of_below HB9.out).cell z1 (fun e => by cases e); have k2 : w9.cell? ⟨b0, 2, none⟩ = some (.int .i64 ((h : Nat) : Int)) := (But.of_below HB9.out).cell z2 (fun e => by cases e); obtain ⟨j0, j1, j2, jf⟩ := row3 ((But.of_below HB9.out).heap RW.out (fun e => by cases e)))
  all_goals
    have fin : ∀ W, But [b0 + 2] w9 W → StepPost w p bs cap (.slice am xs.length cm) (.returned (.tuple #[.agg #[.int .i64 ((cap : Nat) : Int), (.slice am xs.length cm), .int .i64 ((h : Nat) : Int)], .bool true])) W := fun W b => ⟨(.slice am xs.length cm), h, xs, rfl, HHW.out, HS.out.mod.but ((BW.out.trans (But.of_below HB9.out).nil).trans1 b (by have := HB0.out; omega)) HS.out.modb, .inl rfl, (PW.out.below HB9.out).but b (fun x hx => by have := HBS.out x hx; simp; omega), (BW.out.trans (But.of_below HB9.out).nil).trans1 b (by have := HB0.out; omega)⟩
    go_wp2
    refine bodyPost_ret (v := .tuple #[.agg #[.int .i64 ((cap : Nat) : Int), (.slice am xs.length cm), .int .i64 ((h : Nat) : Int)], .bool true]) (by simp [results, Try.results11, go_sem, j0, j1, j2]) rfl (fin _ ?_)
    repeat (first | exact But.refl _ _ | refine But.setCell ?_ (by simp) _ | refine But.drew ?_)

end Rg
end Go.Proofs.Ytonbjdiehbemjaa
