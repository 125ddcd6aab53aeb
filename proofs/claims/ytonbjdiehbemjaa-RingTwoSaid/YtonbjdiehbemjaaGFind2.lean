/-
  slices.Concat of two, seam, Find.
-/
import Derived.Test.YtonbjdiehbemjaaGFind
set_option linter.unusedVariables false
set_option linter.unusedSimpArgs false
namespace Go.Proofs.Ytonbjdiehbemjaa
open Go.RowKit
namespace Rg

set_option maxRecDepth 100000 in
set_option maxHeartbeats 2000000 in
theorem Concat_any {w : World} {gs : Nat} {u0 u1 : Value} {x0 x1 : List UInt8} (c0 : w.cell? ⟨gs, 0, none⟩ = some u0) (c1 : w.cell? ⟨gs, 1, none⟩ = some u1) (h0 : RdB w u0 x0) (h1 : RdB w u1 x1) (hl : x0.length + x1.length ≤ 140737488355328) :
    Calls Try.prog 56 #[.slice (some ⟨gs, 0, none⟩) 2 2] w fun e w' => ∃ v, e = .returned v ∧ w'.ownsRow w.heap.size 5 1 v (x0 ++ x1).length (bv (x0 ++ x1)) ∧ Below w.heap.size w w' := by
  have H0 : Hid (RdB w u0 x0) := h0
  have H1 : Hid (RdB w u1 x1) := h1
  obtain ⟨a0, k0, rfl, _⟩ := h0
  obtain ⟨a1, k1, rfl, _⟩ := h1
  have hgs : gs < w.heap.size := World.block_lt_of_cell? w _ c0
  have C0 : Hid (w.cell? ⟨gs, 0, none⟩ = some (.slice a0 x0.length k0)) := c0
  have C1 : Hid (w.cell? ⟨gs, 1, none⟩ = some (.slice a1 x1.length k1)) := c1
  go_enter Try.func56, Try.ntmps56
  go_wp2
  go_loop [3, 11] (fun sz i => (sz = .int .i64 0 ∧ i = .int .i64 0) ∨ (sz = .int .i64 (x0.length : Int) ∧ i = .int .i64 1) ∨ (sz = .int .i64 ((x0.length : Int) + (x1.length : Int)) ∧ i = .int .i64 2)) (fun _ i => 2 - (intOf i).toNat)
  case atStart => exact .inl ⟨rfl, rfl⟩
  case round =>
    rcases hrel with ⟨rfl, rfl⟩ | ⟨rfl, rfl⟩ | ⟨rfl, rfl⟩
    · have q : ¬ ((x0.length : Nat) : Int) < 0 := by omega
      go_wp2
      go_round
      case rel => exact .inr (.inl ⟨rfl, rfl⟩)
      case measure => decide
    · have q : ¬ ((x0.length : Nat) : Int) + ((x1.length : Nat) : Int) < 0 := by omega
      go_wp2
      go_round
      case rel => exact .inr (.inr ⟨rfl, rfl⟩)
      case measure => decide
    · obtain ⟨N, hN⟩ : ∃ N : Nat, (N : Int) = (x0.length : Int) + (x1.length : Int) := ⟨x0.length + x1.length, by omega⟩
      rw [← hN]
      have hN1 : N ≤ 140737488355328 := by omega
      clear hN
      go_wp2_with fail
      refine (Grow_any w N hN1).mono ?_
      rintro e w2 ⟨v2, rfl, ho2, hb2⟩
      have HO2 : Hid (w2.ownsRow w.heap.size 5 1 v2 0 []) := ho2
      have HB2 : Hid (Below w.heap.size w w2) := hb2
      clear ho2 hb2 c0 c1
      go_wp2
      go_loopw [6, 27] (fun ov' i wr => ∃ ov, ov = ov' ∧ Hid (Below w.heap.size w wr) ∧ ((i = .int .i64 0 ∧ Hid (wr.ownsRow w.heap.size 5 1 ov 0 [])) ∨ (i = .int .i64 1 ∧ Hid (wr.ownsRow w.heap.size 5 1 ov x0.length (bv x0))) ∨ (i = .int .i64 2 ∧ Hid (wr.ownsRow w.heap.size 5 1 ov (x0 ++ x1).length (bv (x0 ++ x1)))))) (fun _ i _ => 2 - (intOf i).toNat)
      case atStart => exact ⟨_, rfl, HB2, .inl ⟨rfl, HO2⟩⟩
      case round =>
        obtain ⟨ov, rfl, HB, ⟨rfl, HO⟩ | ⟨rfl, HO⟩ | ⟨rfl, HO⟩⟩ := hrel
        · have c0 : wr.cell? ⟨gs, 0, none⟩ = some (.slice a0 x0.length k0) := (But.of_below HB.out).cell C0.out (fun e => by cases e)
          have HX : Hid (RdB wr (.slice a0 x0.length k0) x0) := H0.out.below HB.out
          have hsum : ([] : List UInt8).length + x0.length ≤ 140737488355328 := by simp; omega
          have HO' : Hid (wr.ownsRow w.heap.size 5 1 ov ([] : List UInt8).length (bv [])) := HO
          have hsz := HB.out.size
          go_wp2_with (at_builtin; go_must (refine wp_appB rfl (.tmp 31) (.tmp 32) rfl w.heap.size _ _ [] x0 rfl HO'.out rfl HX.out hsum hsz ?_; intro v3 w3 ho3 hg3))
          have hg3' : wr.grownBy w3 ov.ownBlock := hg3.out
          have HB3 : Hid (Below w.heap.size w w3) := HB.out.grown hg3' hsz (fun k hk => owns_fresh HO.out k hk)
          have HO3 : Hid (w3.ownsRow w.heap.size 5 1 v3 x0.length (bv x0)) := ho3.out
          clear ho3 hg3 hg3'
          go_wp2
          go_roundw
          case rel => exact ⟨_, rfl, HB3, .inr (.inl ⟨rfl, HO3⟩)⟩
          case measure => decide
        · have c1 : wr.cell? ⟨gs, 1, none⟩ = some (.slice a1 x1.length k1) := (But.of_below HB.out).cell C1.out (fun e => by cases e)
          have HX : Hid (RdB wr (.slice a1 x1.length k1) x1) := H1.out.below HB.out
          have hsz := HB.out.size
          go_wp2_with (at_builtin; go_must (refine wp_appB rfl (.tmp 31) (.tmp 32) rfl w.heap.size _ _ x0 x1 rfl HO.out rfl HX.out hl hsz ?_; intro v3 w3 ho3 hg3))
          have hg3' : wr.grownBy w3 ov.ownBlock := hg3.out
          have HB3 : Hid (Below w.heap.size w w3) := HB.out.grown hg3' hsz (fun k hk => owns_fresh HO.out k hk)
          have HO3 : Hid (w3.ownsRow w.heap.size 5 1 v3 (x0 ++ x1).length (bv (x0 ++ x1))) := ho3.out
          clear ho3 hg3 hg3'
          go_wp2
          go_roundw
          case rel => exact ⟨_, rfl, HB3, .inr (.inr ⟨rfl, HO3⟩)⟩
          case measure => decide
        · go_wp2
          go_ret
          exact ⟨_, rfl, HO.out, HB.out⟩

set_option maxRecDepth 100000 in
set_option maxHeartbeats 2000000 in
theorem seam_any {w : World} {u0 u1 u2 : Value} {x0 x1 p : List UInt8} (h0 : RdB w u0 x0) (h1 : RdB w u1 x1) (h2 : RdB w u2 p) (hl0 : x0.length ≤ 1048576) (hl1 : x1.length ≤ 1048576) (hp0 : 0 < p.length) (hp : p.length ≤ 140737488355328) (hm : ML w) :
    Calls Try.prog 49 #[u0, u1, u2] w fun e w' => e = .returned (.int .i64 (seamR x0 x1 p)) ∧ Below w.heap.size w w' := by
  have H0 : Hid (RdB w u0 x0) := h0
  have H1 : Hid (RdB w u1 x1) := h1
  have HP : Hid (RdB w u2 p) := h2
  have HM : Hid (ML w) := hm
  obtain ⟨a0, k0, rfl, hk0, _⟩ := h0
  obtain ⟨a1, k1, rfl, hk1, _⟩ := h1
  obtain ⟨a2, k2, rfl, hk2, _⟩ := h2
  have hsk : sk x0 p ≤ x0.length := by unfold sk; omega
  obtain ⟨mk, hmkE⟩ : ∃ mk, mk = min x1.length (p.length - 1) := ⟨_, rfl⟩
  have hmk : mk ≤ x1.length := by omega
  have HMK : Hid (mk = min x1.length (p.length - 1)) := hmkE
  clear hmkE hm
  obtain ⟨b0, r0, _, _, e0⟩ := cut_from H0.out (sk x0 p) hsk
  obtain ⟨b1, r1, _, _, e1⟩ := cut_upto H1.out mk hmk
  have E0 : ∀ w : World, (Instr.slice 25 (.slice a0 x0.length k0) (some (.int .i64 (max (((x0.length : Nat) : Int) - (((p.length : Nat) : Int) - 1)) 0))) none none).run Try.prog w = .ok (.slice b0 (x0.length - sk x0 p) (k0 - sk x0 p)) w := fun w => by rw [show (max (((x0.length : Nat) : Int) - (((p.length : Nat) : Int) - 1)) 0) = ((sk x0 p : Nat) : Int) by unfold sk; omega]; exact e0 w
  have E1 : ∀ w : World, (Instr.slice 25 (.slice a1 x1.length k1) none (some (.int .i64 (min ((x1.length : Nat) : Int) (((p.length : Nat) : Int) - 1)))) none).run Try.prog w = .ok (.slice b1 mk k1) w := fun w => by rw [show (min ((x1.length : Nat) : Int) (((p.length : Nat) : Int) - 1)) = ((mk : Nat) : Int) by have := HMK.out; omega]; exact e1 w
  have R0 : Hid (RdB w (.slice b0 (x0.length - sk x0 p) (k0 - sk x0 p)) (x0.drop (sk x0 p))) := r0
  have R1 : Hid (RdB w (.slice b1 mk k1) (x1.take mk)) := r1
  clear e0 e1 r0 r1
  go_enter Try.func49, Try.ntmps49
  go_wp2_with fail
  have hA : Below w.heap.size w (w.alloc (.cells #[.slice b0 (x0.length - sk x0 p) (k0 - sk x0 p), .slice b1 mk k1] 25)) := (Below.refl _ w).alloc (Nat.le_refl _) _
  refine (Concat_any (w := w.alloc (.cells #[.slice b0 (x0.length - sk x0 p) (k0 - sk x0 p), .slice b1 mk k1] 25)) (gs := w.heap.size) (by rw [cell_of_row _ w.heap.size _ _ _ _ (heap_alloc_new w _)]; rfl) (by rw [cell_of_row _ w.heap.size _ _ _ _ (heap_alloc_new w _)]; rfl) (R0.out.below hA) (R1.out.below hA) (by rw [List.length_drop, List.length_take]; omega)).mono ?_
  rintro e w2 ⟨v2, rfl, ho2, hb2⟩
  have HB2 : Hid (Below w.heap.size w w2) := bel_trans hA hb2
  have HV2 : Hid (RdB w2 v2 (seamL x0 x1 p)) := (by have := RdB.ofOwn ho2; unfold seamL; rw [← HMK.out]; exact this : RdB w2 v2 (seamL x0 x1 p))
  have hsl : (seamL x0 x1 p).length ≤ 2097152 := by unfold seamL; rw [List.length_append, List.length_drop, List.length_take]; omega
  clear ho2 hb2 hA
  go_wp2_with fail
  refine (Index_any HV2.out (HP.out.below HB2.out) (by omega) (by omega) (HM.out.below HB2.out)).mono ?_
  rintro e w3 ⟨rfl, hb3⟩
  have HB3 : Hid (Below w.heap.size w w3) := bel_trans HB2.out hb3
  clear hb3
  have HR : Hid (seamR x0 x1 p = if Lib.index (seamL x0 x1 p) p < 0 then -1 else ((sk x0 p : Nat) : Int) + Lib.index (seamL x0 x1 p) p) := rfl
  have hix := Lib.index_ge (seamL x0 x1 p) p
  have hix2 : Lib.index (seamL x0 x1 p) p ≤ 2097152 := by
    rcases index_cases (seamL x0 x1 p) p with ⟨i, e, h1, _⟩ | ⟨e, _⟩
    · rw [e]; have := h1.1; omega
    · rw [e]; omega
  generalize Lib.index (seamL x0 x1 p) p = ix at *
  by_cases hneg : ix < 0
  · have HR' : Hid (seamR x0 x1 p = -1) := (by rw [HR.out, if_pos hneg] : seamR x0 x1 p = -1)
    go_wp2
    go_ret
    exact ⟨by rw [HR'.out]; rfl, HB3.out⟩
  · have HR' : Hid (seamR x0 x1 p = ((sk x0 p : Nat) : Int) + ix) := (by rw [HR.out, if_neg hneg] : seamR x0 x1 p = ((sk x0 p : Nat) : Int) + ix)
    have hq : 0 ≤ ((x0.length - sk x0 p : Nat) : Int) ∧ ((x0.length - sk x0 p : Nat) : Int) ≤ ((x0.length : Nat) : Int) := by omega
    have HQ : Hid (((x0.length : Nat) : Int) - ((x0.length - sk x0 p : Nat) : Int) = ((sk x0 p : Nat) : Int)) := (by omega : ((x0.length : Nat) : Int) - ((x0.length - sk x0 p : Nat) : Int) = ((sk x0 p : Nat) : Int))
    obtain ⟨hq1, hq2⟩ := hq
    go_wp2
    go_ret
    refine ⟨?_, HB3.out⟩
    rw [HR'.out, ← HQ.out]
    first | rfl | go_num

end Rg
end Go.Proofs.Ytonbjdiehbemjaa
