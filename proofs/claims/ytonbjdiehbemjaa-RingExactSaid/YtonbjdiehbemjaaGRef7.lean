/-
  The document's Parts.
-/
import Derived.Test.YtonbjdiehbemjaaGRef6
import Derived.Deep.Cut
import Derived.Deep.CutRange
set_option linter.unusedVariables false
set_option linter.unusedSimpArgs false
namespace Go.Proofs.Ytonbjdiehbemjaa
open Go.RowKit
namespace Rg

set_option maxRecDepth 100000 in
set_option maxHeartbeats 4000000 in
theorem rParts_any {w : World} {cap h : Nat} {lv : Value} {l : List UInt8} (hlv : RdB w lv l) (hc : cap ≤ 1048576) (hl : l.length ≤ cap) (hh : h < cap ∨ (cap = 0 ∧ h = 0)) :
    Calls Try.prog 33 #[.agg #[.int .i64 (cap : Int), lv, .int .i64 (h : Int)]] w fun e w' => ∃ v u, e = .returned (.tuple #[v, u]) ∧ RdB w' v (part1 cap h l) ∧ RdB w' u (part2 cap h l) ∧ Below w.heap.size w w' := by
  have HLV : Hid (RdB w lv l) := hlv
  obtain ⟨al, cl, rfl, halc, _⟩ := hlv
  obtain ⟨w1, hw1⟩ : ∃ w1, w1 = w.alloc (.cells #[.int .i64 (cap : Int), .slice al l.length cl, .int .i64 (h : Int)] 27) := ⟨_, rfl⟩
  have HB1 : Hid (Below w.heap.size w w1) := (by rw [hw1]; exact (Below.refl _ w).alloc (Nat.le_refl _) _ : Below w.heap.size w w1)
  have HA1 : Hid (w1.heap[w.heap.size]? = some (.cells #[.int .i64 (cap : Int), .slice al l.length cl, .int .i64 (h : Int)] 27 (0, 0))) := (by rw [hw1]; exact heap_alloc_new _ _ : w1.heap[w.heap.size]? = _)
  have HHd : Hid (h < cap ∨ (cap = 0 ∧ h = 0)) := hh
  have hle : h ≤ cap := by omega
  clear hh
  obtain ⟨F, hF⟩ : ∃ F : Nat, (F : Int) = (cap : Int) - (h : Int) := ⟨cap - h, by omega⟩
  have HFE : Hid ((cap : Int) - (h : Int) = (F : Int)) := hF.symm
  have HF2 : Hid (F = cap - h) := (by omega : F = cap - h)
  have hFc : F ≤ 1048576 := by omega
  have hwr' : IntKind.i64.wrap ((F : Nat) : Int) = ((F : Nat) : Int) := by rw [IntKind.wrap_i64]; omega
  have hwr := hwr'
  clear hF
  obtain ⟨d0, d1, d2, df⟩ := row3 HA1.out
  have HBd : Hid (Below w1.heap.size w1 w1.drew) := (Below.refl _ _).drew
  have D1 : Hid (w1.cell? ⟨w.heap.size, 1, none⟩ = some (.slice al l.length cl)) := d1
  go_enter Try.func33, Try.ntmps33
  go_wp2
  rw [← hw1]
  clear hw1
  have hd0 : w1.drew.cell? ⟨w.heap.size, 0, none⟩ = some (.int .i64 (cap : Int)) := d0
  have hd1 : w1.drew.cell? ⟨w.heap.size, 1, none⟩ = some (.slice al l.length cl) := d1
  have hd2 : w1.drew.cell? ⟨w.heap.size, 2, none⟩ = some (.int .i64 (h : Int)) := d2
  go_cut [4] from 5 to 9 (fun s4 wx => s4 = .int .i64 ((F : Nat) : Int) ∧ Hid (Below w1.heap.size w1 wx))
  case first =>
    go_region_with (go_at_call 40; refine (rHead_any (w := w1.drew) ⟨_, _, _, rfl⟩ hc HHd.out).mono ?_; rintro e w2 ⟨rfl, hb2⟩; have HB2 : Hid (Below w1.heap.size w1 w2) := bel_trans HBd.out hb2; clear hb2; have k0 : w2.cell? ⟨w.heap.size, 0, none⟩ = some (.int .i64 (cap : Int)) := (But.of_below HB2.out).cell d0 (fun e => by cases e); have k1 : w2.cell? ⟨w.heap.size, 1, none⟩ = some (.slice al l.length cl) := (But.of_below HB2.out).cell d1 (fun e => by cases e))
    all_goals
      go_wp2_with fail
      go_meet
      exact ⟨by rw [HFE.out, hwr], HB2⟩
  case rest =>
    obtain ⟨rfl, HB2⟩ := hcut
    have k1 : wc.cell? ⟨w.heap.size, 1, none⟩ = some (.slice al l.length cl) := (But.of_below HB2.out).cell d1 (fun e => by cases e)
    clear d0 d1 d2 df hd0 hd1 hd2
    go_wp2
    have HB3 : Hid (Below w1.heap.size w1 wc.drew) := HB2.out.drew
    have k1d : wc.drew.cell? ⟨w.heap.size, 1, none⟩ = some (.slice al l.length cl) := k1
    have hp1 := fun (hB : Below w1.heap.size w1 wc.drew) => piece_any (HLV.out.below (bel_trans HB1.out hB)) 0 ((F : Nat) : Int) (by omega) (by omega) (by omega) (by omega) (by omega)
    go_cut [2, 3] from 10 to 20 (fun s2 s3 wx => (∃ a n c, s2 = .slice a n c) ∧ (∃ a n c, s3 = .slice a n c) ∧ Hid (RdB wx s2 (l.take F)) ∧ Hid (RdB wx s3 (l.drop F)) ∧ Hid (Below w1.heap.size w1 wx))
    case first =>
      go_region_with (first | (go_at_call 43; refine (hp1 HB3.out).mono ?_; clear hp1; rintro e w4 ⟨v4, rfl, ho4, hb4⟩; rw [pc_zero] at ho4; have HB4 : Hid (Below w1.heap.size w1 w4) := bel_trans HB3.out hb4; have R4 : Hid (RdB w4 v4 (l.take F)) := RdB.ofOwn ho4; obtain ⟨a4, c4, rfl, _⟩ := owns_slice ho4; clear ho4 hb4; have k4 : w4.cell? ⟨w.heap.size, 1, none⟩ = some (.slice al l.length cl) := (But.of_below HB4.out).cell D1.out (fun e => by cases e)) | (go_at_call 43; refine (piece_any (HLV.out.below (bel_trans HB1.out HB4.out)) ((F : Nat) : Int) ((l.length : Nat) : Int) (by omega) (by omega) (by omega) (by omega) (by omega)).mono ?_; rintro e w5 ⟨v5, rfl, ho5, hb5⟩; rw [pc_nat, List.take_of_length_le (by rw [List.length_drop]; omega)] at ho5; have HB5 : Hid (Below w1.heap.size w1 w5) := bel_trans HB4.out hb5; have R5 : Hid (RdB w5 v5 (l.drop F)) := RdB.ofOwn ho5; have R4' : Hid (RdB w5 (.slice a4 (l.take F).length c4) (l.take F)) := R4.out.below hb5; obtain ⟨a5, c5, rfl, _⟩ := owns_slice ho5; clear ho5 hb5))
      all_goals
        go_wp2_with fail
        go_meet
        exact ⟨⟨_, _, _, rfl⟩, ⟨_, _, _, rfl⟩, (by rw [← List.length_take]; exact R4'), (by rw [← List.length_drop]; exact R5), HB5⟩
    case rest =>
      obtain ⟨⟨a4, n4, c4, rfl⟩, ⟨a5, n5, c5, rfl⟩, R4', R5, HB5⟩ := hcut
      go_wp2
      go_ret2
      have e1 : part1 cap h l = l.take F := by unfold part1; rw [HF2.out]
      have e2 : part2 cap h l = l.drop F := by unfold part2; rw [HF2.out]
      rw [e1, e2]
      exact ⟨_, _, rfl, R4'.out, R5.out, bel_trans HB1.out HB5.out⟩

end Rg
end Go.Proofs.Ytonbjdiehbemjaa
