/-
  Take's reference: what comes out is new.
-/
import Derived.Test.YtonbjdiehbemjaaGRef6
set_option linter.unusedVariables false
set_option linter.unusedSimpArgs false
namespace Go.Proofs.Ytonbjdiehbemjaa
open Go.RowKit
namespace Rg

theorem pl_head {cap h n : Nat} (hh : h < cap ∨ (cap = 0 ∧ h = 0)) (hn : n ≤ cap) : pl cap h n < cap ∨ (cap = 0 ∧ pl cap h n = 0) := by
  unfold pl
  split <;> omega

set_option maxRecDepth 100000 in
set_option maxHeartbeats 2000000 in
theorem rTake2_any {w : World} {cap h : Nat} {lv : Value} {l : List UInt8} (hlv : RdB w lv l) (hc : cap ≤ 1048576) (hl : l.length ≤ cap) (hh : h < cap ∨ (cap = 0 ∧ h = 0)) (n : Int) (hn0 : -9223372036854775808 ≤ n) (hn1 : n ≤ 9223372036854775807) (m : Nat) (hm : m = rch l.length 0 n) :
    Calls Try.prog 14 #[.agg #[.int .i64 (cap : Int), lv, .int .i64 (h : Int)], .int .i64 n] w fun e w' => ∃ lv' ov, e = .returned (.tuple #[.agg #[.int .i64 (cap : Int), lv', .int .i64 ((pl cap h m : Nat) : Int)], ov]) ∧
      w'.ownsRow w.heap.size 5 1 lv' (l.drop m).length (bv (l.drop m)) ∧ (∃ a c, ov = .slice a m c) ∧ (∀ g, ov.ownBlock = some g → w.heap.size ≤ g) ∧ RdB w' ov (l.take m) ∧ Below w.heap.size w w' := by
  have HLV : Hid (RdB w lv l) := hlv
  obtain ⟨al, cl, rfl, halc, _⟩ := hlv
  have hml : m ≤ l.length := by rw [hm]; exact rch_le _ _ _
  have HM : Hid (m = rch l.length 0 n) := hm
  clear hm
  have HPL : Hid (0 < cap → ((h : Int) + (m : Int)) % (cap : Int) = ((pl cap h m : Nat) : Int)) := (fun h0 => by rw [pl_mod cap h m (by omega) (by omega)]; simp : 0 < cap → ((h : Int) + (m : Int)) % (cap : Int) = ((pl cap h m : Nat) : Int))
  have hp0' : cap = 0 → ((pl cap h m : Nat) : Int) = (h : Int) := by
    intro h0
    have h1 : m = 0 := by omega
    have h2 : h = 0 := by omega
    rw [h0, h1, h2]
    rfl
  have HP0 : Hid (cap = 0 → ((pl cap h m : Nat) : Int) = (h : Int)) := hp0'
  clear hp0'
  obtain ⟨h', hh'⟩ : ∃ h', h' = pl cap h m := ⟨_, rfl⟩
  rw [← hh'] at HPL HP0 ⊢
  clear hh'
  obtain ⟨w1, hw1⟩ : ∃ w1, w1 = (w.alloc (.cells #[.int .i64 (cap : Int), .slice al l.length cl, .int .i64 (h : Int)] 27)).alloc (.cells #[.int .i64 0, .slice none 0 0, .int .i64 0] 27) := ⟨_, rfl⟩
  have HB1 : Hid (Below w.heap.size w w1) := (by rw [hw1]; exact ((Below.refl _ w).alloc (Nat.le_refl _) _).alloc (by simp) _ : Below w.heap.size w w1)
  have HA1 : Hid (w1.heap[w.heap.size]? = some (.cells #[.int .i64 (cap : Int), .slice al l.length cl, .int .i64 (h : Int)] 27 (0, 0))) := (by rw [hw1]; exact heap_alloc2_old _ _ _ : w1.heap[w.heap.size]? = _)
  have HC1 : Hid (w1.heap[w.heap.size + 1]? = some (.cells #[.int .i64 0, .slice none 0 0, .int .i64 0] 27 (0, 0))) := (by rw [hw1]; exact heap_alloc2_new _ _ _ : w1.heap[w.heap.size + 1]? = _)
  have hs1 : w1.heap.size = w.heap.size + 2 := by rw [hw1]; simp
  go_enter Try.func14, Try.ntmps14
  go_wp2_with fail
  rw [← hw1]
  clear hw1
  refine (piece_any (HLV.out.below HB1.out) 0 n (by omega) (by omega) hn0 hn1 (by omega)).mono ?_
  rintro e w2 ⟨v2, rfl, ho2, hb2⟩
  rw [pc_take, ← HM.out] at ho2
  have hlt : (l.take m).length = m := by rw [List.length_take]; omega
  rw [hlt] at ho2
  obtain ⟨a2, c2, rfl, hc2⟩ := owns_slice ho2
  have HV2 : Hid (RdB w2 (.slice a2 m c2) (l.take m)) := RdB.ofOwn ho2
  have HG2 : Hid (∀ g, (Value.slice a2 m c2).ownBlock = some g → w1.heap.size ≤ g) := fun g hg => owns_fresh ho2 g hg
  have HB2 : Hid (Below w1.heap.size w1 w2) := hb2
  clear ho2 hb2 hlt
  obtain ⟨d0, d1, d2, df⟩ := row3 ((But.of_below HB2.out).heap HA1.out (fun e => by cases e))
  go_wp2_with fail
  refine (piece_any (HLV.out.below (bel_trans HB1.out HB2.out)) ((m : Nat) : Int) ((l.length : Nat) : Int) (by omega) (by omega) (by omega) (by omega) (by omega)).mono ?_
  rintro e w3 ⟨v3, rfl, ho3, hb3⟩
  rw [pc_nat, List.take_of_length_le (by rw [List.length_drop]; omega)] at ho3
  obtain ⟨a3, c3, rfl, hc3⟩ := owns_slice ho3
  have HB3 : Hid (Below w1.heap.size w1 w3) := bel_trans HB2.out hb3
  have HV3 : Hid (RdB w3 (.slice a2 m c2) (l.take m)) := HV2.out.below hb3
  have HO3 : Hid (w3.ownsRow (w.heap.size + 2) 5 1 (.slice a3 (l.drop m).length c3) (l.drop m).length (bv (l.drop m))) := owns_low' ho3 (by have := HB2.out.size; omega)
  clear ho3 hb3 d0 d1 d2 df HV2
  obtain ⟨D, hD⟩ : ∃ D, D = (l.drop m).length := ⟨_, rfl⟩
  rw [← hD] at HO3 hc3 ⊢
  have HD : Hid (D = (l.drop m).length) := hD
  clear hD
  obtain ⟨d0, d1, d2, df⟩ := row3 ((But.of_below HB3.out).heap HA1.out (fun e => by cases e))
  obtain ⟨e0, e1, e2, ef⟩ := row3 ((But.of_below HB3.out).heap HC1.out (fun e => by cases e))
  have hq3 : ∀ g, (Value.slice a3 D c3).ownBlock = some g → w.heap.size + 2 ≤ g := fun g hg => owns_fresh HO3.out g hg
  have HQ3 : Hid (∀ g, (Value.slice a3 D c3).ownBlock = some g → w.heap.size + 2 ≤ g) := hq3
  clear hq3
  have hbt : ∀ (W : World), But [w.heap.size, w.heap.size + 1] w3 W → W.ownsRow w.heap.size 5 1 (.slice a3 D c3) (l.drop m).length (bv (l.drop m)) ∧ RdB W (.slice a2 m c2) (l.take m) ∧ Below w.heap.size w W := fun W b => by
    refine ⟨?_, HV3.out.but b (fun g hg => by have := HG2.out g hg; simp; omega), (bel_trans HB1.out HB3.out).trans (b.below (by have := HB3.out.size; omega) (by simp))⟩
    have := b.owns HO3.out (fun g hg => by have := HQ3.out g hg; simp; omega)
    rw [HD.out] at this
    rw [HD.out]
    exact owns_low' this (by omega)
  have HBT : Hid (∀ (W : World), But [w.heap.size, w.heap.size + 1] w3 W → W.ownsRow w.heap.size 5 1 (.slice a3 D c3) (l.drop m).length (bv (l.drop m)) ∧ RdB W (.slice a2 m c2) (l.take m) ∧ Below w.heap.size w W) := hbt
  clear hbt
  by_cases hcz : 0 < cap
  · have hcz' : (0 : Int) < ((cap : Nat) : Int) := by omega
    have hcz2 : (((cap : Nat) : Int) == 0) = false := by simp; omega
    have hpm := HPL.out hcz
    go_wp2
    refine bodyPost_ret (v := .tuple #[.agg #[.int .i64 (cap : Int), .slice a3 D c3, .int .i64 ((h' : Nat) : Int)], .slice a2 m c2]) (by simp [results, Try.results14, go_sem, e0, e1, e2]) rfl ?_
    obtain ⟨r1, r2, r3⟩ := HBT.out _ (((((((But.refl _ w3).setCell (p := ⟨w.heap.size, 1, none⟩) (by simp) (.slice a3 D c3)).setCell (p := ⟨w.heap.size, 2, none⟩) (by simp) (.int .i64 ((h' : Nat) : Int))).setCell (p := ⟨w.heap.size + 1, 0, none⟩) (by simp) (.int .i64 (cap : Int))).setCell (p := ⟨w.heap.size + 1, 1, none⟩) (by simp) (.slice a3 D c3)).setCell (p := ⟨w.heap.size + 1, 2, none⟩) (by simp) (.int .i64 ((h' : Nat) : Int))))
    exact ⟨_, _, rfl, r1, ⟨_, _, rfl⟩, fun g hg => by have := HG2.out g hg; omega, r2, r3⟩
  · have hcz' : ¬ (0 : Int) < ((cap : Nat) : Int) := by omega
    have hp0 := HP0.out (by omega)
    go_wp2
    refine bodyPost_ret (v := .tuple #[.agg #[.int .i64 (cap : Int), .slice a3 D c3, .int .i64 ((h' : Nat) : Int)], .slice a2 m c2]) (by simp [results, Try.results14, go_sem, e0, e1, e2, hp0]) rfl ?_
    obtain ⟨r1, r2, r3⟩ := HBT.out _ ((((((But.refl _ w3).setCell (p := ⟨w.heap.size, 1, none⟩) (by simp) (.slice a3 D c3)).setCell (p := ⟨w.heap.size + 1, 0, none⟩) (by simp) (.int .i64 (cap : Int))).setCell (p := ⟨w.heap.size + 1, 1, none⟩) (by simp) (.slice a3 D c3)).setCell (p := ⟨w.heap.size + 1, 2, none⟩) (by simp) (.int .i64 (h : Int))))
    exact ⟨_, _, rfl, r1, ⟨_, _, rfl⟩, fun g hg => by have := HG2.out g hg; omega, r2, r3⟩

end Rg
end Go.Proofs.Ytonbjdiehbemjaa
