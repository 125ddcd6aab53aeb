/-
  The document's ring: New, Put; a ring and its document's, made.
-/
import Derived.Test.YtonbjdiehbemjaaGRef
import Derived.RegionTactic
import Derived.ChangeAlike
import Derived.BigQuiet
set_option linter.unusedVariables false
set_option linter.unusedSimpArgs false
namespace Go.Proofs.Ytonbjdiehbemjaa
open Go.RowKit
namespace Rg

theorem row3 {W : World} {b T : Nat} {x y z : Value} (h : W.heap[b]? = some (.cells #[x, y, z] T (0, 0))) : W.cell? ⟨b, 0, none⟩ = some x ∧ W.cell? ⟨b, 1, none⟩ = some y ∧ W.cell? ⟨b, 2, none⟩ = some z ∧ ∀ i, W.frozen? ⟨b, i, none⟩ = false := by
  refine ⟨?_, ?_, ?_, fun i => frozen_of_row W b i _ _ h⟩ <;> rw [cell_of_row W b _ _ _ _ h] <;> rfl
theorem owns_set {W : World} {B T S n : Nat} {v : Value} {xs : List Value} (h : W.ownsRow B T S v n xs) {p : Addr} {u : Value} (hp : ∀ g, v.ownBlock = some g → g ≠ p.block) : (W.setCell p u).ownsRow B T S v n xs :=
  ((But.refl [p.block] W).setCell (by simp) u).owns h (fun g hg => by have := hp g hg; simpa using this)

set_option maxRecDepth 100000 in
theorem rNew_any (w : World) (c : Nat) (h1 : 1 ≤ c) (h2 : c ≤ 1048576) : Calls Try.prog 26 #[.int .i64 (c : Int)] w fun e w' => e = .returned (.tuple #[.agg #[.int .i64 (c : Int), .slice none 0 0, .int .i64 0], .int .i64 0]) ∧ Below w.heap.size w w' := by
  have g1 : ¬ (c : Int) < 1 := by omega
  have g2 : ¬ (1048576 : Int) < (c : Int) := by omega
  go_enter Try.func26, Try.ntmps26
  go_wp2
  refine bodyPost_ret (v := .tuple #[.agg #[.int .i64 (c : Int), .slice none 0 0, .int .i64 0], .int .i64 0]) (by simp [results, Try.results26, go_sem]) rfl ⟨rfl, ?_⟩
  exact (Below.refl _ w).alloc (Nat.le_refl _) _
set_option maxRecDepth 100000 in
theorem rNew_bad (w : World) (c : Int) (h : ¬ (1 ≤ c ∧ c ≤ 1048576)) : Calls Try.prog 26 #[.int .i64 c] w fun e w' => e = .returned (.tuple #[.agg #[.int .i64 0, .slice none 0 0, .int .i64 0], .int .i64 20]) ∧ Below w.heap.size w w' := by
  have hB : Below w.heap.size w (w.alloc (.cells #[.int .i64 0, .slice none 0 0, .int .i64 0] 27)) := (Below.refl _ w).alloc (Nat.le_refl _) _
  by_cases g1 : c < 1
  · go_enter Try.func26, Try.ntmps26
    go_wp2
    exact bodyPost_ret (v := .tuple #[.agg #[.int .i64 0, .slice none 0 0, .int .i64 0], .int .i64 20]) (by simp [results, Try.results26, go_sem]) rfl ⟨rfl, hB⟩
  · have g2 : (1048576 : Int) < c := by omega
    go_enter Try.func26, Try.ntmps26
    go_wp2
    exact bodyPost_ret (v := .tuple #[.agg #[.int .i64 0, .slice none 0 0, .int .i64 0], .int .i64 20]) (by simp [results, Try.results26, go_sem]) rfl ⟨rfl, hB⟩

set_option maxRecDepth 100000 in
set_option maxHeartbeats 2000000 in
theorem rPut_any {w : World} {cap gone : Nat} {lv v : Value} {l p : List UInt8} (hlv : RdB w lv l) (hv : RdB w v p) (hc : cap ≤ 1048576) (hl : l.length ≤ cap) (hp : p.length ≤ 140737488355328) (n : Nat) (hn : n = min p.length (cap - l.length)) :
    Calls Try.prog 15 #[.agg #[.int .i64 (cap : Int), lv, .int .i64 (gone : Int)], v] w fun e w' => ∃ lv', e = .returned (.tuple #[.agg #[.int .i64 (cap : Int), lv', .int .i64 (gone : Int)], .int .i64 (n : Int)]) ∧ w'.ownsRow w.heap.size 5 1 lv' (l ++ p.take n).length (bv (l ++ p.take n)) ∧ Below w.heap.size w w' := by
  have HLV : Hid (RdB w lv l) := hlv
  have HV : Hid (RdB w v p) := hv
  have HN : Hid (n = min p.length (cap - l.length)) := hn
  have hn1 : n ≤ p.length := by omega
  have hn2 : l.length + n ≤ cap := by omega
  clear hn
  obtain ⟨a, c, rfl, hac, _⟩ := hv
  obtain ⟨al, cl, rfl, halc, _⟩ := hlv
  obtain ⟨w1, hw1⟩ : ∃ w1, w1 = (w.alloc (.cells #[.int .i64 (cap : Int), .slice al l.length cl, .int .i64 (gone : Int)] 27)).alloc (.cells #[.int .i64 0, .slice none 0 0, .int .i64 0] 27) := ⟨_, rfl⟩
  have HB1 : Hid (Below w.heap.size w w1) := (by rw [hw1]; exact ((Below.refl _ w).alloc (Nat.le_refl _) _).alloc (by simp) _ : Below w.heap.size w w1)
  have HA1 : Hid (w1.heap[w.heap.size]? = some (.cells #[.int .i64 (cap : Int), .slice al l.length cl, .int .i64 (gone : Int)] 27 (0, 0))) := (by rw [hw1]; exact heap_alloc2_old _ _ _ : w1.heap[w.heap.size]? = _)
  have HC1 : Hid (w1.heap[w.heap.size + 1]? = some (.cells #[.int .i64 0, .slice none 0 0, .int .i64 0] 27 (0, 0))) := (by rw [hw1]; exact heap_alloc2_new _ _ _ : w1.heap[w.heap.size + 1]? = _)
  have hs1 : w1.heap.size = w.heap.size + 2 := by rw [hw1]; simp
  go_enter Try.func15, Try.ntmps15
  go_wp2_with fail
  rw [← hw1]
  clear hw1
  refine (rFree_any (HLV.out.below HB1.out) hc hl).mono ?_
  rintro e w2 ⟨rfl, hb2⟩
  have HB2 : Hid (Below w1.heap.size w1 w2) := hb2
  clear hb2
  obtain ⟨fr, hfr⟩ : ∃ fr, fr = cap - l.length := ⟨_, rfl⟩
  rw [← hfr]
  have HF : Hid (cap - l.length = fr) := hfr.symm
  have hf1 : fr + l.length ≤ cap := by omega
  have hf2 : cap ≤ fr + l.length := by omega
  clear hfr
  by_cases hgt : fr < p.length
  · have hgt' : ((fr : Nat) : Int) < ((p.length : Nat) : Int) := by omega
    have hsl : Hid (((fr : Nat) : Int) = ((n : Nat) : Int)) := (by have := HN.out; omega : ((fr : Nat) : Int) = ((n : Nat) : Int))
    obtain ⟨d0, d1, d2, df⟩ := row3 ((But.of_below HB2.out).heap HA1.out (fun e => by cases e))
    go_wp2_with fail
    refine (rFree_any (HLV.out.below (bel_trans HB1.out HB2.out)) hc hl).mono ?_
    rintro e w3 ⟨rfl, hb3⟩
    rw [HF.out]
    have HB3 : Hid (Below w1.heap.size w1 w3) := bel_trans HB2.out hb3
    clear hb3 d0 d1 d2 df
    obtain ⟨d0, d1, d2, df⟩ := row3 ((But.of_below HB3.out).heap HA1.out (fun e => by cases e))
    go_wp2_with fail
    refine (piece_any (HLV.out.below (bel_trans HB1.out HB3.out)) 0 ((l.length : Nat) : Int) (by omega) (by omega) (by omega) (by omega) (by omega)).mono ?_
    rintro e w4 ⟨v4, rfl, ho4, hb4⟩
    rw [pc_zero, List.take_length] at ho4
    have HB4 : Hid (Below w1.heap.size w1 w4) := bel_trans HB3.out hb4
    have hs4 : w3.heap.size ≤ w4.heap.size := hb4.size
    have HO4 : Hid (w4.ownsRow w3.heap.size 5 1 v4 l.length (bv l)) := ho4
    clear ho4 hb4
    go_wp2_with fail
    rw [hsl.out]
    refine (piece_any (HV.out.below (bel_trans HB1.out HB4.out)) 0 ((n : Nat) : Int) (by omega) (by omega) (by omega) (by omega) (by omega)).mono ?_
    rintro e w5 ⟨v5, rfl, ho5, hb5⟩
    rw [pc_zero] at ho5
    have HB5 : Hid (Below w1.heap.size w1 w5) := bel_trans HB4.out hb5
    have HO5 : Hid (w5.ownsRow w3.heap.size 5 1 v4 l.length (bv l)) := (But.of_below hb5).owns HO4.out (fun _ _ e => by cases e)
    have HV5 : Hid (RdB w5 v5 (p.take n)) := RdB.ofOwn ho5
    have hs5 : w3.heap.size ≤ w5.heap.size := Nat.le_trans hs4 hb5.size
    clear ho5 hb5
    have hlt : (p.take n).length = n := by rw [List.length_take]; omega
    have hsum : l.length + (p.take n).length ≤ 140737488355328 := by rw [hlt]; omega
    have s3 : w.heap.size + 2 ≤ w3.heap.size := by have := HB3.out.size; omega
    have HQ4 : Hid (∀ k, v4.ownBlock = some k → w3.heap.size ≤ k) := fun k hk => owns_fresh HO4.out k hk
    go_wp2_with (at_builtin; go_must (refine wp_appB rfl (.tmp 20) (.tmp 23) rfl w3.heap.size _ _ l (p.take n) rfl HO5.out rfl HV5.out hsum hs5 ?_; intro v6 w6 ho6 hg6; obtain ⟨a6, c6, rfl, hc6⟩ := owns_slice ho6.out; have HG6 : Hid (w5.grownBy w6 v4.ownBlock) := hg6; have HB6 : Hid (Below w1.heap.size w1 w6) := HB5.out.grown HG6.out HB5.out.size (fun k hk => by have := HQ4.out k hk; omega); obtain ⟨d0, d1, d2, df⟩ := row3 ((But.of_below HB6.out).heap HA1.out (fun e => by cases e)); obtain ⟨e0, e1, e2, ef⟩ := row3 ((But.of_below HB6.out).heap HC1.out (fun e => by cases e)); have HO6 : Hid (w6.ownsRow w3.heap.size 5 1 (.slice a6 (l ++ p.take n).length c6) (l ++ p.take n).length (bv (l ++ p.take n))) := ho6; clear ho6 hg6; obtain ⟨LL, hLL⟩ : ∃ LL, LL = (l ++ p.take n).length := ⟨_, rfl⟩; rw [← hLL] at HO6 hc6 ⊢; have HLL : Hid (LL = (l ++ p.take n).length) := hLL; clear hLL))
    refine bodyPost_ret (v := .tuple #[.agg #[.int .i64 (cap : Int), .slice a6 LL c6, .int .i64 (gone : Int)], .int .i64 (n : Int)]) (by simp [results, Try.results15, go_sem, e0, e1, e2]) rfl ⟨_, rfl, ?_, ?_⟩
    · rw [← HLL.out]
      have hq : ∀ g, (Value.slice a6 LL c6).ownBlock = some g → w.heap.size + 2 ≤ g := fun g hg => Nat.le_trans s3 (owns_fresh HO6.out g hg)
      have := owns_set (owns_set (owns_set (owns_set HO6.out (p := ⟨w.heap.size, 1, none⟩) (u := .slice a6 LL c6) (fun g hg => by have := hq g hg; simp; omega)) (p := ⟨w.heap.size + 1, 0, none⟩) (u := .int .i64 (cap : Int)) (fun g hg => by have := hq g hg; simp; omega)) (p := ⟨w.heap.size + 1, 1, none⟩) (u := .slice a6 LL c6) (fun g hg => by have := hq g hg; simp; omega)) (p := ⟨w.heap.size + 1, 2, none⟩) (u := .int .i64 (gone : Int)) (fun g hg => by have := hq g hg; simp; omega)
      refine ⟨this.1, ?_⟩
      rcases this.2 with hz | ⟨g, cap, cur, e, hb, r⟩
      · exact .inl hz
      · exact .inr ⟨g, cap, cur, e, by omega, r⟩
    · exact ((((bel_trans HB1.out HB6.out).setCell (p := ⟨w.heap.size, 1, none⟩) (Nat.le_refl _) _).setCell (p := ⟨w.heap.size + 1, 0, none⟩) (Nat.le_succ _) _).setCell (p := ⟨w.heap.size + 1, 1, none⟩) (Nat.le_succ _) _).setCell (p := ⟨w.heap.size + 1, 2, none⟩) (Nat.le_succ _) _
  · have hgt' : ¬ ((fr : Nat) : Int) < ((p.length : Nat) : Int) := by omega
    have hsl : Hid (((p.length : Nat) : Int) = ((n : Nat) : Int)) := (by have := HN.out; omega : ((p.length : Nat) : Int) = ((n : Nat) : Int))
    obtain ⟨w3, hw3⟩ : ∃ w3, w3 = w2 := ⟨_, rfl⟩
    rw [← hw3]
    rw [← hw3] at HB2
    clear hw3
    have HB3 : Hid (Below w1.heap.size w1 w3) := HB2
    obtain ⟨d0, d1, d2, df⟩ := row3 ((But.of_below HB3.out).heap HA1.out (fun e => by cases e))
    go_wp2_with fail
    refine (piece_any (HLV.out.below (bel_trans HB1.out HB3.out)) 0 ((l.length : Nat) : Int) (by omega) (by omega) (by omega) (by omega) (by omega)).mono ?_
    rintro e w4 ⟨v4, rfl, ho4, hb4⟩
    rw [pc_zero, List.take_length] at ho4
    have HB4 : Hid (Below w1.heap.size w1 w4) := bel_trans HB3.out hb4
    have hs4 : w3.heap.size ≤ w4.heap.size := hb4.size
    have HO4 : Hid (w4.ownsRow w3.heap.size 5 1 v4 l.length (bv l)) := ho4
    clear ho4 hb4
    go_wp2_with fail
    rw [hsl.out]
    refine (piece_any (HV.out.below (bel_trans HB1.out HB4.out)) 0 ((n : Nat) : Int) (by omega) (by omega) (by omega) (by omega) (by omega)).mono ?_
    rintro e w5 ⟨v5, rfl, ho5, hb5⟩
    rw [pc_zero] at ho5
    have HB5 : Hid (Below w1.heap.size w1 w5) := bel_trans HB4.out hb5
    have HO5 : Hid (w5.ownsRow w3.heap.size 5 1 v4 l.length (bv l)) := (But.of_below hb5).owns HO4.out (fun _ _ e => by cases e)
    have HV5 : Hid (RdB w5 v5 (p.take n)) := RdB.ofOwn ho5
    have hs5 : w3.heap.size ≤ w5.heap.size := Nat.le_trans hs4 hb5.size
    clear ho5 hb5
    have hlt : (p.take n).length = n := by rw [List.length_take]; omega
    have hsum : l.length + (p.take n).length ≤ 140737488355328 := by rw [hlt]; omega
    have s3 : w.heap.size + 2 ≤ w3.heap.size := by have := HB3.out.size; omega
    have HQ4 : Hid (∀ k, v4.ownBlock = some k → w3.heap.size ≤ k) := fun k hk => owns_fresh HO4.out k hk
    go_wp2_with (at_builtin; go_must (refine wp_appB rfl (.tmp 20) (.tmp 23) rfl w3.heap.size _ _ l (p.take n) rfl HO5.out rfl HV5.out hsum hs5 ?_; intro v6 w6 ho6 hg6; obtain ⟨a6, c6, rfl, hc6⟩ := owns_slice ho6.out; have HG6 : Hid (w5.grownBy w6 v4.ownBlock) := hg6; have HB6 : Hid (Below w1.heap.size w1 w6) := HB5.out.grown HG6.out HB5.out.size (fun k hk => by have := HQ4.out k hk; omega); obtain ⟨d0, d1, d2, df⟩ := row3 ((But.of_below HB6.out).heap HA1.out (fun e => by cases e)); obtain ⟨e0, e1, e2, ef⟩ := row3 ((But.of_below HB6.out).heap HC1.out (fun e => by cases e)); have HO6 : Hid (w6.ownsRow w3.heap.size 5 1 (.slice a6 (l ++ p.take n).length c6) (l ++ p.take n).length (bv (l ++ p.take n))) := ho6; clear ho6 hg6; obtain ⟨LL, hLL⟩ : ∃ LL, LL = (l ++ p.take n).length := ⟨_, rfl⟩; rw [← hLL] at HO6 hc6 ⊢; have HLL : Hid (LL = (l ++ p.take n).length) := hLL; clear hLL))
    refine bodyPost_ret (v := .tuple #[.agg #[.int .i64 (cap : Int), .slice a6 LL c6, .int .i64 (gone : Int)], .int .i64 (n : Int)]) (by simp [results, Try.results15, go_sem, e0, e1, e2]) rfl ⟨_, rfl, ?_, ?_⟩
    · rw [← HLL.out]
      have hq : ∀ g, (Value.slice a6 LL c6).ownBlock = some g → w.heap.size + 2 ≤ g := fun g hg => Nat.le_trans s3 (owns_fresh HO6.out g hg)
      have := owns_set (owns_set (owns_set (owns_set HO6.out (p := ⟨w.heap.size, 1, none⟩) (u := .slice a6 LL c6) (fun g hg => by have := hq g hg; simp; omega)) (p := ⟨w.heap.size + 1, 0, none⟩) (u := .int .i64 (cap : Int)) (fun g hg => by have := hq g hg; simp; omega)) (p := ⟨w.heap.size + 1, 1, none⟩) (u := .slice a6 LL c6) (fun g hg => by have := hq g hg; simp; omega)) (p := ⟨w.heap.size + 1, 2, none⟩) (u := .int .i64 (gone : Int)) (fun g hg => by have := hq g hg; simp; omega)
      refine ⟨this.1, ?_⟩
      rcases this.2 with hz | ⟨g, cap, cur, e, hb, r⟩
      · exact .inl hz
      · exact .inr ⟨g, cap, cur, e, by omega, r⟩
    · exact ((((bel_trans HB1.out HB6.out).setCell (p := ⟨w.heap.size, 1, none⟩) (Nat.le_refl _) _).setCell (p := ⟨w.heap.size + 1, 0, none⟩) (Nat.le_succ _) _).setCell (p := ⟨w.heap.size + 1, 1, none⟩) (Nat.le_succ _) _).setCell (p := ⟨w.heap.size + 1, 2, none⟩) (Nat.le_succ _) _

end Rg
end Go.Proofs.Ytonbjdiehbemjaa
