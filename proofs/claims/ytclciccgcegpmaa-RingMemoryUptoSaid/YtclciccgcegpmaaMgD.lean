/- Several texts as one. -/
import Derived.Test.YtclciccgcegpmaaMgC
import Derived.RegionTactic
import Derived.ChangeAlike
import Derived.BigQuiet
import Derived.BigRegion
/-
  The document's ring: what its functions answer.
-/
set_option linter.unusedVariables false
set_option linter.unusedSimpArgs false
namespace Go.Proofs.Ytclciccgcegpmaa
open Go.RowKit
namespace Rg

/-- A piece of a list. -/
def pc (l : List UInt8) (f n : Int) : List UInt8 := if f < 0 ∨ n ≤ 0 then [] else (l.drop f.toNat).take n.toNat
theorem pc_len (l : List UInt8) (f n : Int) : (pc l f n).length ≤ l.length := by
  unfold pc
  split
  · simp
  · rw [List.length_take, List.length_drop]; omega
theorem pc_nat (l : List UInt8) (f n : Nat) : pc l (f : Int) (n : Int) = (l.drop f).take n := by
  unfold pc
  by_cases c : n = 0
  · subst c; rw [if_pos (by omega)]; simp
  · rw [if_neg (by omega)]; simp
theorem pc_zero (l : List UInt8) (n : Nat) : pc l 0 (n : Int) = l.take n := by
  have := pc_nat l 0 n
  rwa [List.drop_zero] at this
theorem take_succ' (l : List UInt8) (F J : Nat) (x : UInt8) (h : l[J]? = some x) (hF : F ≤ J) : (l.drop F).take (J + 1 - F) = (l.drop F).take (J - F) ++ [x] := by
  rw [show J + 1 - F = (J - F) + 1 by omega, List.take_add_one, List.getElem?_drop, show F + (J - F) = J by omega, h]
  rfl

set_option maxRecDepth 100000 in
set_option maxHeartbeats 1000000 in
theorem piece_any {w : World} {v : Value} {l : List UInt8} (hv : RdB w v l) (f n : Int) (hf0 : -9223372036854775808 ≤ f) (hf1 : f ≤ 9223372036854775807) (hn0 : -9223372036854775808 ≤ n) (hn1 : n ≤ 9223372036854775807) (hl : l.length ≤ 140737488355328) :
    Calls Try.prog 21 #[v, .int .i64 f, .int .i64 n] w fun e w' => ∃ v', e = .returned v' ∧ w'.ownsRow w.heap.size 5 1 v' (pc l f n).length (bv (pc l f n)) ∧ Below w.heap.size w w' := by
  have HV : Hid (RdB w v l) := hv
  obtain ⟨a, c, rfl, hc, hz, hr⟩ := hv
  have HRD : Hid (l = [] ∨ ∃ g o, a = some ⟨g, o, none⟩ ∧ ∀ j x, l[j]? = some x → w.cell? ⟨g, o + j, none⟩ = some (.int .u8 (x.toNat : Int))) := hr
  clear hr hz
  by_cases h1 : f < 0
  · have HP : Hid (pc l f n = []) := if_pos (.inl h1)
    go_enter Try.func21, Try.ntmps21
    go_wp2
    go_ret
    refine ⟨_, rfl, ?_, Below.refl _ _⟩
    rw [HP.out]
    exact World.ownsRow_nil _ _ _ _
  by_cases h2 : n ≤ 0
  · have HP : Hid (pc l f n = []) := if_pos (.inr h2)
    go_enter Try.func21, Try.ntmps21
    go_wp2
    go_ret
    refine ⟨_, rfl, ?_, Below.refl _ _⟩
    rw [HP.out]
    exact World.ownsRow_nil _ _ _ _
  obtain ⟨F, rfl⟩ := Int.eq_ofNat_of_zero_le (show 0 ≤ f by omega)
  obtain ⟨M, rfl⟩ := Int.eq_ofNat_of_zero_le (show 0 ≤ n by omega)
  have HP : Hid (pc l (F : Int) (M : Int) = (l.drop F).take M) := pc_nat l F M
  go_enter Try.func21, Try.ntmps21
  go_wp2
  go_loopw [7, 8] (fun ov i wr => ∃ (J : Nat) (ao : Option Addr) (co : Nat), i = .int .i64 (J : Int) ∧ F ≤ J ∧ (J = F ∨ J ≤ l.length) ∧ J - F ≤ M ∧ ov = .slice ao (J - F) co ∧ Hid (wr.ownsRow w.heap.size 5 1 (.slice ao (J - F) co) (J - F) (bv ((l.drop F).take (J - F)))) ∧ Hid (Below w.heap.size w wr)) (fun _ i _ => l.length - (intOf i).toNat)
  case atStart => exact ⟨F, none, 0, rfl, Nat.le_refl _, .inl rfl, by omega, by rw [Nat.sub_self], by rw [Nat.sub_self]; exact World.ownsRow_nil _ _ _ _, Below.refl _ _⟩
  case round =>
    obtain ⟨J, ao, co, rfl, hFJ, hJ, hM, rfl, HO, HB⟩ := hrel
    have hfin : (¬ J < l.length ∨ ¬ J - F < M) → Hid ((l.drop F).take (J - F) = pc l (F : Int) (M : Int)) := by
      intro h
      show _ = _
      rw [HP.out]
      by_cases c2 : J - F < M
      · rw [List.take_of_length_le (by rw [List.length_drop]; omega), List.take_of_length_le (by rw [List.length_drop]; omega)]
      · rw [show J - F = M by omega]
    by_cases q1 : J < l.length
    · have q1' : ((J : Nat) : Int) < ((l.length : Nat) : Int) := by omega
      by_cases q2 : J - F < M
      · have q2' : ((J - F : Nat) : Int) < ((M : Nat) : Int) := by omega
        clear hfin
        obtain ⟨x, hx⟩ : ∃ x, l[J]? = some x := ⟨_, List.getElem?_eq_getElem q1⟩
        rcases HRD.out with e | ⟨g, o, rfl, hcell⟩
        · rw [e] at q1; simp at q1
        have hcx := hcell J x hx
        have hdx : wr.cell? ⟨g, o + J, none⟩ = some (.int .u8 (x.toNat : Int)) := (HB.out.cell (p := ⟨g, o + J, none⟩) (World.block_lt_of_cell? w _ hcx)).trans hcx
        have HT : Hid ((l.drop F).take (J + 1 - F) = (l.drop F).take (J - F) ++ [x]) := take_succ' l F J x hx hFJ
        have hlk : ((l.drop F).take (J - F)).length = J - F := by rw [List.length_take, List.length_drop]; omega
        have HO1 : Hid ((wr.alloc (.cells #[.int .u8 (x.toNat : Int)] 5)).ownsRow w.heap.size 5 1 (.slice ao (J - F) co) ((l.drop F).take (J - F)).length (bv ((l.drop F).take (J - F)))) := (by rw [hlk]; exact HO.out.alloc _ : (wr.alloc (.cells #[.int .u8 (x.toNat : Int)] 5)).ownsRow w.heap.size 5 1 (.slice ao (J - F) co) ((l.drop F).take (J - F)).length (bv ((l.drop F).take (J - F))))
        have HX1 : Hid (RdB (wr.alloc (.cells #[.int .u8 (x.toNat : Int)] 5)) (.slice (some ⟨wr.heap.size, 0, none⟩) 1 1) [x]) := RdB.built wr [x] _ (by simp [bv])
        have hsum : ((l.drop F).take (J - F)).length + [x].length ≤ 140737488355328 := by rw [hlk]; simp; omega
        have hsz : w.heap.size ≤ (wr.alloc (.cells #[.int .u8 (x.toNat : Int)] 5)).heap.size := by have := HB.out.size; simp; omega
        clear hcell hcx hx hlk
        go_wp2_with (at_builtin; go_must (refine wp_appB rfl (.tmp 29) (.tmp 34) rfl w.heap.size _ _ ((l.drop F).take (J - F)) [x] rfl HO1.out rfl HX1.out hsum hsz ?_; intro v2 w2 ho2 hg2))
        have hg2' : (wr.alloc (.cells #[.int .u8 (x.toNat : Int)] 5)).grownBy w2 (Value.slice ao (J - F) co).ownBlock := hg2.out
        have HB2 : Hid (Below w.heap.size w w2) := (HB.out.alloc HB.out.size _).grown hg2' hsz (fun k hk => owns_fresh HO.out k hk)
        have ho2' := ho2.out
        rw [← HT.out] at ho2'
        have hl2 : ((l.drop F).take (J + 1 - F)).length = J + 1 - F := by rw [List.length_take, List.length_drop]; omega
        rw [hl2] at ho2'
        obtain ⟨a2, c2, rfl, _⟩ := owns_slice ho2'
        have HO2 : Hid (w2.ownsRow w.heap.size 5 1 (.slice a2 (J + 1 - F) c2) (J + 1 - F) (bv ((l.drop F).take (J + 1 - F)))) := ho2'
        clear ho2 ho2' hg2 hg2' hl2 HO1 HX1
        go_wp2
        go_roundw
        case rel => exact ⟨J + 1, a2, c2, by go_num, by omega, by omega, by omega, rfl, HO2, HB2⟩
        case measure => simp [intOf]; omega
      · have q2' : ¬ ((J - F : Nat) : Int) < ((M : Nat) : Int) := by omega
        have HFin := hfin (.inr q2)
        clear hfin
        go_wp2
        go_ret
        refine ⟨_, rfl, ?_, HB.out⟩
        rw [← HFin.out]
        exact bv_len' HO.out
    · have q1' : ¬ ((J : Nat) : Int) < ((l.length : Nat) : Int) := by omega
      have HFin := hfin (.inl q1)
      clear hfin
      go_wp2
      go_ret
      refine ⟨_, rfl, ?_, HB.out⟩
      rw [← HFin.out]
      exact bv_len' HO.out

/-- The document's ring as a value. -/
def RV (cap : Nat) (lv : Value) (gone : Nat) : Value := .agg #[.int .i64 (cap : Int), lv, .int .i64 (gone : Int)]

set_option maxRecDepth 100000 in
theorem rFree_any {w : World} {cap gone : Nat} {lv : Value} {l : List UInt8} (hv : RdB w lv l) (hc : cap ≤ 1048576) (hl : l.length ≤ cap) :
    Calls Try.prog 22 #[.agg #[.int .i64 (cap : Int), lv, .int .i64 (gone : Int)]] w fun e w' => e = .returned (.int .i64 ((cap - l.length : Nat) : Int)) ∧ Below w.heap.size w w' := by
  obtain ⟨a, c, rfl, _⟩ := hv
  go_enter Try.func22, Try.ntmps22
  go_wp2
  go_ret
  exact ⟨by go_num, (Below.refl _ w).alloc (Nat.le_refl _) _⟩

end Rg
end Go.Proofs.Ytclciccgcegpmaa

/-
  The document's ring: New, Put; a ring and its document's, made.
-/
set_option linter.unusedVariables false
set_option linter.unusedSimpArgs false
namespace Go.Proofs.Ytclciccgcegpmaa
open Go.RowKit
namespace Rg

theorem row3 {W : World} {b T : Nat} {x y z : Value} (h : W.heap[b]? = some (.cells #[x, y, z] T (0, 0))) : W.cell? ⟨b, 0, none⟩ = some x ∧ W.cell? ⟨b, 1, none⟩ = some y ∧ W.cell? ⟨b, 2, none⟩ = some z ∧ ∀ i, W.frozen? ⟨b, i, none⟩ = false := by
  refine ⟨?_, ?_, ?_, fun i => frozen_of_row W b i _ _ h⟩ <;> rw [cell_of_row W b _ _ _ _ h] <;> rfl
theorem owns_set {W : World} {B T S n : Nat} {v : Value} {xs : List Value} (h : W.ownsRow B T S v n xs) {p : Addr} {u : Value} (hp : ∀ g, v.ownBlock = some g → g ≠ p.block) : (W.setCell p u).ownsRow B T S v n xs :=
  ((But.refl [p.block] W).setCell (by simp) u).owns h (fun g hg => by have := hp g hg; simpa using this)

set_option maxRecDepth 100000 in
theorem rNew_any (w : World) (c : Nat) (h1 : 1 ≤ c) (h2 : c ≤ 1048576) : Calls Try.prog 19 #[.int .i64 (c : Int)] w fun e w' => e = .returned (.tuple #[.agg #[.int .i64 (c : Int), .slice none 0 0, .int .i64 0], .int .i64 0]) ∧ Below w.heap.size w w' := by
  have g1 : ¬ (c : Int) < 1 := by omega
  have g2 : ¬ (1048576 : Int) < (c : Int) := by omega
  go_enter Try.func19, Try.ntmps19
  go_wp2
  refine bodyPost_ret (v := .tuple #[.agg #[.int .i64 (c : Int), .slice none 0 0, .int .i64 0], .int .i64 0]) (by simp [results, Try.results19, go_sem]) rfl ⟨rfl, ?_⟩
  exact (Below.refl _ w).alloc (Nat.le_refl _) _
set_option maxRecDepth 100000 in
theorem rNew_bad (w : World) (c : Int) (h : ¬ (1 ≤ c ∧ c ≤ 1048576)) : Calls Try.prog 19 #[.int .i64 c] w fun e w' => e = .returned (.tuple #[.agg #[.int .i64 0, .slice none 0 0, .int .i64 0], .int .i64 20]) ∧ Below w.heap.size w w' := by
  have hB : Below w.heap.size w (w.alloc (.cells #[.int .i64 0, .slice none 0 0, .int .i64 0] 27)) := (Below.refl _ w).alloc (Nat.le_refl _) _
  by_cases g1 : c < 1
  · go_enter Try.func19, Try.ntmps19
    go_wp2
    exact bodyPost_ret (v := .tuple #[.agg #[.int .i64 0, .slice none 0 0, .int .i64 0], .int .i64 20]) (by simp [results, Try.results19, go_sem]) rfl ⟨rfl, hB⟩
  · have g2 : (1048576 : Int) < c := by omega
    go_enter Try.func19, Try.ntmps19
    go_wp2
    exact bodyPost_ret (v := .tuple #[.agg #[.int .i64 0, .slice none 0 0, .int .i64 0], .int .i64 20]) (by simp [results, Try.results19, go_sem]) rfl ⟨rfl, hB⟩

set_option maxRecDepth 100000 in
set_option maxHeartbeats 2000000 in
theorem rPut_any {w : World} {cap gone : Nat} {lv v : Value} {l p : List UInt8} (hlv : RdB w lv l) (hv : RdB w v p) (hc : cap ≤ 1048576) (hl : l.length ≤ cap) (hp : p.length ≤ 140737488355328) (n : Nat) (hn : n = min p.length (cap - l.length)) :
    Calls Try.prog 9 #[.agg #[.int .i64 (cap : Int), lv, .int .i64 (gone : Int)], v] w fun e w' => ∃ lv', e = .returned (.tuple #[.agg #[.int .i64 (cap : Int), lv', .int .i64 (gone : Int)], .int .i64 (n : Int)]) ∧ w'.ownsRow w.heap.size 5 1 lv' (l ++ p.take n).length (bv (l ++ p.take n)) ∧ Below w.heap.size w w' := by
  have HLV : Hid (RdB w lv l) := hlv
  have HV : Hid (RdB w v p) := hv
  have HN : Hid (n = min p.length (cap - l.length)) := hn
  have hn1 : n ≤ p.length := by omega
  have hn2 : l.length + n ≤ cap := by omega
  clear hn
  obtain ⟨a, c, rfl, hac, _⟩ := hv
  obtain ⟨al, cl, rfl, halc, _⟩ := hlv
  obtain ⟨w1, hw1⟩ : ∃ w1, w1 = (w.alloc (.cells #[.int .i64 (cap : Int), .slice al l.length cl, .int .i64 (gone : Int)] 27)).alloc (.cells #[.int .i64 0, .slice none 0 0, .int .i64 0] 27) := ⟨_, rfl⟩
  have HB1 : Hid (Below w.heap.size w w1) := (by rw [hw1]; exact ((Below.refl _ w).alloc (Nat.le_refl _) _).alloc (by simp) _ : Below w.heap.size w w1)
  have HA1 : Hid (w1.heap[w.heap.size]? = some (.cells #[.int .i64 (cap : Int), .slice al l.length cl, .int .i64 (gone : Int)] 27 (0, 0))) := (by rw [hw1]; exact heap_alloc2_old _ _ _ : w1.heap[w.heap.size]? = _)
  have HC1 : Hid (w1.heap[w.heap.size + 1]? = some (.cells #[.int .i64 0, .slice none 0 0, .int .i64 0] 27 (0, 0))) := (by rw [hw1]; exact heap_alloc2_new _ _ _ : w1.heap[w.heap.size + 1]? = _)
  have hs1 : w1.heap.size = w.heap.size + 2 := by rw [hw1]; simp
  go_enter Try.func9, Try.ntmps9
  go_wp2_with fail
  rw [← hw1]
  clear hw1
  refine (rFree_any (HLV.out.below HB1.out) hc hl).mono ?_
  rintro e w2 ⟨rfl, hb2⟩
  have HB2 : Hid (Below w1.heap.size w1 w2) := hb2
  clear hb2
  obtain ⟨fr, hfr⟩ : ∃ fr, fr = cap - l.length := ⟨_, rfl⟩
  rw [← hfr]
  have HF : Hid (cap - l.length = fr) := hfr.symm
  have hf1 : fr + l.length ≤ cap := by omega
  have hf2 : cap ≤ fr + l.length := by omega
  clear hfr
  by_cases hgt : fr < p.length
  · have hgt' : ((fr : Nat) : Int) < ((p.length : Nat) : Int) := by omega
    have hsl : Hid (((fr : Nat) : Int) = ((n : Nat) : Int)) := (by have := HN.out; omega : ((fr : Nat) : Int) = ((n : Nat) : Int))
    obtain ⟨d0, d1, d2, df⟩ := row3 ((But.of_below HB2.out).heap HA1.out (fun e => by cases e))
    go_wp2_with fail
    refine (rFree_any (HLV.out.below (bel_trans HB1.out HB2.out)) hc hl).mono ?_
    rintro e w3 ⟨rfl, hb3⟩
    rw [HF.out]
    have HB3 : Hid (Below w1.heap.size w1 w3) := bel_trans HB2.out hb3
    clear hb3 d0 d1 d2 df
    obtain ⟨d0, d1, d2, df⟩ := row3 ((But.of_below HB3.out).heap HA1.out (fun e => by cases e))
    go_wp2_with fail
    refine (piece_any (HLV.out.below (bel_trans HB1.out HB3.out)) 0 ((l.length : Nat) : Int) (by omega) (by omega) (by omega) (by omega) (by omega)).mono ?_
    rintro e w4 ⟨v4, rfl, ho4, hb4⟩
    rw [pc_zero, List.take_length] at ho4
    have HB4 : Hid (Below w1.heap.size w1 w4) := bel_trans HB3.out hb4
    have hs4 : w3.heap.size ≤ w4.heap.size := hb4.size
    have HO4 : Hid (w4.ownsRow w3.heap.size 5 1 v4 l.length (bv l)) := ho4
    clear ho4 hb4
    go_wp2_with fail
    rw [hsl.out]
    refine (piece_any (HV.out.below (bel_trans HB1.out HB4.out)) 0 ((n : Nat) : Int) (by omega) (by omega) (by omega) (by omega) (by omega)).mono ?_
    rintro e w5 ⟨v5, rfl, ho5, hb5⟩
    rw [pc_zero] at ho5
    have HB5 : Hid (Below w1.heap.size w1 w5) := bel_trans HB4.out hb5
    have HO5 : Hid (w5.ownsRow w3.heap.size 5 1 v4 l.length (bv l)) := (But.of_below hb5).owns HO4.out (fun _ _ e => by cases e)
    have HV5 : Hid (RdB w5 v5 (p.take n)) := RdB.ofOwn ho5
    have hs5 : w3.heap.size ≤ w5.heap.size := Nat.le_trans hs4 hb5.size
    clear ho5 hb5
    have hlt : (p.take n).length = n := by rw [List.length_take]; omega
    have hsum : l.length + (p.take n).length ≤ 140737488355328 := by rw [hlt]; omega
    have s3 : w.heap.size + 2 ≤ w3.heap.size := by have := HB3.out.size; omega
    have HQ4 : Hid (∀ k, v4.ownBlock = some k → w3.heap.size ≤ k) := fun k hk => owns_fresh HO4.out k hk
    go_wp2_with (at_builtin; go_must (refine wp_appB rfl (.tmp 20) (.tmp 23) rfl w3.heap.size _ _ l (p.take n) rfl HO5.out rfl HV5.out hsum hs5 ?_; intro v6 w6 ho6 hg6; obtain ⟨a6, c6, rfl, hc6⟩ := owns_slice ho6.out; have HG6 : Hid (w5.grownBy w6 v4.ownBlock) := hg6; have HB6 : Hid (Below w1.heap.size w1 w6) := HB5.out.grown HG6.out HB5.out.size (fun k hk => by have := HQ4.out k hk; omega); obtain ⟨d0, d1, d2, df⟩ := row3 ((But.of_below HB6.out).heap HA1.out (fun e => by cases e)); obtain ⟨e0, e1, e2, ef⟩ := row3 ((But.of_below HB6.out).heap HC1.out (fun e => by cases e)); have HO6 : Hid (w6.ownsRow w3.heap.size 5 1 (.slice a6 (l ++ p.take n).length c6) (l ++ p.take n).length (bv (l ++ p.take n))) := ho6; clear ho6 hg6; obtain ⟨LL, hLL⟩ : ∃ LL, LL = (l ++ p.take n).length := ⟨_, rfl⟩; rw [← hLL] at HO6 hc6 ⊢; have HLL : Hid (LL = (l ++ p.take n).length) := hLL; clear hLL))
    refine bodyPost_ret (v := .tuple #[.agg #[.int .i64 (cap : Int), .slice a6 LL c6, .int .i64 (gone : Int)], .int .i64 (n : Int)]) (by simp [results, Try.results9, go_sem, e0, e1, e2]) rfl ⟨_, rfl, ?_, ?_⟩
    · rw [← HLL.out]
      have hq : ∀ g, (Value.slice a6 LL c6).ownBlock = some g → w.heap.size + 2 ≤ g := fun g hg => Nat.le_trans s3 (owns_fresh HO6.out g hg)
      have := owns_set (owns_set (owns_set (owns_set HO6.out (p := ⟨w.heap.size, 1, none⟩) (u := .slice a6 LL c6) (fun g hg => by have := hq g hg; simp; omega)) (p := ⟨w.heap.size + 1, 0, none⟩) (u := .int .i64 (cap : Int)) (fun g hg => by have := hq g hg; simp; omega)) (p := ⟨w.heap.size + 1, 1, none⟩) (u := .slice a6 LL c6) (fun g hg => by have := hq g hg; simp; omega)) (p := ⟨w.heap.size + 1, 2, none⟩) (u := .int .i64 (gone : Int)) (fun g hg => by have := hq g hg; simp; omega)
      refine ⟨this.1, ?_⟩
      rcases this.2 with hz | ⟨g, cap, cur, e, hb, r⟩
      · exact .inl hz
      · exact .inr ⟨g, cap, cur, e, by omega, r⟩
    · exact ((((bel_trans HB1.out HB6.out).setCell (p := ⟨w.heap.size, 1, none⟩) (Nat.le_refl _) _).setCell (p := ⟨w.heap.size + 1, 0, none⟩) (Nat.le_succ _) _).setCell (p := ⟨w.heap.size + 1, 1, none⟩) (Nat.le_succ _) _).setCell (p := ⟨w.heap.size + 1, 2, none⟩) (Nat.le_succ _) _
  · have hgt' : ¬ ((fr : Nat) : Int) < ((p.length : Nat) : Int) := by omega
    have hsl : Hid (((p.length : Nat) : Int) = ((n : Nat) : Int)) := (by have := HN.out; omega : ((p.length : Nat) : Int) = ((n : Nat) : Int))
    obtain ⟨w3, hw3⟩ : ∃ w3, w3 = w2 := ⟨_, rfl⟩
    rw [← hw3]
    rw [← hw3] at HB2
    clear hw3
    have HB3 : Hid (Below w1.heap.size w1 w3) := HB2
    obtain ⟨d0, d1, d2, df⟩ := row3 ((But.of_below HB3.out).heap HA1.out (fun e => by cases e))
    go_wp2_with fail
    refine (piece_any (HLV.out.below (bel_trans HB1.out HB3.out)) 0 ((l.length : Nat) : Int) (by omega) (by omega) (by omega) (by omega) (by omega)).mono ?_
    rintro e w4 ⟨v4, rfl, ho4, hb4⟩
    rw [pc_zero, List.take_length] at ho4
    have HB4 : Hid (Below w1.heap.size w1 w4) := bel_trans HB3.out hb4
    have hs4 : w3.heap.size ≤ w4.heap.size := hb4.size
    have HO4 : Hid (w4.ownsRow w3.heap.size 5 1 v4 l.length (bv l)) := ho4
    clear ho4 hb4
    go_wp2_with fail
    rw [hsl.out]
    refine (piece_any (HV.out.below (bel_trans HB1.out HB4.out)) 0 ((n : Nat) : Int) (by omega) (by omega) (by omega) (by omega) (by omega)).mono ?_
    rintro e w5 ⟨v5, rfl, ho5, hb5⟩
    rw [pc_zero] at ho5
    have HB5 : Hid (Below w1.heap.size w1 w5) := bel_trans HB4.out hb5
    have HO5 : Hid (w5.ownsRow w3.heap.size 5 1 v4 l.length (bv l)) := (But.of_below hb5).owns HO4.out (fun _ _ e => by cases e)
    have HV5 : Hid (RdB w5 v5 (p.take n)) := RdB.ofOwn ho5
    have hs5 : w3.heap.size ≤ w5.heap.size := Nat.le_trans hs4 hb5.size
    clear ho5 hb5
    have hlt : (p.take n).length = n := by rw [List.length_take]; omega
    have hsum : l.length + (p.take n).length ≤ 140737488355328 := by rw [hlt]; omega
    have s3 : w.heap.size + 2 ≤ w3.heap.size := by have := HB3.out.size; omega
    have HQ4 : Hid (∀ k, v4.ownBlock = some k → w3.heap.size ≤ k) := fun k hk => owns_fresh HO4.out k hk
    go_wp2_with (at_builtin; go_must (refine wp_appB rfl (.tmp 20) (.tmp 23) rfl w3.heap.size _ _ l (p.take n) rfl HO5.out rfl HV5.out hsum hs5 ?_; intro v6 w6 ho6 hg6; obtain ⟨a6, c6, rfl, hc6⟩ := owns_slice ho6.out; have HG6 : Hid (w5.grownBy w6 v4.ownBlock) := hg6; have HB6 : Hid (Below w1.heap.size w1 w6) := HB5.out.grown HG6.out HB5.out.size (fun k hk => by have := HQ4.out k hk; omega); obtain ⟨d0, d1, d2, df⟩ := row3 ((But.of_below HB6.out).heap HA1.out (fun e => by cases e)); obtain ⟨e0, e1, e2, ef⟩ := row3 ((But.of_below HB6.out).heap HC1.out (fun e => by cases e)); have HO6 : Hid (w6.ownsRow w3.heap.size 5 1 (.slice a6 (l ++ p.take n).length c6) (l ++ p.take n).length (bv (l ++ p.take n))) := ho6; clear ho6 hg6; obtain ⟨LL, hLL⟩ : ∃ LL, LL = (l ++ p.take n).length := ⟨_, rfl⟩; rw [← hLL] at HO6 hc6 ⊢; have HLL : Hid (LL = (l ++ p.take n).length) := hLL; clear hLL))
    refine bodyPost_ret (v := .tuple #[.agg #[.int .i64 (cap : Int), .slice a6 LL c6, .int .i64 (gone : Int)], .int .i64 (n : Int)]) (by simp [results, Try.results9, go_sem, e0, e1, e2]) rfl ⟨_, rfl, ?_, ?_⟩
    · rw [← HLL.out]
      have hq : ∀ g, (Value.slice a6 LL c6).ownBlock = some g → w.heap.size + 2 ≤ g := fun g hg => Nat.le_trans s3 (owns_fresh HO6.out g hg)
      have := owns_set (owns_set (owns_set (owns_set HO6.out (p := ⟨w.heap.size, 1, none⟩) (u := .slice a6 LL c6) (fun g hg => by have := hq g hg; simp; omega)) (p := ⟨w.heap.size + 1, 0, none⟩) (u := .int .i64 (cap : Int)) (fun g hg => by have := hq g hg; simp; omega)) (p := ⟨w.heap.size + 1, 1, none⟩) (u := .slice a6 LL c6) (fun g hg => by have := hq g hg; simp; omega)) (p := ⟨w.heap.size + 1, 2, none⟩) (u := .int .i64 (gone : Int)) (fun g hg => by have := hq g hg; simp; omega)
      refine ⟨this.1, ?_⟩
      rcases this.2 with hz | ⟨g, cap, cur, e, hb, r⟩
      · exact .inl hz
      · exact .inr ⟨g, cap, cur, e, by omega, r⟩
    · exact ((((bel_trans HB1.out HB6.out).setCell (p := ⟨w.heap.size, 1, none⟩) (Nat.le_refl _) _).setCell (p := ⟨w.heap.size + 1, 0, none⟩) (Nat.le_succ _) _).setCell (p := ⟨w.heap.size + 1, 1, none⟩) (Nat.le_succ _) _).setCell (p := ⟨w.heap.size + 1, 2, none⟩) (Nat.le_succ _) _

end Rg
end Go.Proofs.Ytclciccgcegpmaa

/-
  A ring and its document's, made.
-/
set_option linter.unusedVariables false
set_option linter.unusedSimpArgs false
namespace Go.Proofs.Ytclciccgcegpmaa
open Go.RowKit
namespace Rg

set_option maxRecDepth 100000 in
set_option maxHeartbeats 2000000 in
theorem made_any (w : World) (c : Nat) (h1 : 1 ≤ c) (h2 : c ≤ 1048576) : Calls Try.prog 5 #[.int .i64 (c : Int)] w fun e w' => ∃ rp sb, e = .returned (.tuple #[.pointer (some ⟨rp, 0, none⟩), .agg #[.int .i64 (c : Int), .slice none 0 0, .int .i64 0], .bool true]) ∧ w.heap.size ≤ rp ∧ w.heap.size ≤ sb ∧ IsRing w' rp sb c 0 [] ∧ Below w.heap.size w w' := by
  obtain ⟨w1, hw1⟩ : ∃ w1, w1 = w.alloc (.cells #[.int .i64 0, .slice none 0 0, .int .i64 0] 27) := ⟨_, rfl⟩
  have HB1 : Hid (Below w.heap.size w w1) := (by rw [hw1]; exact (Below.refl _ w).alloc (Nat.le_refl _) _ : Below w.heap.size w w1)
  have HA1 : Hid (w1.heap[w.heap.size]? = some (.cells #[.int .i64 0, .slice none 0 0, .int .i64 0] 27 (0, 0))) := (by rw [hw1]; exact heap_alloc_new _ _ : w1.heap[w.heap.size]? = _)
  have hs1 : w.heap.size < w1.heap.size := by rw [hw1]; simp
  go_enter Try.func5, Try.ntmps5
  go_wp2_with fail
  rw [← hw1]
  clear hw1
  refine (New_any w1 c h1 h2).mono ?_
  rintro e w2 ⟨rfl, hA, hb⟩
  have HR2 : Hid (IsRing w2 (w1.heap.size + 1) w1.heap.size c 0 []) := hA
  have HB2 : Hid (Below w1.heap.size w1 w2) := hb
  clear hA hb
  go_wp2_with fail
  refine (rNew_any w2 c h1 h2).mono ?_
  rintro e w3 ⟨rfl, hb⟩
  have HB3 : Hid (Below w1.heap.size w1 w3) := bel_trans HB2.out hb
  have HR3 : Hid (IsRing w3 (w1.heap.size + 1) w1.heap.size c 0 []) := HR2.out.below hb
  clear hb
  obtain ⟨d0, d1, d2, df⟩ := row3 ((But.of_below HB3.out).heap HA1.out (fun e => by cases e))
  have hlt : w.heap.size < w3.heap.size := by have := HB3.out.size; omega
  have hne : w.heap.size ≠ w3.heap.size := by omega
  have hne2 : w3.heap.size ≠ w.heap.size := by omega
  have hn : (some (⟨w1.heap.size + 1, 0, none⟩ : Addr) == none) = false := rfl
  go_wp2
  go_region
  go_wp2
  have hz3 := (But.of_below HB3.out).heap HA1.out (fun e => by cases e)
  have z1 := heap_setCell_same w3 w.heap.size 0 _ _ (.int .i64 (c : Int)) hz3
  have z2 := heap_setCell_same _ w.heap.size 1 _ _ (.slice none 0 0) z1
  have z3 := heap_setCell_same _ w.heap.size 2 _ _ (.int .i64 0) z2
  have z4 := (Below.heap_alloc _ (.cells #[.int .i64 (c : Int), .slice none 0 0, .int .i64 0] 27) w.heap.size (Array.getElem?_eq_some_iff.1 z3).1).trans z3
  obtain ⟨f0, f1, f2, ff⟩ := row3 z4
  refine bodyPost_ret (v := .tuple #[.pointer (some ⟨w1.heap.size + 1, 0, none⟩), .agg #[.int .i64 (c : Int), .slice none 0 0, .int .i64 0], .bool true]) (by clear z1 z2 z3 z4 hz3; simp [results, Try.results5, go_sem, f0, f1, f2]) rfl ?_
  have hbut : But [w.heap.size] w3 ((((w3.setCell ⟨w.heap.size, 0, none⟩ (.int .i64 (c : Int))).setCell ⟨w.heap.size, 1, none⟩ (.slice none 0 0)).setCell ⟨w.heap.size, 2, none⟩ (.int .i64 0)).alloc (.cells #[.int .i64 (c : Int), .slice none 0 0, .int .i64 0] 27)).drew := (((((But.refl _ w3).setCell (by simp) _).setCell (by simp) _).setCell (by simp) _).alloc _).drew
  refine ⟨w1.heap.size + 1, w1.heap.size, rfl, by omega, by omega, HR3.out.but hbut (by simp; omega) (by simp; omega), ?_⟩
  exact (bel_trans HB1.out HB3.out).trans (hbut.below (by omega) (by simp))

set_option maxRecDepth 100000 in
set_option maxHeartbeats 2000000 in
theorem made_bad (w : World) (c : Int) (h : ¬ (1 ≤ c ∧ c ≤ 1048576)) : Calls Try.prog 5 #[.int .i64 c] w fun e w' => e = .returned (.tuple #[.pointer none, .agg #[.int .i64 0, .slice none 0 0, .int .i64 0], .bool true]) ∧ Below w.heap.size w w' := by
  obtain ⟨w1, hw1⟩ : ∃ w1, w1 = w.alloc (.cells #[.int .i64 0, .slice none 0 0, .int .i64 0] 27) := ⟨_, rfl⟩
  have HB1 : Hid (Below w.heap.size w w1) := (by rw [hw1]; exact (Below.refl _ w).alloc (Nat.le_refl _) _ : Below w.heap.size w w1)
  have HA1 : Hid (w1.heap[w.heap.size]? = some (.cells #[.int .i64 0, .slice none 0 0, .int .i64 0] 27 (0, 0))) := (by rw [hw1]; exact heap_alloc_new _ _ : w1.heap[w.heap.size]? = _)
  have hs1 : w.heap.size < w1.heap.size := by rw [hw1]; simp
  go_enter Try.func5, Try.ntmps5
  go_wp2_with fail
  rw [← hw1]
  clear hw1
  refine (New_bad w1 c h).mono ?_
  rintro e w2 ⟨rfl, hb⟩
  have HB2 : Hid (Below w1.heap.size w1 w2) := hb
  clear hb
  go_wp2_with fail
  refine (rNew_bad w2 c h).mono ?_
  rintro e w3 ⟨rfl, hb⟩
  have HB3 : Hid (Below w1.heap.size w1 w3) := bel_trans HB2.out hb
  clear hb
  obtain ⟨d0, d1, d2, df⟩ := row3 ((But.of_below HB3.out).heap HA1.out (fun e => by cases e))
  have hlt : w.heap.size < w3.heap.size := by have := HB3.out.size; omega
  have hne : w.heap.size ≠ w3.heap.size := by omega
  have hne2 : w3.heap.size ≠ w.heap.size := by omega
  go_wp2
  go_region
  go_wp2
  have hz3 := (But.of_below HB3.out).heap HA1.out (fun e => by cases e)
  have z1 := heap_setCell_same w3 w.heap.size 0 _ _ (.int .i64 0) hz3
  have z2 := heap_setCell_same _ w.heap.size 1 _ _ (.slice none 0 0) z1
  have z3 := heap_setCell_same _ w.heap.size 2 _ _ (.int .i64 0) z2
  have z4 := (Below.heap_alloc _ (.cells #[.int .i64 0, .slice none 0 0, .int .i64 0] 27) w.heap.size (Array.getElem?_eq_some_iff.1 z3).1).trans z3
  obtain ⟨f0, f1, f2, ff⟩ := row3 z4
  refine bodyPost_ret (v := .tuple #[.pointer none, .agg #[.int .i64 0, .slice none 0 0, .int .i64 0], .bool true]) (by clear z1 z2 z3 z4 hz3; simp [results, Try.results5, go_sem, f0, f1, f2]) rfl ?_
  have hbut : But [w.heap.size] w3 ((((w3.setCell ⟨w.heap.size, 0, none⟩ (.int .i64 0)).setCell ⟨w.heap.size, 1, none⟩ (.slice none 0 0)).setCell ⟨w.heap.size, 2, none⟩ (.int .i64 0)).alloc (.cells #[.int .i64 0, .slice none 0 0, .int .i64 0] 27)).drew := (((((But.refl _ w3).setCell (by simp) _).setCell (by simp) _).setCell (by simp) _).alloc _).drew
  exact ⟨rfl, (bel_trans HB1.out HB3.out).trans (hbut.below (by omega) (by simp))⟩

end Rg
end Go.Proofs.Ytclciccgcegpmaa
