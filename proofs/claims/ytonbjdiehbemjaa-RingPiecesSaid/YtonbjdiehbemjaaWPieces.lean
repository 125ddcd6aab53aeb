/-
  The walk of the law RingPieces.
-/
import Derived.Test.YtonbjdiehbemjaaGNew
set_option linter.unusedVariables false
set_option linter.unusedSimpArgs false
namespace Go.Proofs.Ytonbjdiehbemjaa
open Go.RowKit
namespace Rg

set_option maxRecDepth 100000 in
set_option maxHeartbeats 4000000 in
theorem walk_RingPieces (v0 v1 : Value) (l : List UInt8) (zs : List Int) (w : World) (h0 : RdB w v0 l) (h1 : RdI w v1 zs) (hl : l.length ≤ 140737488351232) (hz : zs.length ≤ 9223372036854775807) :
    Calls Try.prog 7 #[v0, v1] w fun e w' => e = .returned (.bool true) ∧ Below w.heap.size w w' := by
  have H0 : Hid (RdB w v0 l) := h0
  have H1 : Hid (RdI w v1 zs) := h1
  obtain ⟨a0, c0, rfl, hc0, _⟩ := h0
  obtain ⟨a1, c1, rfl, hc1, hn1, hb1, hr1⟩ := h1
  have HR1 : Hid (zs = [] ∨ ∃ g o, a1 = some ⟨g, o, none⟩ ∧ ∀ j x, zs[j]? = some x → w.cell? ⟨g, o + j, none⟩ = some (.int .i64 x)) := hr1
  have HZ : Hid (∀ x ∈ zs, -9223372036854775808 ≤ x ∧ x ≤ 9223372036854775807) := hb1
  clear hr1 hb1 hn1
  go_enter Try.func7, Try.ntmps7
  go_wp2_with fail
  refine (awake_any w).mono ?_
  rintro e w1 ⟨rfl, hb⟩
  have HB1 : Hid (Below w.heap.size w w1) := hb
  clear hb
  by_cases g1 : l.length < 1
  · have g1' : ((l.length : Nat) : Int) < 1 := by omega
    go_wp2
    go_ret
    exact ⟨rfl, HB1.out⟩
  have g1' : ¬ ((l.length : Nat) : Int) < 1 := by omega
  by_cases g2 : 1048576 < l.length
  · have g2' : (1048576 : Int) < ((l.length : Nat) : Int) := by omega
    go_wp2
    go_ret
    exact ⟨rfl, HB1.out⟩
  have g2' : ¬ (1048576 : Int) < ((l.length : Nat) : Int) := by omega
  go_wp2_with fail
  refine (New_any w1 l.length (by omega) (by omega)).mono ?_
  rintro e w2 ⟨rfl, hA, hb⟩
  have HB2 : Hid (Below w.heap.size w w2) := bel_trans HB1.out hb
  have HA2 : Hid (IsRing w2 (w1.heap.size + 1) w1.heap.size l.length 0 []) := hA
  have s1 : w.heap.size ≤ w1.heap.size := HB1.out.size
  clear hA hb
  generalize hpa : w1.heap.size + 1 = pa at *
  generalize hsa : w1.heap.size = sa at *
  have hpa' : w.heap.size ≤ pa := by omega
  have HPA : Hid (pa ≠ sa) := (by omega : pa ≠ sa)
  clear hpa hsa
  go_wp2_with fail
  refine (New_any w2 l.length (by omega) (by omega)).mono ?_
  rintro e w3 ⟨rfl, hA, hb⟩
  have HB3 : Hid (Below w.heap.size w w3) := bel_trans HB2.out hb
  have HA3 : Hid (IsRing w3 pa sa l.length 0 []) := HA2.out.below hb
  have HC3 : Hid (IsRing w3 (w2.heap.size + 1) w2.heap.size l.length 0 []) := hA
  have d1 : pa < w2.heap.size := HA2.out.lt1
  have d2 : sa < w2.heap.size := HA2.out.lt2
  clear hA hb
  generalize hpb : w2.heap.size + 1 = pb at *
  generalize hsb : w2.heap.size = sb at *
  have hpb' : sb < pb := by omega
  clear hpb hsb
  have H03 : Hid (RdB w3 (.slice a0 l.length c0) l) := H0.out.below HB3.out
  have hl47 : l.length ≤ 140737488355328 := by omega
  go_wp2_with (at_builtin; go_must (refine wp_new rfl (.tmp 50) (.tmp 51) rfl w3 _ l l.length rfl rfl rfl H03.out hl47 ?_; intro a4 c4 w4 ho4 hb4))
  have HB4 : Hid (Below w.heap.size w w4) := bel_trans HB3.out hb4.out
  have e1 : pb < w3.heap.size := HC3.out.lt1
  refine (PutAll_any (HA3.out.below hb4.out) _ l (RdB.own ho4.out) (fun g hg => by have := owns_fresh ho4.out g hg; omega) (by omega) (by simp)).mono ?_
  rintro e w5 ⟨rfl, hA, hb⟩
  have HA5 : Hid (IsRing w5 pa sa l.length 0 l) := hA
  have HC5 : Hid (IsRing w5 pb sb l.length 0 []) := (HC3.out.below hb4.out).but hb (by simp; omega) (by simp; omega)
  have HB5 : Hid (Below w.heap.size w w5) := HB4.out.trans (hb.below HB4.out.size (by simp; omega))
  clear hA hb ho4 hb4
  have H05 : Hid (RdB w5 (.slice a0 l.length c0) l) := H0.out.below HB5.out
  go_wp2_with (at_builtin; go_must (refine wp_new rfl (.tmp 55) (.tmp 56) rfl w5 _ l l.length rfl rfl rfl H05.out hl47 ?_; intro a6 c6 w6 ho6 hb6))
  have HB6 : Hid (Below w.heap.size w w6) := bel_trans HB5.out hb6.out
  have HA6 : Hid (IsRing w6 pa sa l.length 0 l) := HA5.out.below hb6.out
  have HC6 : Hid (IsRing w6 pb sb l.length 0 []) := HC5.out.below hb6.out
  have HR6 : Hid (RdB w6 (.slice a6 l.length c6) l) := RdB.own ho6.out
  have e5 : pb < w5.heap.size := HC5.out.lt1
  have HG6 : Hid (∀ g, (Value.slice a6 l.length c6).ownBlock = some g → pb < g) := fun g hg => by have := owns_fresh ho6.out g hg; omega
  have hc6 : c6 ≤ 9223372036854775807 := by
    rcases ho6.out.2 with ⟨e, _⟩ | ⟨g, c, _, e, _, _, _, hm, _⟩
    · injection e with _ _ e; omega
    · injection e with _ _ e; rw [e]; unfold maxLen at hm; omega
  clear ho6 hb6 H03 H05 HA3 HC3 HA2 HA5 HC5
  go_loopw [9, 60] (fun rv i wr => ∃ (k : Nat) (ar : Option Addr) (cr h : Nat) (ys rl : List UInt8), k ≤ zs.length ∧ i = .int .i64 k ∧ rv = .slice ar rl.length cr ∧ rl.length ≤ l.length ∧ Hid (ys ++ rl = l) ∧ Hid (RdB wr (.slice ar rl.length cr) rl) ∧ Hid (∀ g, (Value.slice ar rl.length cr).ownBlock = some g → pb < g) ∧ Hid (IsRing wr pa sa l.length 0 l) ∧ Hid (IsRing wr pb sb l.length h ys) ∧ Hid (Below w.heap.size w wr)) (fun _ i _ => zs.length - (intOf i).toNat)
  case atStart => exact ⟨0, a6, c6, 0, [], l, Nat.zero_le _, rfl, rfl, Nat.le_refl _, rfl, HR6, HG6, HA6, HC6, HB6⟩
  case round =>
    obtain ⟨k, ar, cr, h, ys, rl, hk, rfl, rfl, hrl, HE, HR, HG, HA, HC, HB⟩ := hrel
    by_cases hlt : k < zs.length
    · obtain ⟨x, hx⟩ : ∃ x, zs[k]? = some x := ⟨_, List.getElem?_eq_getElem hlt⟩
      rcases HR1.out with e | ⟨g, o, rfl, hcell⟩
      · rw [e] at hlt; simp at hlt
      have hcx := hcell k x hx
      have hdx : wr.cell? ⟨g, o + k, none⟩ = some (.int .i64 x) := (HB.out.cell (p := ⟨g, o + k, none⟩) (World.block_lt_of_cell? w _ hcx)).trans hcx
      obtain ⟨x0, x1⟩ := HZ.out x (List.mem_of_getElem? hx)
      have hlt' : ((k : Nat) : Int) < ((zs.length : Nat) : Int) := by omega
      clear hcell hcx hx
      go_wp2_with fail
      refine (kind_any wr x _ x0 x1 (by omega) (by omega)).mono ?_
      rintro e w7 ⟨m, rfl, hm, hb⟩
      have HB7 : Hid (Below wr.heap.size wr w7) := hb
      clear hb
      have hm' : m ≤ rl.length := by omega
      clear hm
      obtain ⟨a8, r8, _, b8, e8⟩ := cut_upto (HR.out.below HB7.out) m hm'
      have R8 : Hid (RdB w7 (.slice a8 m cr) (rl.take m)) := r8
      have hlm : (rl.take m).length = m := by rw [List.length_take]; omega
      have hlm47 : (rl.take m).length ≤ 140737488355328 := by omega
      obtain ⟨a9, r9, _, b9, e9⟩ := cut_from HR.out m hm'
      have R9 : Hid (RdB wr (.slice a9 (rl.length - m) (cr - m)) (rl.drop m)) := r9
      have G9 : Hid (∀ g, (Value.slice a9 (rl.length - m) (cr - m)).ownBlock = some g → pb < g) := fun g hg => HG.out g (b9 g hg)
      clear r8 b8 r9 b9
      go_wp2_with (at_builtin; go_must (refine wp_new rfl (.tmp 70) (.tmp 73) rfl w7 _ (rl.take m) m hlm.symm rfl rfl R8.out hlm47 ?_; intro a10 c10 w10 ho10 hb10))
      have HB10 : Hid (Below wr.heap.size wr w10) := bel_trans HB7.out hb10.out
      have f1 : pb < wr.heap.size := HC.out.lt1
      have f2 : ys.length + rl.length = l.length := by have := congrArg List.length HE.out; rwa [List.length_append] at this
      have f3 := HB7.out.size
      refine (Put_any (HC.out.below HB10.out) _ (rl.take m) (RdB.ofOwn ho10.out) (fun g hg => by have := owns_fresh ho10.out g hg; omega) (by omega) m (by rw [hlm]; omega)).mono ?_
      rintro e w11 ⟨rfl, hC, hb⟩
      rw [List.take_of_length_le (by omega)] at hC
      have HC11 : Hid (IsRing w11 pb sb l.length h (ys ++ rl.take m)) := hC
      have HA11 : Hid (IsRing w11 pa sa l.length 0 l) := (HA.out.below HB10.out).but hb (by simp; omega) (by simp; omega)
      have HR11 : Hid (RdB w11 (.slice a9 (rl.length - m) (cr - m)) (rl.drop m)) := (R9.out.below HB10.out).but hb (fun g hg => by have := G9.out g hg; simp; omega)
      have HB11 : Hid (Below w.heap.size w w11) := HB.out.trans ((HB10.out.mono HB.out.size).trans (hb.below (by have := HB.out.size; have := HB10.out.size; omega) (by simp; omega)))
      clear hC hb ho10 hb10
      have hmm : ((m : Int) != (m : Int)) = false := by simp
      have HLD : Hid (rl.length - m = (rl.drop m).length) := (by simp : rl.length - m = (rl.drop m).length)
      go_wp2
      go_roundw
      case rel =>
        refine ⟨k + 1, a9, cr - m, h, ys ++ rl.take m, rl.drop m, by omega, by go_num, by rw [HLD.out], by rw [List.length_drop]; omega, ?_, by rw [← HLD.out]; exact HR11, by rw [← HLD.out]; exact G9, HA11, HC11, HB11⟩
        show _ = _
        rw [List.append_assoc, List.take_append_drop]
        exact HE.out
      case measure => simp [intOf]; omega
    · have hlt' : ¬ ((k : Nat) : Int) < ((zs.length : Nat) : Int) := by omega
      have f2 : ys.length + rl.length = l.length := by have := congrArg List.length HE.out; rwa [List.length_append] at this
      go_wp2_with fail
      refine (PutAll_any HC.out _ rl HR.out (fun g hg => by have := HG.out g hg; omega) (by omega) (by omega)).mono ?_
      rintro e w7 ⟨rfl, hC, hb⟩
      rw [HE.out] at hC
      have HC7 : Hid (IsRing w7 pb sb l.length h l) := hC
      have HA7 : Hid (IsRing w7 pa sa l.length 0 l) := HA.out.but hb (by simp; omega) (by simp; omega)
      have HB7 : Hid (Below w.heap.size w w7) := HB.out.trans (hb.below HB.out.size (by simp; omega))
      clear hC hb
      go_wp2_with fail
      refine (Peek_any HA7.out 0 ((l.length : Nat) : Int) (by omega) (by omega) (by omega) (by omega) l.length (by rw [rch_zero]; omega)).mono ?_
      rintro e w8 ⟨v8, rfl, ho, hb⟩
      have HB8 : Hid (Below w.heap.size w w8) := bel_trans HB7.out hb
      have HA8 : Hid (IsRing w8 pa sa l.length 0 l) := HA7.out.below hb
      have HC8 : Hid (IsRing w8 pb sb l.length h l) := HC7.out.below hb
      have HV8 : Hid (RdB w8 v8 l) := (by have := RdB.ofOwn ho; rwa [show (0 : Int).toNat = 0 from rfl, List.drop_zero, List.take_length] at this : RdB w8 v8 l)
      clear ho hb
      go_wp2_with fail
      refine (same_any HV8.out (H0.out.below HB8.out) true (by simp)).mono ?_
      rintro e w9 ⟨rfl, hb⟩
      have HB9 : Hid (Below w.heap.size w w9) := bel_trans HB8.out hb
      have HA9 : Hid (IsRing w9 pa sa l.length 0 l) := HA8.out.below hb
      have HC9 : Hid (IsRing w9 pb sb l.length h l) := HC8.out.below hb
      clear hb
      go_wp2_with fail
      refine (Take_any HC9.out ((l.length : Nat) : Int) (by omega) (by omega) l.length (by rw [rch_zero]; omega)).mono ?_
      rintro e w10 ⟨v10, rfl, ho, hC, hb⟩
      have HB10 : Hid (Below w.heap.size w w10) := HB9.out.trans (hb.below HB9.out.size (by simp; omega))
      have HA10 : Hid (IsRing w10 pa sa l.length 0 l) := HA9.out.but hb (by simp; omega) (by simp; omega)
      have HC10 : Hid (IsRing w10 pb sb l.length (pl l.length h l.length) []) := (by rw [List.drop_length] at hC; exact hC : IsRing w10 pb sb l.length (pl l.length h l.length) [])
      have HV10 : Hid (RdB w10 v10 l) := (by have := RdB.ofOwn ho; rwa [List.take_length] at this : RdB w10 v10 l)
      clear ho hC hb
      go_wp2_with fail
      refine (same_any HV10.out (H0.out.below HB10.out) true (by simp)).mono ?_
      rintro e w11 ⟨rfl, hb⟩
      have HB11 : Hid (Below w.heap.size w w11) := bel_trans HB10.out hb
      have HA11 : Hid (IsRing w11 pa sa l.length 0 l) := HA10.out.below hb
      have HC11 : Hid (IsRing w11 pb sb l.length (pl l.length h l.length) []) := HC10.out.below hb
      clear hb
      go_wp2_with fail
      refine (Free_any HA11.out).mono ?_
      rintro e w12 ⟨rfl, hb⟩
      rw [Nat.sub_self]
      have HB12 : Hid (Below w.heap.size w w12) := bel_trans HB11.out hb
      have HC12 : Hid (IsRing w12 pb sb l.length (pl l.length h l.length) []) := HC11.out.below hb
      clear hb
      go_wp2_with fail
      refine (Free_any HC12.out).mono ?_
      rintro e w13 ⟨rfl, hb⟩
      rw [List.length_nil, Nat.sub_zero]
      have HB13 : Hid (Below w.heap.size w w13) := bel_trans HB12.out hb
      clear hb
      have hll : (((l.length : Nat) : Int) == ((l.length : Nat) : Int)) = true := by simp
      go_wp2
      go_ret
      exact ⟨by simp, HB13.out⟩

end Rg
end Go.Proofs.Ytonbjdiehbemjaa
