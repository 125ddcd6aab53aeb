/-
  The walk of the law RingStream.
-/
import Derived.Test.YtonbjdiehbemjaaGNew
set_option linter.unusedVariables false
set_option linter.unusedSimpArgs false
namespace Go.Proofs.Ytonbjdiehbemjaa
open Go.RowKit
namespace Rg

theorem own_cap {w : World} {B T S n c : Nat} {a : Option Addr} {xs : List Value} (h : w.ownsRow B T S (.slice a n c) n xs) : c ≤ 9223372036854775807 := by
  rcases h.2 with ⟨e, _⟩ | ⟨g, c', _, e, _, _, _, hm, _⟩
  · injection e with _ _ e; omega
  · injection e with _ _ e; rw [e]; unfold maxLen at hm; omega
theorem bv_len' {w : World} {B T n : Nat} {v : Value} {l : List UInt8} (h : w.ownsRow B T 1 v n (bv l)) : w.ownsRow B T 1 v l.length (bv l) := by
  have hn := owns_len h
  subst hn
  exact h

set_option maxRecDepth 100000 in
set_option maxHeartbeats 4000000 in
theorem walk_RingStream (cp : Int) (v0 v1 : Value) (l : List UInt8) (zs : List Int) (w : World) (h0 : RdB w v0 l) (h1 : RdI w v1 zs) (hcp0 : -9223372036854775808 ≤ cp) (hcp1 : cp ≤ 9223372036854775807) (hl : l.length ≤ 140737488351232) (hz : zs.length ≤ 9223372036854775807) :
    Calls Try.prog 8 #[.int .i64 cp, v0, v1] w fun e w' => e = .returned (.bool true) ∧ Below w.heap.size w w' := by
  have H0 : Hid (RdB w v0 l) := h0
  have H1 : Hid (RdI w v1 zs) := h1
  obtain ⟨a0, c0, rfl, hc0, _⟩ := h0
  obtain ⟨a1, c1, rfl, hc1, hn1, hb1, hr1⟩ := h1
  have HR1 : Hid (zs = [] ∨ ∃ g o, a1 = some ⟨g, o, none⟩ ∧ ∀ j x, zs[j]? = some x → w.cell? ⟨g, o + j, none⟩ = some (.int .i64 x)) := hr1
  have HZ : Hid (∀ x ∈ zs, -9223372036854775808 ≤ x ∧ x ≤ 9223372036854775807) := hb1
  clear hr1 hb1 hn1
  go_enter Try.func8, Try.ntmps8
  go_wp2_with fail
  refine (awake_any w).mono ?_
  rintro e w1 ⟨rfl, hb⟩
  have HB1 : Hid (Below w.heap.size w w1) := hb
  clear hb
  by_cases g1 : cp < 1
  · go_wp2
    go_ret
    exact ⟨rfl, HB1.out⟩
  by_cases g2 : (1048576 : Int) < cp
  · go_wp2
    go_ret
    exact ⟨rfl, HB1.out⟩
  obtain ⟨cap, rfl⟩ := Int.eq_ofNat_of_zero_le (show 0 ≤ cp by omega)
  go_wp2_with fail
  refine (New_any w1 cap (by omega) (by omega)).mono ?_
  rintro e w2 ⟨rfl, hA, hb⟩
  have HB2 : Hid (Below w.heap.size w w2) := bel_trans HB1.out hb
  have HA2 : Hid (IsRing w2 (w1.heap.size + 1) w1.heap.size cap 0 []) := hA
  have s1 : w.heap.size ≤ w1.heap.size := HB1.out.size
  have s2 : w1.heap.size + 1 < w2.heap.size := hA.lt1
  clear hA hb
  generalize hpa : w1.heap.size + 1 = pa at *
  generalize hsa : w1.heap.size = sa at *
  have hpa' : w.heap.size ≤ pa := by omega
  have hpsa : sa < pa := by omega
  clear hpa hsa
  have H02 : Hid (RdB w2 (.slice a0 l.length c0) l) := H0.out.below HB2.out
  have hl47 : l.length ≤ 140737488355328 := by omega
  go_wp2_with (at_builtin; go_must (refine wp_new rfl (.tmp 36) (.tmp 37) rfl w2 _ l l.length rfl rfl rfl H02.out hl47 ?_; intro a3 c3 w3 ho3 hb3))
  have HB3 : Hid (Below w.heap.size w w3) := bel_trans HB2.out hb3.out
  have HA3 : Hid (IsRing w3 pa sa cap 0 []) := HA2.out.below hb3.out
  have HR3 : Hid (RdB w3 (.slice a3 l.length c3) l) := RdB.own ho3.out
  have HG3 : Hid (∀ g, (Value.slice a3 l.length c3).ownBlock = some g → pa < g) := fun g hg => by have := owns_fresh ho3.out g hg; omega
  have t3 : pa < w3.heap.size := HA3.out.lt1
  have HX3 : ∀ g, (Value.slice a3 l.length c3).ownBlock = some g → g < w3.heap.size := fun g hg => (World.ownsRow.lt ho3.out g hg).2
  clear ho3 hb3 H02 HA2
  have HS3 : Hid (∀ g, (Value.slice a3 l.length c3).ownBlock = some g → g < w3.heap.size) := HX3
  clear HX3
  obtain ⟨s3, hs3⟩ : ∃ s3, s3 = w3.heap.size := ⟨_, rfl⟩
  rw [← hs3] at HS3 t3
  have HS3' : s3 ≤ w3.heap.size := by omega
  clear hs3
  go_loopw [9, 10, 41] (fun rv ov i wr => ∃ (k : Nat) (ar : Option Addr) (cr h : Nat) (ys rl ol : List UInt8) (ao : Option Addr) (co : Nat), k ≤ zs.length ∧ i = .int .i64 k ∧ rv = .slice ar rl.length cr ∧ ov = .slice ao ol.length co ∧ rl.length ≤ l.length ∧ ol.length ≤ l.length ∧ Hid (ol ++ (ys ++ rl) = l) ∧ Hid (RdB wr (.slice ar rl.length cr) rl) ∧
      Hid (∀ g, (Value.slice ar rl.length cr).ownBlock = some g → pa < g ∧ g < s3) ∧ Hid (wr.ownsRow s3 5 1 (.slice ao ol.length co) ol.length (bv ol)) ∧ s3 ≤ wr.heap.size ∧ Hid (IsRing wr pa sa cap h ys) ∧ Hid (Below w.heap.size w wr)) (fun _ _ i _ => zs.length - (intOf i).toNat)
  case atStart => exact ⟨0, a3, c3, 0, [], l, [], none, 0, Nat.zero_le _, rfl, rfl, rfl, Nat.le_refl _, by simp, rfl, HR3, (fun g hg => ⟨HG3.out g hg, HS3.out g hg⟩), World.ownsRow_nil _ _ _ _, HS3', HA3, HB3⟩
  case round =>
    obtain ⟨k, ar, cr, h, ys, rl, ol, ao, co, hk, rfl, rfl, rfl, hrl, hol, HE, HR, HG, HO, hsr, HA, HB⟩ := hrel
    have f2 : ol.length + (ys.length + rl.length) = l.length := by have := congrArg List.length HE.out; rwa [List.length_append, List.length_append] at this
    have f1 : pa < wr.heap.size := HA.out.lt1
    have hys := HA.out.hlen
    have hcap := HA.out.hcap
    by_cases hlt : k < zs.length
    · obtain ⟨x, hx⟩ : ∃ x, zs[k]? = some x := ⟨_, List.getElem?_eq_getElem hlt⟩
      rcases HR1.out with e | ⟨g, o, rfl, hcell⟩
      · rw [e] at hlt; simp at hlt
      have hcx := hcell k x hx
      have hdx : wr.cell? ⟨g, o + k, none⟩ = some (.int .i64 x) := (HB.out.cell (p := ⟨g, o + k, none⟩) (World.block_lt_of_cell? w _ hcx)).trans hcx
      obtain ⟨x0, x1⟩ := HZ.out x (List.mem_of_getElem? hx)
      have hlt' : ((k : Nat) : Int) < ((zs.length : Nat) : Int) := by omega
      clear hcell hcx hx
      by_cases hodd : k % 2 = 1
      · have hodd' : (((k : Nat) : Int) % 2 == 1) = true := by rw [beq_iff_eq]; omega
        go_wp2_with fail
        refine (Len_any HA.out).mono ?_
        rintro e w7 ⟨rfl, hb⟩
        have HB7 : Hid (Below wr.heap.size wr w7) := hb
        clear hb
        go_wp2_with fail
        refine (kind_any w7 x _ x0 x1 (by omega) (by omega)).mono ?_
        rintro e w8 ⟨m, rfl, hm, hb⟩
        have HB8 : Hid (Below wr.heap.size wr w8) := bel_trans HB7.out hb
        have hm' : m ≤ ys.length := by omega
        clear hb hm
        go_wp2_with fail
        refine (Take_any (HA.out.below HB8.out) (m : Int) (by omega) (by omega) m (by rw [rch_zero]; omega)).mono ?_
        rintro e w9 ⟨v9, rfl, ho, hA', hb⟩
        obtain ⟨a9, c9, rfl, hc9⟩ := owns_slice ho
        have HA9 : Hid (IsRing w9 pa sa cap (pl cap h m) (ys.drop m)) := hA'
        have hg8 := HB8.out.size
        have HV9 : Hid (RdB w9 (.slice a9 m c9) (ys.take m)) := RdB.ofOwn ho
        have HO9 : Hid (w9.ownsRow s3 5 1 (.slice ao ol.length co) ol.length (bv ol)) := hb.owns ((But.of_below HB8.out).owns HO.out (fun _ _ e => by cases e)) (fun g hg => by have := owns_fresh HO.out g hg; simp; omega)
        have HR9 : Hid (RdB w9 (.slice ar rl.length cr) rl) := (HR.out.below HB8.out).but hb (fun g hg => by have := HG.out g hg; simp; omega)
        have HB9 : Hid (Below w.heap.size w w9) := HB.out.trans ((HB8.out.mono HB.out.size).trans (hb.below (by have := HB.out.size; omega) (by simp; omega)))
        have hg9 : s3 ≤ w9.heap.size := by have := hb.size; omega
        clear ho hA' hb
        have hmm : ((m : Int) != (m : Int)) = false := by simp
        have hlm : (ys.take m).length = m := by rw [List.length_take]; omega
        have hsum : ol.length + (ys.take m).length ≤ 140737488355328 := by omega
        go_wp2_with (at_builtin; go_must (refine wp_appB rfl (.tmp 61) (.tmp 62) rfl s3 _ _ ol (ys.take m) rfl HO9.out rfl HV9.out hsum hg9 ?_; intro v10 w10 ho10 hg10))
        obtain ⟨a10, c10, rfl, _⟩ := owns_slice ho10.out
        have HO10 : Hid (w10.ownsRow s3 5 1 (.slice a10 (ol ++ ys.take m).length c10) (ol ++ ys.take m).length (bv (ol ++ ys.take m))) := ho10
        have hbut : But [s3] w9 w9 := But.refl _ _
        have HN10 : Hid (∀ k, (Value.slice ao ol.length co).ownBlock = some k → s3 ≤ k) := fun k hk => owns_fresh HO9.out k hk
        have hg10' : w9.grownBy w10 (Value.slice ao ol.length co).ownBlock := hg10.out
        have HR10 : Hid (RdB w10 (.slice ar rl.length cr) rl) := by
          obtain ⟨a', c', e, q1, q2, q3⟩ := HR9.out
          refine ⟨a', c', e, q1, q2, ?_⟩
          rcases q3 with q3 | ⟨g', o', e', q3⟩
          · exact .inl q3
          · refine .inr ⟨g', o', e', fun j y hj => hg10'.cell (q3 j y hj) (fun e2 => ?_)⟩
            injection e with e _ _
            have h1 := HG.out g' (by rw [e, e']; rfl)
            have h2 := HN10.out g' e2.symm
            omega
        have HA10 : Hid (IsRing w10 pa sa cap (pl cap h m) (ys.drop m)) := HA9.out.but (bs := ((Value.slice ao ol.length co).ownBlock).toList) ((But.refl _ w9).grown hg10' (fun k hk => by rw [hk]; simp)) (fun e => by have := HN10.out pa (by simpa using e); omega) (fun e => by have := HN10.out sa (by simpa using e); omega)
        have HB10 : Hid (Below w.heap.size w w10) := HB9.out.grown hg10' HB9.out.size (fun k hk => by have := HN10.out k hk; omega)
        have hs10 : s3 ≤ w10.heap.size := by have := hg10'.size; omega
        clear ho10 hg10 hg10' hbut
        go_wp2
        go_roundw
        case rel =>
          refine ⟨k + 1, ar, cr, pl cap h m, ys.drop m, rl, ol ++ ys.take m, a10, c10, by omega, by go_num, rfl, rfl, hrl, by rw [List.length_append]; omega, ?_, HR10, HG, HO10, hs10, HA10, HB10⟩
          show _ = _
          rw [List.append_assoc, ← List.append_assoc (ys.take m), List.take_append_drop]
          exact HE.out
        case measure => simp [intOf]; omega
      · have hodd' : (((k : Nat) : Int) % 2 == 1) = false := by rw [beq_eq_false_iff_ne]; omega
        go_wp2_with fail
        refine (kind_any wr x _ x0 x1 (by omega) (by omega)).mono ?_
        rintro e w7 ⟨m, rfl, hm, hb⟩
        have HB7 : Hid (Below wr.heap.size wr w7) := hb
        have hm' : m ≤ rl.length := by omega
        clear hb hm
        have hlm : (rl.take m).length = m := by rw [List.length_take]; omega
        have hlm47 : (rl.take m).length ≤ 140737488355328 := by omega
        go_wp2_with fail
        refine (Free_any (HA.out.below HB7.out)).mono ?_
        rintro e w8 ⟨rfl, hb⟩
        have HB8 : Hid (Below wr.heap.size wr w8) := bel_trans HB7.out hb
        clear hb
        obtain ⟨fr, hfr⟩ : ∃ fr, fr = cap - ys.length := ⟨_, rfl⟩
        rw [← hfr]
        have HF : Hid (cap - ys.length = fr) := hfr.symm
        have hf1 : fr + ys.length ≤ cap := by omega
        have hf2 : cap ≤ fr + ys.length := by omega
        clear hfr
        by_cases hgt : fr < m
        · have hgt' : ((fr : Nat) : Int) < ((m : Nat) : Int) := by omega
          go_wp2_with fail
          refine (Free_any (HA.out.below HB8.out)).mono ?_
          rintro e w9 ⟨rfl, hb⟩
          rw [HF.out]
          have HB9 : Hid (Below wr.heap.size wr w9) := bel_trans HB8.out hb
          clear hb
          obtain ⟨a8, r8, _, b8, e8⟩ := cut_upto (HR.out.below HB9.out) m hm'
          have R8 : Hid (RdB w9 (.slice a8 m cr) (rl.take m)) := r8
          obtain ⟨a9, r9, _, b9, e9⟩ := cut_from HR.out fr (by omega)
          have R9 : Hid (RdB wr (.slice a9 (rl.length - fr) (cr - fr)) (rl.drop fr)) := r9
          have G9 : Hid (∀ g, (Value.slice a9 (rl.length - fr) (cr - fr)).ownBlock = some g → pa < g ∧ g < s3) := fun g hg => HG.out g (b9 g hg)
          clear r8 b8 r9 b9
          go_wp2_with (at_builtin; go_must (refine wp_new rfl (.tmp 77) (.tmp 80) rfl w9 _ (rl.take m) m hlm.symm rfl rfl R8.out hlm47 ?_; intro a10 c10 w10 ho10 hb10))
          have HB10 : Hid (Below wr.heap.size wr w10) := bel_trans HB9.out hb10.out
          have HA10 : Hid (IsRing w10 pa sa cap h ys) := HA.out.below HB10.out
          refine (Put_any (HA10.out) _ (rl.take m) (RdB.ofOwn ho10.out) (fun g hg => by have := owns_fresh ho10.out g hg; have := HB9.out.size; omega) (by omega) fr (by rw [hlm]; omega)).mono ?_
          rintro e w11 ⟨rfl, hA', hb⟩
          rw [List.take_take, Nat.min_eq_left (show fr ≤ m by omega)] at hA'
          have HA11 : Hid (IsRing w11 pa sa cap h (ys ++ rl.take fr)) := hA'
          have hs3 : s3 ≤ wr.heap.size := hsr
          have HO11 : Hid (w11.ownsRow s3 5 1 (.slice ao ol.length co) ol.length (bv ol)) := hb.owns ((But.of_below HB10.out).owns HO.out (fun _ _ e => by cases e)) (fun g hg => by have := owns_fresh HO.out g hg; simp; omega)
          have HR11 : Hid (RdB w11 (.slice a9 (rl.length - fr) (cr - fr)) (rl.drop fr)) := (R9.out.below HB10.out).but hb (fun g hg => by have := G9.out g hg; simp; omega)
          have HB11 : Hid (Below w.heap.size w w11) := HB.out.trans ((HB10.out.mono HB.out.size).trans (hb.below (by have := HB.out.size; have := HB10.out.size; omega) (by simp; omega)))
          have hs11 : wr.heap.size ≤ w11.heap.size := Nat.le_trans HB10.out.size hb.size
          clear hA' hb ho10 hb10
          have hyl : (ys ++ rl.take fr).length = ys.length + fr := by rw [List.length_append, List.length_take]; omega
          have HLD : Hid (rl.length - fr = (rl.drop fr).length) := (by simp : rl.length - fr = (rl.drop fr).length)
          have hmm : (((fr : Nat) : Int) != ((fr : Nat) : Int)) = false := by simp
          go_wp2_with fail
          refine (Len_any HA11.out).mono ?_
          rintro e w12 ⟨rfl, hb⟩
          rw [hyl]
          have HB12 : Hid (Below w11.heap.size w11 w12) := hb
          clear hb
          have hq1 : ¬ ((cap : Nat) : Int) < ((ys.length + fr : Nat) : Int) := by omega
          generalize hY : ((ys.length + fr : Nat) : Int) = Y at *
          have HY : Hid (Y = ((ys.length + fr : Nat) : Int)) := hY.symm
          clear hY
          go_wp2_with fail
          refine (Len_any (HA11.out.below HB12.out)).mono ?_
          rintro e w13 ⟨rfl, hb⟩
          rw [hyl]
          have HB13 : Hid (Below w11.heap.size w11 w13) := bel_trans HB12.out hb
          clear hb
          have hq2 : ((ol.length : Nat) : Int) + ((ys.length + fr : Nat) : Int) + ((rl.length - fr : Nat) : Int) = ((l.length : Nat) : Int) := by omega
          have hq3 : (((ol.length : Nat) : Int) + ((ys.length + fr : Nat) : Int) + ((rl.length - fr : Nat) : Int) != ((l.length : Nat) : Int)) = false := by rw [hq2]; simp
          have hz1 : ((ys.length + fr : Nat) : Int) ≤ 1048576 := by omega
          have hz2 : ((rl.length - fr : Nat) : Int) ≤ 140737488355328 := by omega
          have hz3 : 0 ≤ ((ys.length + fr : Nat) : Int) := by omega
          have hz4 : 0 ≤ ((rl.length - fr : Nat) : Int) := by omega
          clear hq2
          generalize ((ys.length + fr : Nat) : Int) = Z at *
          go_wp2
          go_roundw
          case rel =>
            refine ⟨k + 1, a9, cr - fr, h, ys ++ rl.take fr, rl.drop fr, ol, ao, co, by omega, by go_num, by rw [HLD.out], rfl, by rw [List.length_drop]; omega, hol, ?_, by rw [← HLD.out]; exact HR11.out.below HB13.out, by rw [← HLD.out]; exact G9, (But.of_below HB13.out).owns HO11.out (fun _ _ e => by cases e), by have := HB13.out.size; omega, HA11.out.below HB13.out, bel_trans HB11.out HB13.out⟩
            show _ = _
            rw [List.append_assoc, List.take_append_drop]
            exact HE.out
          case measure => simp [intOf]; omega
        · have hgt' : ¬ ((fr : Nat) : Int) < ((m : Nat) : Int) := by omega
          have HB9 : Hid (Below wr.heap.size wr w8) := HB8
          obtain ⟨a8, r8, _, b8, e8⟩ := cut_upto (HR.out.below HB8.out) m hm'
          have R8 : Hid (RdB w8 (.slice a8 m cr) (rl.take m)) := r8
          obtain ⟨a9, r9, _, b9, e9⟩ := cut_from HR.out m (by omega)
          have R9 : Hid (RdB wr (.slice a9 (rl.length - m) (cr - m)) (rl.drop m)) := r9
          have G9 : Hid (∀ g, (Value.slice a9 (rl.length - m) (cr - m)).ownBlock = some g → pa < g ∧ g < s3) := fun g hg => HG.out g (b9 g hg)
          clear r8 b8 r9 b9
          go_wp2_with (at_builtin; go_must (refine wp_new rfl (.tmp 77) (.tmp 80) rfl w8 _ (rl.take m) m hlm.symm rfl rfl R8.out hlm47 ?_; intro a10 c10 w10 ho10 hb10))
          have HB10 : Hid (Below wr.heap.size wr w10) := bel_trans HB8.out hb10.out
          have HA10 : Hid (IsRing w10 pa sa cap h ys) := HA.out.below HB10.out
          refine (Put_any (HA10.out) _ (rl.take m) (RdB.ofOwn ho10.out) (fun g hg => by have := owns_fresh ho10.out g hg; have := HB9.out.size; omega) (by omega) m (by rw [hlm]; omega)).mono ?_
          rintro e w11 ⟨rfl, hA', hb⟩
          rw [List.take_take, Nat.min_eq_left (show m ≤ m by omega)] at hA'
          have HA11 : Hid (IsRing w11 pa sa cap h (ys ++ rl.take m)) := hA'
          have hs3 : s3 ≤ wr.heap.size := hsr
          have HO11 : Hid (w11.ownsRow s3 5 1 (.slice ao ol.length co) ol.length (bv ol)) := hb.owns ((But.of_below HB10.out).owns HO.out (fun _ _ e => by cases e)) (fun g hg => by have := owns_fresh HO.out g hg; simp; omega)
          have HR11 : Hid (RdB w11 (.slice a9 (rl.length - m) (cr - m)) (rl.drop m)) := (R9.out.below HB10.out).but hb (fun g hg => by have := G9.out g hg; simp; omega)
          have HB11 : Hid (Below w.heap.size w w11) := HB.out.trans ((HB10.out.mono HB.out.size).trans (hb.below (by have := HB.out.size; have := HB10.out.size; omega) (by simp; omega)))
          have hs11 : wr.heap.size ≤ w11.heap.size := Nat.le_trans HB10.out.size hb.size
          clear hA' hb ho10 hb10
          have hyl : (ys ++ rl.take m).length = ys.length + m := by rw [List.length_append, List.length_take]; omega
          have HLD : Hid (rl.length - m = (rl.drop m).length) := (by simp : rl.length - m = (rl.drop m).length)
          have hmm : (((m : Nat) : Int) != ((m : Nat) : Int)) = false := by simp
          go_wp2_with fail
          refine (Len_any HA11.out).mono ?_
          rintro e w12 ⟨rfl, hb⟩
          rw [hyl]
          have HB12 : Hid (Below w11.heap.size w11 w12) := hb
          clear hb
          have hq1 : ¬ ((cap : Nat) : Int) < ((ys.length + m : Nat) : Int) := by omega
          generalize hY : ((ys.length + m : Nat) : Int) = Y at *
          have HY : Hid (Y = ((ys.length + m : Nat) : Int)) := hY.symm
          clear hY
          go_wp2_with fail
          refine (Len_any (HA11.out.below HB12.out)).mono ?_
          rintro e w13 ⟨rfl, hb⟩
          rw [hyl]
          have HB13 : Hid (Below w11.heap.size w11 w13) := bel_trans HB12.out hb
          clear hb
          have hq2 : ((ol.length : Nat) : Int) + ((ys.length + m : Nat) : Int) + ((rl.length - m : Nat) : Int) = ((l.length : Nat) : Int) := by omega
          have hq3 : (((ol.length : Nat) : Int) + ((ys.length + m : Nat) : Int) + ((rl.length - m : Nat) : Int) != ((l.length : Nat) : Int)) = false := by rw [hq2]; simp
          have hz1 : ((ys.length + m : Nat) : Int) ≤ 1048576 := by omega
          have hz2 : ((rl.length - m : Nat) : Int) ≤ 140737488355328 := by omega
          have hz3 : 0 ≤ ((ys.length + m : Nat) : Int) := by omega
          have hz4 : 0 ≤ ((rl.length - m : Nat) : Int) := by omega
          clear hq2
          generalize ((ys.length + m : Nat) : Int) = Z at *
          go_wp2
          go_roundw
          case rel =>
            refine ⟨k + 1, a9, cr - m, h, ys ++ rl.take m, rl.drop m, ol, ao, co, by omega, by go_num, by rw [HLD.out], rfl, by rw [List.length_drop]; omega, hol, ?_, by rw [← HLD.out]; exact HR11.out.below HB13.out, by rw [← HLD.out]; exact G9, (But.of_below HB13.out).owns HO11.out (fun _ _ e => by cases e), by have := HB13.out.size; omega, HA11.out.below HB13.out, bel_trans HB11.out HB13.out⟩
            show _ = _
            rw [List.append_assoc, List.take_append_drop]
            exact HE.out
          case measure => simp [intOf]; omega
    · have hlt' : ¬ ((k : Nat) : Int) < ((zs.length : Nat) : Int) := by omega
      go_wp2_with fail
      refine (Len_any HA.out).mono ?_
      rintro e w7 ⟨rfl, hb⟩
      have HB7 : Hid (Below wr.heap.size wr w7) := hb
      clear hb
      go_wp2_with fail
      refine (Take_any (HA.out.below HB7.out) ((ys.length : Nat) : Int) (by omega) (by omega) ys.length (by rw [rch_zero]; omega)).mono ?_
      rintro e w9 ⟨v9, rfl, ho, hA', hb⟩
      obtain ⟨a9, c9, rfl, hc9⟩ := owns_slice ho
      rw [List.drop_length] at hA'
      rw [List.take_length] at ho
      have HA9 : Hid (IsRing w9 pa sa cap (pl cap h ys.length) []) := hA'
      have hg8 := HB7.out.size
      have HV9 : Hid (RdB w9 (.slice a9 ys.length c9) ys) := RdB.ofOwn ho
      have HO9 : Hid (w9.ownsRow s3 5 1 (.slice ao ol.length co) ol.length (bv ol)) := hb.owns ((But.of_below HB7.out).owns HO.out (fun _ _ e => by cases e)) (fun g hg => by have := owns_fresh HO.out g hg; simp; omega)
      have HB9 : Hid (Below w.heap.size w w9) := HB.out.trans ((HB7.out.mono HB.out.size).trans (hb.below (by have := HB.out.size; omega) (by simp; omega)))
      have hg9 : s3 ≤ w9.heap.size := by have := hb.size; omega
      clear ho hA' hb
      have hsum : ol.length + ys.length ≤ 140737488355328 := by omega
      go_wp2_with (at_builtin; go_must (refine wp_appB rfl (.tmp 106) (.tmp 110) rfl s3 _ _ ol ys rfl HO9.out rfl HV9.out hsum hg9 ?_; intro v10 w10 ho10 hg10))
      obtain ⟨a10, c10, rfl, hc10⟩ := owns_slice ho10.out
      have HN10 : Hid (∀ k, (Value.slice ao ol.length co).ownBlock = some k → s3 ≤ k) := fun k hk => owns_fresh HO9.out k hk
      have hg10' : w9.grownBy w10 (Value.slice ao ol.length co).ownBlock := hg10.out
      have HA10 : Hid (IsRing w10 pa sa cap (pl cap h ys.length) []) := HA9.out.but (bs := ((Value.slice ao ol.length co).ownBlock).toList) ((But.refl _ w9).grown hg10' (fun k hk => by rw [hk]; simp)) (fun e => by have := HN10.out pa (by simpa using e); omega) (fun e => by have := HN10.out sa (by simpa using e); omega)
      have HB10 : Hid (Below w.heap.size w w10) := HB9.out.grown hg10' HB9.out.size (fun k hk => by have := HN10.out k hk; omega)
      have HV10 : Hid (RdB w10 (.slice a10 (ol ++ ys).length c10) (ol ++ ys)) := RdB.ofOwn ho10.out
      obtain ⟨N, hN⟩ : ∃ N, N = (ol ++ ys).length := ⟨_, rfl⟩
      rw [← hN] at HV10 hc10 ⊢
      have hN1 : N ≤ l.length := by rw [hN, List.length_append]; omega
      have hN3 : N ≤ 9223372036854775807 := by omega
      have hN4 : ((N : Nat) : Int) ≤ 9223372036854775807 := by omega
      have hN2 : Hid (((N : Nat) : Int) + ((rl.length : Nat) : Int) = ((l.length : Nat) : Int)) := (by rw [hN, List.length_append]; omega : ((N : Nat) : Int) + ((rl.length : Nat) : Int) = ((l.length : Nat) : Int))
      have HTK : Hid (ol ++ ys = l.take N) := (by rw [← HE.out, ← List.append_assoc, hN, List.take_left] : ol ++ ys = l.take N)
      clear ho10 hg10 hg10' hN
      obtain ⟨a11, r11, left, b11, e11⟩ := cut_upto H0.out N hN1
      clear b11 left
      have R11 : Hid (RdB w (.slice a11 N c0) (l.take N)) := r11
      clear r11
      go_wp2_with fail
      go_simp
      go_wp2_with fail
      refine (same_any HV10.out (R11.out.below HB10.out) true (by rw [HTK.out]; simp)).mono ?_
      rintro e w11 ⟨rfl, hb⟩
      have HB11 : Hid (Below w.heap.size w w11) := bel_trans HB10.out hb
      have HA11 : Hid (IsRing w11 pa sa cap (pl cap h ys.length) []) := HA10.out.below hb
      clear hb
      have hq : (((N : Nat) : Int) + ((rl.length : Nat) : Int) == ((l.length : Nat) : Int)) = true := by rw [hN2.out]; simp
      go_wp2_with fail
      refine (Len_any HA11.out).mono ?_
      rintro e w12 ⟨rfl, hb⟩
      have HB12 : Hid (Below w.heap.size w w12) := bel_trans HB11.out hb
      clear hb
      go_wp2
      go_ret
      exact ⟨by simp, HB12.out⟩

end Rg
end Go.Proofs.Ytonbjdiehbemjaa
