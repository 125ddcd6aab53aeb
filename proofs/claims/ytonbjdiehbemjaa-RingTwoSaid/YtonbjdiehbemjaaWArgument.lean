/-
  The walk of the law RingArgument.
-/
import Derived.Test.YtonbjdiehbemjaaGRef3
import Derived.Test.YtonbjdiehbemjaaGNil
import Derived.Test.YtonbjdiehbemjaaGArg2
import Derived.Deep.RegionWith
set_option linter.unusedVariables false
set_option linter.unusedSimpArgs false
namespace Go.Proofs.Ytonbjdiehbemjaa
open Go.RowKit
namespace Rg

theorem madeP (w : World) (c : Int) (h0 : -9223372036854775808 ≤ c) (h1 : c ≤ 9223372036854775807) : Calls Try.prog 10 #[.int .i64 c] w fun e w' => ∃ p bs cap, e = .returned (.tuple #[.pointer p, .agg #[.int .i64 ((cap : Nat) : Int), .slice none 0 0, .int .i64 0], .bool true]) ∧ RingP w' p bs cap 0 [] ∧ (∀ x ∈ bs, w.heap.size ≤ x) ∧ Below w.heap.size w w' := by
  by_cases h : 1 ≤ c ∧ c ≤ 1048576
  · obtain ⟨cap, rfl⟩ := Int.eq_ofNat_of_zero_le (show 0 ≤ c by omega)
    refine (made_any w cap (by omega) (by omega)).mono ?_
    rintro e w' ⟨rp, sb, rfl, h2, h3, h4, h5⟩
    exact ⟨_, [rp, sb], cap, rfl, .inr ⟨rp, sb, rfl, rfl, h4⟩, by simp; exact ⟨h2, h3⟩, h5⟩
  · refine (made_bad w c h).mono ?_
    rintro e w' ⟨rfl, h5⟩
    exact ⟨none, [], 0, rfl, .inl ⟨rfl, rfl, rfl, rfl, rfl⟩, (fun x hx => by cases hx), h5⟩

set_option maxRecDepth 100000 in
set_option maxHeartbeats 4000000 in
theorem walk_RingArgument (cp : Int) (v1 : Value) (ls : List (List UInt8)) (w : World) (h1 : RdBB w v1 ls) (hcp0 : -9223372036854775808 ≤ cp) (hcp1 : cp ≤ 9223372036854775807) (hz : ls.length ≤ 9223372036854775807) :
    Calls Try.prog 6 #[.int .i64 cp, v1] w fun e w' => e = .returned (.bool true) ∧ Below w.heap.size w w' := by
  obtain ⟨a1, c1, rfl, hc1, hb1, hr1⟩ := h1
  have HR1 : Hid (ls = [] ∨ ∃ g o, a1 = some ⟨g, o, none⟩ ∧ ∀ j l, ls[j]? = some l → ∃ u, w.cell? ⟨g, o + j, none⟩ = some u ∧ RdB w u l) := hr1
  have HZ : Hid (∀ l ∈ ls, l.length ≤ 140737488351232) := hb1
  clear hr1 hb1
  go_enter Try.func6, Try.ntmps6
  go_wp2_with fail
  refine (awake_any w).mono ?_
  rintro e w1 ⟨rfl, hb⟩
  have HB1 : Hid (Below w.heap.size w w1) := hb
  clear hb
  go_wp2_with fail
  refine (madeP w1 cp hcp0 hcp1).mono ?_
  rintro e w2 ⟨p, bs, cap, rfl, hP, hbs, hb⟩
  have HB2 : Hid (Below w.heap.size w w2) := bel_trans HB1.out hb
  have HP2 : Hid (RingP w2 p bs cap 0 []) := hP
  have HBS : Hid (∀ x ∈ bs, w.heap.size ≤ x) := fun x hx => Nat.le_trans HB1.out.size (hbs x hx)
  have HBS2 : Hid (∀ x ∈ bs, x < w2.heap.size) := hP.lt
  obtain ⟨_, hcap⟩ := hP.hlen
  clear hP hbs hb
  obtain ⟨mb, hmb⟩ : ∃ mb, mb = w2.heap.size := ⟨_, rfl⟩
  have hmb0 : w.heap.size ≤ mb := by rw [hmb]; exact HB2.out.size
  have HBM : Hid (∀ x ∈ bs, x < mb) := (by rw [hmb]; exact HBS2.out : ∀ x ∈ bs, x < mb)
  obtain ⟨w3, hw3⟩ : ∃ w3, w3 = w2.alloc (.cells #[.int .i64 (cap : Int), .slice none 0 0, .int .i64 0] 27) := ⟨_, rfl⟩
  have HM3 : Hid (w3.heap[mb]? = some (.cells #[.int .i64 (cap : Int), .slice none 0 0, .int .i64 0] 27 (0, 0))) := (by rw [hw3, hmb]; exact heap_alloc_new _ _ : w3.heap[mb]? = _)
  have HB3 : Hid (Below w.heap.size w w3) := (by rw [hw3]; exact HB2.out.alloc HB2.out.size _ : Below w.heap.size w w3)
  have HP3 : Hid (RingP w3 p bs cap 0 []) := (by rw [hw3]; exact HP2.out.below ((Below.refl _ _).alloc (Nat.le_refl _) _) : RingP w3 p bs cap 0 [])
  go_wp2
  rw [← hw3, ← hmb]
  clear hw3 hmb HP2 HBS2
  go_loopw [24] (fun i wr => ∃ (k h : Nat) (mv : Value) (ml : List UInt8), k ≤ ls.length ∧ i = .int .i64 k ∧ Hid (wr.heap[mb]? = some (.cells #[.int .i64 (cap : Int), mv, .int .i64 0] 27 (0, 0))) ∧ Hid (RdB wr mv ml) ∧ Hid (∀ g, mv.ownBlock = some g → mb < g ∧ g < wr.heap.size) ∧ Hid (RingP wr p bs cap h ml) ∧ Hid (Below w.heap.size w wr)) (fun i _ => ls.length - (intOf i).toNat)
  case atStart => exact ⟨0, 0, .slice none 0 0, [], Nat.zero_le _, rfl, HM3, RdB.nil _, (fun g hg => by cases hg), HP3, HB3⟩
  case round =>
    obtain ⟨k, h, mv, ml, hk, rfl, HM, HMV, HMG, HP, HB⟩ := hrel
    obtain ⟨hml, _⟩ := HP.out.hlen
    by_cases hlt : k < ls.length
    · obtain ⟨l, hl⟩ : ∃ l, ls[k]? = some l := ⟨_, List.getElem?_eq_getElem hlt⟩
      rcases HR1.out with e | ⟨g, o, rfl, hcell⟩
      · rw [e] at hlt; simp at hlt
      obtain ⟨u, hu, hru⟩ := hcell k l hl
      have hl47 := HZ.out l (List.mem_of_getElem? hl)
      have hdx : wr.cell? ⟨g, o + k, none⟩ = some u := (HB.out.cell (p := ⟨g, o + k, none⟩) (World.block_lt_of_cell? w _ hu)).trans hu
      have HU : Hid (RdB w u l) := hru
      obtain ⟨au, cu, rfl, hcu, _⟩ := hru
      have hlt' : ((k : Nat) : Int) < ((ls.length : Nat) : Int) := by omega
      have HUr : Hid (RdB wr (.slice au l.length cu) l) := HU.out.below HB.out
      have hl48 : l.length ≤ 140737488355328 := by omega
      clear hcell hu hl
      go_wp2_with (at_builtin; go_must (refine wp_new rfl (.tmp 28) (.tmp 29) rfl wr _ l l.length rfl rfl rfl HUr.out hl48 ?_; intro aq cq w4 ho4 hb4))
      have HO4 : Hid (w4.ownsRow wr.heap.size 5 1 (.slice aq l.length cq) l.length (bv l)) := ho4
      have HB4 : Hid (Below wr.heap.size wr w4) := hb4
      have hmbr : mb < wr.heap.size := (Array.getElem?_eq_some_iff.1 HM.out).1
      have HBR : Hid (∀ x ∈ bs, x < wr.heap.size) := HP.out.lt
      clear ho4 hb4
      obtain ⟨n, hn⟩ : ∃ n, n = min l.length (cap - ml.length) := ⟨_, rfl⟩
      have HN : Hid (n = min l.length (cap - ml.length)) := hn
      clear hn
      refine (PutP (HP.out.below HB4.out) _ l (RdB.ofOwn HO4.out) (fun g hg hb => by have := owns_fresh HO4.out g hg; have := HBR.out g hb; omega) (by omega) n HN.out).mono ?_
      rintro e w5 ⟨rfl, hP5, hb5⟩
      have HP5 : Hid (RingP w5 p bs cap h (ml ++ l.take n)) := hP5
      have HQ5 : Hid (w5.ownsRow wr.heap.size 5 1 (.slice aq l.length cq) l.length (bv l)) := hb5.owns HO4.out (fun g hg hb => by have := owns_fresh HO4.out g hg; have := HBR.out g hb; omega)
      have HM5 : Hid (w5.heap[mb]? = some (.cells #[.int .i64 (cap : Int), mv, .int .i64 0] 27 (0, 0))) := hb5.heap ((But.of_below HB4.out).heap HM.out (fun e => by cases e)) (fun hb => by have := HBM.out mb hb; omega)
      have HMV5 : Hid (RdB w5 mv ml) := (HMV.out.below HB4.out).but hb5 (fun g hg hb => by have := HMG.out g hg; have := HBM.out g hb; omega)
      have HB5 : Hid (Below w.heap.size w w5) := HB.out.trans ((HB4.out.mono HB.out.size).trans (hb5.below (by have := HB.out.size; have := HB4.out.size; omega) HBS.out))
      have hs5 : wr.heap.size ≤ w5.heap.size := Nat.le_trans HB4.out.size hb5.size
      clear hP5 hb5 HO4 HB4
      obtain ⟨W0, rfl⟩ : ∃ W0, W0 = wr := ⟨_, rfl⟩
      go_wp2
      go_loopw [36] (fun i w6 => ∃ (j : Nat) (xs : List Value), j ≤ l.length ∧ i = .int .i64 j ∧ Hid (∀ x ∈ xs, ∃ z, x = .int .u8 z) ∧ Hid (w6.ownsRow W0.heap.size 5 1 (.slice aq l.length cq) l.length xs) ∧ Hid (But ((Value.slice aq l.length cq).ownBlock).toList w5 w6)) (fun i _ => l.length - (intOf i).toNat)
      case atStart => exact ⟨0, bv l, Nat.zero_le _, rfl, (fun x hx => by unfold bv at hx; obtain ⟨b, _, rfl⟩ := List.mem_map.1 hx; exact ⟨_, rfl⟩), HQ5, But.refl _ _⟩
      case round =>
        obtain ⟨j, xs, hj, rfl, HX, HO, HBT⟩ := hrel
        by_cases hjl : j < l.length
        · have hjl' : ((j : Nat) : Int) < ((l.length : Nat) : Int) := by omega
          obtain ⟨gq, rfl⟩ : ∃ gq, aq = some ⟨gq, 0, none⟩ := by
            rcases HO.out.2 with ⟨e, e0⟩ | ⟨g', c', cur, e, _⟩
            · omega
            · injection e with e1 _ _
              exact ⟨g', e1⟩
          have hxl : xs.length = l.length := by have := HO.out.1; omega
          obtain ⟨x, hx⟩ : ∃ x, xs[j]? = some x := ⟨_, List.getElem?_eq_getElem (by omega)⟩
          obtain ⟨z, rfl⟩ := HX.out x (List.mem_of_getElem? hx)
          have hcx : wr.cell? ⟨gq, j, none⟩ = some (.int .u8 z) := by rw [HO.out.cellAt j (by omega)]; exact hx
          have hfx : wr.frozen? ⟨gq, j, none⟩ = false := HO.out.frozenAt j
          clear hx
          go_wp2
          go_roundw
          case rel =>
            refine ⟨j + 1, xs.set j _, by omega, by go_num, ?_, (HO.out.stored j _).1, HBT.out.setCell (by simp [Value.ownBlock]) _⟩
            intro y hy
            rcases List.mem_or_eq_of_mem_set hy with hy | rfl
            · exact HX.out y hy
            · exact ⟨_, rfl⟩
          case measure => simp [intOf]; omega
        · have hjl' : ¬ ((j : Nat) : Int) < ((l.length : Nat) : Int) := by omega
          have HP6 : Hid (RingP wr p bs cap h (ml ++ l.take n)) := HP5.out.but HBT.out (fun x hx hb => by have := HBR.out x hx; have h2 := owns_fresh HO.out x (by simpa using hb); omega)
          have HM6 : Hid (wr.heap[mb]? = some (.cells #[.int .i64 (cap : Int), mv, .int .i64 0] 27 (0, 0))) := HBT.out.heap HM5.out (fun hb => by have h2 := owns_fresh HO.out mb (by simpa using hb); omega)
          have HMV6 : Hid (RdB wr mv ml) := HMV5.out.but HBT.out (fun x hx hb => by have := HMG.out x hx; have h2 := owns_fresh HO.out x (by simpa using hb); omega)
          have HB6 : Hid (Below w.heap.size w wr) := HB5.out.trans (HBT.out.below HB5.out.size (fun x hx => by have h2 := owns_fresh HO.out x (by simpa using hx); have := HB.out.size; omega))
          have hs6 : W0.heap.size ≤ wr.heap.size := Nat.le_trans hs5 HBT.out.size
          obtain ⟨d0, d1, d2, df⟩ := row3 HM6.out
          go_wp2_with fail
          refine (rPut_any (gone := 0) HMV6.out (HU.out.below HB6.out) (by omega) hml hl48 n HN.out).mono ?_
          rintro e w7 ⟨lv, rfl, ho7, hb7⟩
          have HB7 : Hid (Below w.heap.size w w7) := bel_trans HB6.out hb7
          have HP7 : Hid (RingP w7 p bs cap h (ml ++ l.take n)) := HP6.out.below hb7
          have HM7 : Hid (w7.heap[mb]? = some (.cells #[.int .i64 (cap : Int), mv, .int .i64 0] 27 (0, 0))) := (But.of_below hb7).heap HM6.out (fun e => by cases e)
          have HO7 : Hid (w7.ownsRow wr.heap.size 5 1 lv (ml ++ l.take n).length (bv (ml ++ l.take n))) := ho7
          clear ho7 hb7 d0 d1 d2 df
          obtain ⟨nl, hnl⟩ : ∃ nl, nl = ml ++ l.take n := ⟨_, rfl⟩
          rw [← hnl] at HP7 HO7
          clear hnl
          obtain ⟨d0, d1, d2, df⟩ := row3 HM7.out
          obtain ⟨alv, clv, rfl, _⟩ := owns_slice HO7.out
          have z1 := heap_setCell_same w7 mb 0 _ _ (.int .i64 (cap : Int)) HM7.out
          have z2 := heap_setCell_same _ mb 1 _ _ (.slice alv nl.length clv) z1
          have z3 := heap_setCell_same _ mb 2 _ _ (.int .i64 0) z2
          have hbt : But [mb] w7 (((w7.setCell ⟨mb, 0, none⟩ (.int .i64 (cap : Int))).setCell ⟨mb, 1, none⟩ (.slice alv nl.length clv)).setCell ⟨mb, 2, none⟩ (.int .i64 0)) := (((But.refl _ w7).setCell (by simp) _).setCell (by simp) _).setCell (by simp) _
          have Z3 : Hid (_ = _) := z3
          have HBT8 : Hid (But [mb] w7 _) := hbt
          clear z1 z2 z3 hbt
          have hnl : nl.length ≤ 1048576 := by have := HP7.out.hlen; omega
          go_wp2
          obtain ⟨w8, hW8⟩ : ∃ w8, w8 = ((w7.setCell ⟨mb, 0, none⟩ (.int .i64 (cap : Int))).setCell ⟨mb, 1, none⟩ (.slice alv nl.length clv)).setCell ⟨mb, 2, none⟩ (.int .i64 0) := ⟨_, rfl⟩
          have HM8 : Hid (w8.heap[mb]? = some (.cells #[.int .i64 (cap : Int), .slice alv nl.length clv, .int .i64 0] 27 (0, 0))) := (by rw [hW8]; exact Z3.out : w8.heap[mb]? = _)
          have HBT8' : Hid (But [mb] w7 w8) := (by rw [hW8]; exact HBT8.out : But [mb] w7 w8)
          rw [← hW8]
          clear hW8 Z3 HBT8 d0 d1 d2 df
          have HLG : Hid (∀ x, (Value.slice alv nl.length clv).ownBlock = some x → mb < x ∧ x < w8.heap.size) := fun x hx => by
            have h1 := World.ownsRow.lt HO7.out x hx
            have h2 := HBT8'.out.size
            omega
          have HP8 : Hid (RingP w8 p bs cap h nl) := HP7.out.but HBT8'.out (fun x hx hb => by have := HBM.out x hx; simp at hb; omega)
          have HV8 : Hid (RdB w8 (.slice alv nl.length clv) nl) := (RdB.ofOwn HO7.out).but HBT8'.out (fun x hx hb => by have := HLG.out x hx; simp at hb; omega)
          have HB8 : Hid (Below w.heap.size w w8) := HB7.out.trans (HBT8'.out.below HB7.out.size (by simp; omega))
          have HBd : Hid (Below w8.heap.size w8 w8.drew) := (Below.refl _ _).drew
          obtain ⟨d0, d1, d2, df⟩ := row3 HM8.out
          have hdd : w8.drew.cell? ⟨mb, 1, none⟩ = some (.slice alv nl.length clv) := d1
          go_region_with (first | (go_at_call 19; refine (LenP (HP8.out.below HBd.out)).mono ?_; rintro e w9 ⟨rfl, hb9⟩; have HB9 : Hid (Below w8.heap.size w8 w9) := bel_trans HBd.out hb9; clear hb9; have hd9 : w9.cell? ⟨mb, 1, none⟩ = some (.slice alv nl.length clv) := (But.of_below HB9.out).cell d1 (fun e => by cases e)) | (go_at_call 18; refine (PeekP (HP8.out.below HB9.out) 0 ((nl.length : Nat) : Int) (by omega) (by omega) (by omega) (by omega) nl.length (by rw [rch_zero]; omega)).mono ?_; rintro e w10 ⟨v10, rfl, ho10, hb10⟩; have HB10 : Hid (Below w8.heap.size w8 w10) := bel_trans HB9.out hb10; have HV10 : Hid (RdB w10 v10 nl) := (by have := RdB.ofOwn ho10; rwa [show (0 : Int).toNat = 0 from rfl, List.drop_zero, List.take_length] at this : RdB w10 v10 nl); clear ho10 hb10; have hd10 : w10.cell? ⟨mb, 1, none⟩ = some (.slice alv nl.length clv) := (But.of_below HB10.out).cell d1 (fun e => by cases e)) | (go_at_call 17; refine (same_any HV10.out (HV8.out.below HB10.out) true (by simp)).mono ?_; rintro e w11 ⟨rfl, hb11⟩; have HB11 : Hid (Below w8.heap.size w8 w11) := bel_trans HB10.out hb11; clear hb11))
          all_goals
            go_wp2
            go_roundw
            case rel => exact ⟨k + 1, h, _, nl, by omega, by go_num, (But.of_below HB11.out).heap HM8.out (fun e => by cases e), HV8.out.below HB11.out, (fun x hx => by have := HLG.out x hx; have := HB11.out.size; omega), HP8.out.below HB11.out, bel_trans HB8.out HB11.out⟩
            case measure => simp [intOf]; omega
    · have hlt' : ¬ ((k : Nat) : Int) < ((ls.length : Nat) : Int) := by omega
      go_wp2
      go_ret
      exact ⟨rfl, HB.out⟩

end Rg
end Go.Proofs.Ytonbjdiehbemjaa
