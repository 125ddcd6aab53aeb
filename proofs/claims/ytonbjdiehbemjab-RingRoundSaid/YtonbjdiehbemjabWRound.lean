/-
  The walk of the law RingRound.
-/
import Derived.Test.YtonbjdiehbemjabGNew
set_option linter.unusedVariables false
set_option linter.unusedSimpArgs false
namespace Go.Proofs.Ytonbjdiehbemjab
open Go.RowKit
namespace Rg

theorem part1_len (cap h : Nat) (xs : List UInt8) : (part1 cap h xs).length = min (cap - h) xs.length := by unfold part1; rw [List.length_take]
theorem part2_len (cap h : Nat) (xs : List UInt8) : (part2 cap h xs).length = xs.length - (cap - h) := by unfold part2; rw [List.length_drop]
theorem parts_all (cap h : Nat) (xs : List UInt8) : part1 cap h xs ++ part2 cap h xs = xs := List.take_append_drop _ _

set_option maxRecDepth 100000 in
set_option maxHeartbeats 4000000 in
theorem walk_RingRound (cp : Int) (v1 : Value) (zs : List Int) (w : World) (h1 : RdI w v1 zs) (hcp0 : -9223372036854775808 ≤ cp) (hcp1 : cp ≤ 9223372036854775807) (hz : zs.length ≤ 9223372036854775807) :
    Calls Try.prog 3 #[.int .i64 cp, v1] w fun e w' => e = .returned (.bool true) ∧ Below w.heap.size w w' := by
  have H1 : Hid (RdI w v1 zs) := h1
  obtain ⟨a1, c1, rfl, hc1, hn1, hb1, hr1⟩ := h1
  have HR1 : Hid (zs = [] ∨ ∃ g o, a1 = some ⟨g, o, none⟩ ∧ ∀ j x, zs[j]? = some x → w.cell? ⟨g, o + j, none⟩ = some (.int .i64 x)) := hr1
  have HZ : Hid (∀ x ∈ zs, -9223372036854775808 ≤ x ∧ x ≤ 9223372036854775807) := hb1
  clear hr1 hb1 hn1
  go_enter Try.func3, Try.ntmps3
  go_wp2_with fail
  refine (awake_any w).mono ?_
  rintro e w1 ⟨rfl, hb⟩
  have HB1 : Hid (Below w.heap.size w w1) := hb
  clear hb
  by_cases g1 : cp < 1
  · go_wp2
    go_ret
    exact ⟨rfl, HB1.out⟩
  by_cases g2 : (4096 : Int) < cp
  · go_wp2
    go_ret
    exact ⟨rfl, HB1.out⟩
  obtain ⟨cap, rfl⟩ := Int.eq_ofNat_of_zero_le (show 0 ≤ cp by omega)
  have hcap0 : 1 ≤ cap := by omega
  have hcap1 : cap ≤ 4096 := by omega
  go_wp2_with fail
  refine (New_any w1 cap (by omega) (by omega)).mono ?_
  rintro e w2 ⟨rfl, hA, hb⟩
  have HB2 : Hid (Below w.heap.size w w2) := bel_trans HB1.out hb
  have HA2 : Hid (IsRing w2 (w1.heap.size + 1) w1.heap.size cap 0 []) := hA
  have s1 : w.heap.size ≤ w1.heap.size := HB1.out.size
  clear hA hb
  generalize hpa : w1.heap.size + 1 = pa at *
  generalize hsa : w1.heap.size = sa at *
  have hpa' : w.heap.size ≤ pa := by omega
  have hpsa : sa < pa := by omega
  clear hpa hsa
  go_wp2
  go_loopw [7, 8, 9, 37] (fun hv dv mv i wr => ∃ (k h : Nat) (xs : List UInt8) (b : UInt8), k ≤ zs.length ∧ i = .int .i64 k ∧ hv = .int .i64 (h : Int) ∧ dv = .int .i64 (xs.length : Int) ∧ mv = .int .u8 (b.toNat : Int) ∧ Hid (IsRing wr pa sa cap h xs) ∧ Hid (Below w.heap.size w wr)) (fun _ _ _ i _ => zs.length - (intOf i).toNat)
  case atStart => exact ⟨0, 0, [], 0, Nat.zero_le _, rfl, rfl, rfl, rfl, HA2, HB2⟩
  case round =>
    obtain ⟨k, h, xs, b, hk, rfl, rfl, rfl, rfl, HA, HB⟩ := hrel
    have hxs := HA.out.hlen
    have hh := HA.out.hhead
    by_cases hlt : k < zs.length
    · obtain ⟨x, hx⟩ : ∃ x, zs[k]? = some x := ⟨_, List.getElem?_eq_getElem hlt⟩
      rcases HR1.out with e | ⟨g, o, rfl, hcell⟩
      · rw [e] at hlt; simp at hlt
      have hcx := hcell k x hx
      have hdx : wr.cell? ⟨g, o + k, none⟩ = some (.int .i64 x) := (HB.out.cell (p := ⟨g, o + k, none⟩) (World.block_lt_of_cell? w _ hcx)).trans hcx
      obtain ⟨x0, x1⟩ := HZ.out x (List.mem_of_getElem? hx)
      have hlt' : ((k : Nat) : Int) < ((zs.length : Nat) : Int) := by omega
      clear hcell hcx hx
      go_wp2_with fail
      refine (kind_any wr x _ x0 x1 (by omega) (by omega)).mono ?_
      rintro e w3 ⟨n, rfl, hn, hb⟩
      have HB3 : Hid (Below wr.heap.size wr w3) := hb
      have hn' : n ≤ cap := by omega
      clear hb hn
      --HERE
      by_cases hle : n ≤ xs.length
      · have hle' : ((n : Nat) : Int) ≤ ((xs.length : Nat) : Int) := by omega
        obtain ⟨h', hh'⟩ : ∃ h', h' = pl cap h n := ⟨_, rfl⟩
        have hp : h' < cap := by rw [hh']; exact pl_lt cap h n hh (by omega)
        have HPM : Hid (((h : Int) + ((n : Nat) : Int)) % (cap : Int) = (h' : Int)) := (by rw [hh', pl_mod cap h n hh (by omega)]; simp : ((h : Int) + ((n : Nat) : Int)) % (cap : Int) = (h' : Int))
        have HH' : Hid (pl cap h n = h') := hh'.symm
        clear hh'
        go_wp2_with fail
        refine (Drop_any (HA.out.below HB3.out) (n : Int) (by omega) (by omega) n (by rw [rch_zero]; omega)).mono ?_
        rintro e w4 ⟨rfl, hA', hb⟩
        rw [HH'.out] at hA'
        have HA4 : Hid (IsRing w4 pa sa cap h' (xs.drop n)) := hA'
        have HB4 : Hid (Below w.heap.size w w4) := HB.out.trans ((HB3.out.mono HB.out.size).trans (hb.below (by have := HB.out.size; have := HB3.out.size; omega) (by simp; omega)))
        clear hA' hb
        have hmm : (((n : Nat) : Int) != ((n : Nat) : Int)) = false := by simp
        have hcz : (((cap : Nat) : Int) == 0) = false := by simp; omega
        have HXL : Hid (((xs.length : Nat) : Int) - ((n : Nat) : Int) = (((xs.drop n).length : Nat) : Int)) := (by rw [List.length_drop]; omega : ((xs.length : Nat) : Int) - ((n : Nat) : Int) = (((xs.drop n).length : Nat) : Int))
        have hyl : (xs.drop n).length ≤ cap := by rw [List.length_drop]; omega
        generalize xs.drop n = ys at *
        go_wp2
        rw [HXL.out, HPM.out]
        go_loopw [8, 9, 12] (fun dv mv nv wr => ∃ (j : Nat) (us : List UInt8) (b : UInt8), j ≤ n ∧ us.length ≤ cap ∧ dv = .int .i64 (us.length : Int) ∧ mv = .int .u8 (b.toNat : Int) ∧ nv = .int .i64 (j : Int) ∧ Hid (IsRing wr pa sa cap h' us) ∧ Hid (Below w.heap.size w wr)) (fun _ _ nv _ => (intOf nv).toNat)
        case atStart => exact ⟨n, ys, b, Nat.le_refl _, hyl, rfl, rfl, rfl, HA4, HB4⟩
        case round =>
          obtain ⟨j, us, b2, hj, hul, rfl, rfl, rfl, HA5, HB5⟩ := hrel
          by_cases q1 : us.length < cap
          · have q1' : ((us.length : Nat) : Int) < ((cap : Nat) : Int) := by omega
            by_cases q2 : 0 < j
            · have q2' : (0 : Int) < ((j : Nat) : Int) := by omega
              have hb2 : b2.toNat < 256 := b2.toNat_lt
              go_wp2_with fail
              have hA5 : Below wr.heap.size wr (wr.alloc (.cells #[.int .u8 (b2.toNat : Int)] 5)) := (Below.refl _ wr).alloc (Nat.le_refl _) _
              have fl1 : pa < wr.heap.size := HA5.out.lt1
              refine (Put_any (HA5.out.below hA5) _ [b2] (RdB.built wr [b2] _ (by simp [bv])) (fun g hg => by injection hg with hg; simp at hg; omega) (by simp) 1 (by simp; omega)).mono ?_
              rintro e w6 ⟨rfl, hA', hb⟩
              have HA6 : Hid (IsRing w6 pa sa cap h' (us ++ [b2])) := hA'
              have HB6 : Hid (Below w.heap.size w w6) := HB5.out.trans ((hA5.mono HB5.out.size).trans (hb.below (by have := HB5.out.size; simp; omega) (by simp; omega)))
              clear hA' hb hA5
              have HUL : Hid ((us ++ [b2]).length = us.length + 1) := (by simp : (us ++ [b2]).length = us.length + 1)
              go_wp2
              go_roundw
              case rel =>
                refine ⟨j - 1, us ++ [b2], b2 + 1, by omega, by rw [HUL.out]; omega, ?_, ?_, ?_, HA6, HB6⟩
                · rw [HUL.out]; go_num
                · first | (congr 1; rw [UInt8.toNat_add]; simp; done) | (congr 1; rw [UInt8.toNat_add]; done) | (congr 1; done)
                · go_num
              case measure => simp [intOf]; omega
            · have q2' : ¬ (0 : Int) < ((j : Nat) : Int) := by omega
              go_wp2_with fail
              refine (Head_any HA5.out).mono ?_
              rintro e w6 ⟨rfl, hb⟩
              have HB6 : Hid (Below wr.heap.size wr w6) := hb
              clear hb
              have hq1 : (((h' : Nat) : Int) != ((h' : Nat) : Int)) = false := by simp
              have hq2 : (((us.length : Nat) : Int) != ((us.length : Nat) : Int)) = false := by simp
              go_wp2_with fail
              refine (Len_any (HA5.out.below HB6.out)).mono ?_
              rintro e w7 ⟨rfl, hb⟩
              have HB7 : Hid (Below wr.heap.size wr w7) := bel_trans HB6.out hb
              clear hb
              go_wp2_with fail
              refine (Parts_any (HA5.out.below HB7.out)).mono ?_
              rintro e w8 ⟨v8, u8, rfl, ho1, ho2, hd, hb⟩
              obtain ⟨a8, c8, rfl, hc8⟩ := owns_slice ho1
              obtain ⟨a9, c9, rfl, hc9⟩ := owns_slice ho2
              have HB8 : Hid (Below wr.heap.size wr w8) := bel_trans HB7.out hb
              have R1 : Hid (RdB w8 (.slice a8 (part1 cap h' us).length c8) (part1 cap h' us)) := RdB.ofOwn ho1
              have R2 : Hid (RdB w8 (.slice a9 (part2 cap h' us).length c9) (part2 cap h' us)) := RdB.ofOwn ho2
              clear ho1 ho2 hd hb
              have HL1 : Hid ((part1 cap h' us).length = min (cap - h') us.length) := part1_len _ _ _
              have HL2 : Hid ((part2 cap h' us).length = us.length - (cap - h')) := part2_len _ _ _
              have HPA : Hid (part1 cap h' us ++ part2 cap h' us = us) := parts_all _ _ _
              generalize part1 cap h' us = p1 at *
              generalize part2 cap h' us = p2 at *
              have hl1 : p1.length ≤ cap - h' := by have := HL1.out; omega
              have hl3 : ¬ ((cap : Int) - (h' : Int) < ((p1.length : Nat) : Int)) := by omega
              have hl2 : p2.length ≤ 4096 := by have := HL2.out; omega
              have hl4 : p1.length ≤ 140737488355328 := by omega
              have hl5 : p1.length + p2.length ≤ 140737488355328 := by omega
              go_wp2_with (at_builtin; first | (refine wp_new rfl (.tmp 94) (.tmp 95) rfl w8 _ p1 p1.length rfl rfl rfl R1.out hl4 ?_; intro a10 c10 w10 ho10 hb10) | (refine wp_appB rfl (.tmp 96) (.tmp 97) rfl w8.heap.size _ _ p1 p2 rfl ho10.out rfl (R2.out.below hb10.out) hl5 hb10.out.size ?_; intro v11 w11 ho11 hg11))
              have HB10 : Hid (Below wr.heap.size wr w10) := bel_trans HB8.out hb10.out
              have hg11' : w10.grownBy w11 (Value.slice a10 p1.length c10).ownBlock := hg11.out
              have HB11 : Hid (Below wr.heap.size wr w11) := HB10.out.grown hg11' HB10.out.size (fun k hk => by have := owns_fresh ho10.out k hk; have := HB8.out.size; omega)
              have HV11 : Hid (RdB w11 v11 us) := (by have := RdB.ofOwn ho11.out; rwa [HPA.out] at this : RdB w11 v11 us)
              clear ho10 ho11 hg11 hg11' hb10
              go_wp2_with fail
              refine (Len_any (HA5.out.below HB11.out)).mono ?_
              rintro e w12 ⟨rfl, hb⟩
              have HB12 : Hid (Below wr.heap.size wr w12) := bel_trans HB11.out hb
              have HV12 : Hid (RdB w12 v11 us) := HV11.out.below hb
              clear hb
              go_wp2_with fail
              refine (Peek_any (HA5.out.below HB12.out) 0 ((us.length : Nat) : Int) (by omega) (by omega) (by omega) (by omega) us.length (by rw [rch_zero]; omega)).mono ?_
              rintro e w13 ⟨v13, rfl, ho, hb⟩
              have HB13 : Hid (Below wr.heap.size wr w13) := bel_trans HB12.out hb
              have HV13 : Hid (RdB w13 v13 us) := (by have := RdB.ofOwn ho; rwa [show (0 : Int).toNat = 0 from rfl, List.drop_zero, List.take_length] at this : RdB w13 v13 us)
              have HV14 : Hid (RdB w13 v11 us) := HV12.out.below hb
              clear ho hb
              go_wp2_with fail
              refine (same_any HV14.out HV13.out true (by simp)).mono ?_
              rintro e w14 ⟨rfl, hb⟩
              have HB14 : Hid (Below wr.heap.size wr w14) := bel_trans HB13.out hb
              clear hb
              by_cases hp2 : 0 < p2.length
              · have hp2' : (0 : Int) < ((p2.length : Nat) : Int) := by omega
                have hp1 : ((p1.length : Nat) : Int) = (cap : Int) - (h' : Int) := by have := HL1.out; have := HL2.out; omega
                have hp3 : (((p1.length : Nat) : Int) != (cap : Int) - (h' : Int)) = false := by rw [hp1]; simp
                clear hp1
                go_wp2
                go_roundw
                case rel => exact ⟨k + 1, h', us, b2, by omega, by go_num, rfl, rfl, rfl, HA5.out.below HB14.out, bel_trans HB5.out HB14.out⟩
                case measure => simp [intOf]; omega
              · have hp2' : ¬ (0 : Int) < ((p2.length : Nat) : Int) := by omega
                go_wp2
                go_roundw
                case rel => exact ⟨k + 1, h', us, b2, by omega, by go_num, rfl, rfl, rfl, HA5.out.below HB14.out, bel_trans HB5.out HB14.out⟩
                case measure => simp [intOf]; omega
          · have q1' : ¬ ((us.length : Nat) : Int) < ((cap : Nat) : Int) := by omega
            go_wp2_with fail
            refine (Head_any HA5.out).mono ?_
            rintro e w6 ⟨rfl, hb⟩
            have HB6 : Hid (Below wr.heap.size wr w6) := hb
            clear hb
            have hq1 : (((h' : Nat) : Int) != ((h' : Nat) : Int)) = false := by simp
            have hq2 : (((us.length : Nat) : Int) != ((us.length : Nat) : Int)) = false := by simp
            go_wp2_with fail
            refine (Len_any (HA5.out.below HB6.out)).mono ?_
            rintro e w7 ⟨rfl, hb⟩
            have HB7 : Hid (Below wr.heap.size wr w7) := bel_trans HB6.out hb
            clear hb
            go_wp2_with fail
            refine (Parts_any (HA5.out.below HB7.out)).mono ?_
            rintro e w8 ⟨v8, u8, rfl, ho1, ho2, hd, hb⟩
            obtain ⟨a8, c8, rfl, hc8⟩ := owns_slice ho1
            obtain ⟨a9, c9, rfl, hc9⟩ := owns_slice ho2
            have HB8 : Hid (Below wr.heap.size wr w8) := bel_trans HB7.out hb
            have R1 : Hid (RdB w8 (.slice a8 (part1 cap h' us).length c8) (part1 cap h' us)) := RdB.ofOwn ho1
            have R2 : Hid (RdB w8 (.slice a9 (part2 cap h' us).length c9) (part2 cap h' us)) := RdB.ofOwn ho2
            clear ho1 ho2 hd hb
            have HL1 : Hid ((part1 cap h' us).length = min (cap - h') us.length) := part1_len _ _ _
            have HL2 : Hid ((part2 cap h' us).length = us.length - (cap - h')) := part2_len _ _ _
            have HPA : Hid (part1 cap h' us ++ part2 cap h' us = us) := parts_all _ _ _
            generalize part1 cap h' us = p1 at *
            generalize part2 cap h' us = p2 at *
            have hl1 : p1.length ≤ cap - h' := by have := HL1.out; omega
            have hl3 : ¬ ((cap : Int) - (h' : Int) < ((p1.length : Nat) : Int)) := by omega
            have hl2 : p2.length ≤ 4096 := by have := HL2.out; omega
            have hl4 : p1.length ≤ 140737488355328 := by omega
            have hl5 : p1.length + p2.length ≤ 140737488355328 := by omega
            go_wp2_with (at_builtin; first | (refine wp_new rfl (.tmp 94) (.tmp 95) rfl w8 _ p1 p1.length rfl rfl rfl R1.out hl4 ?_; intro a10 c10 w10 ho10 hb10) | (refine wp_appB rfl (.tmp 96) (.tmp 97) rfl w8.heap.size _ _ p1 p2 rfl ho10.out rfl (R2.out.below hb10.out) hl5 hb10.out.size ?_; intro v11 w11 ho11 hg11))
            have HB10 : Hid (Below wr.heap.size wr w10) := bel_trans HB8.out hb10.out
            have hg11' : w10.grownBy w11 (Value.slice a10 p1.length c10).ownBlock := hg11.out
            have HB11 : Hid (Below wr.heap.size wr w11) := HB10.out.grown hg11' HB10.out.size (fun k hk => by have := owns_fresh ho10.out k hk; have := HB8.out.size; omega)
            have HV11 : Hid (RdB w11 v11 us) := (by have := RdB.ofOwn ho11.out; rwa [HPA.out] at this : RdB w11 v11 us)
            clear ho10 ho11 hg11 hg11' hb10
            go_wp2_with fail
            refine (Len_any (HA5.out.below HB11.out)).mono ?_
            rintro e w12 ⟨rfl, hb⟩
            have HB12 : Hid (Below wr.heap.size wr w12) := bel_trans HB11.out hb
            have HV12 : Hid (RdB w12 v11 us) := HV11.out.below hb
            clear hb
            go_wp2_with fail
            refine (Peek_any (HA5.out.below HB12.out) 0 ((us.length : Nat) : Int) (by omega) (by omega) (by omega) (by omega) us.length (by rw [rch_zero]; omega)).mono ?_
            rintro e w13 ⟨v13, rfl, ho, hb⟩
            have HB13 : Hid (Below wr.heap.size wr w13) := bel_trans HB12.out hb
            have HV13 : Hid (RdB w13 v13 us) := (by have := RdB.ofOwn ho; rwa [show (0 : Int).toNat = 0 from rfl, List.drop_zero, List.take_length] at this : RdB w13 v13 us)
            have HV14 : Hid (RdB w13 v11 us) := HV12.out.below hb
            clear ho hb
            go_wp2_with fail
            refine (same_any HV14.out HV13.out true (by simp)).mono ?_
            rintro e w14 ⟨rfl, hb⟩
            have HB14 : Hid (Below wr.heap.size wr w14) := bel_trans HB13.out hb
            clear hb
            by_cases hp2 : 0 < p2.length
            · have hp2' : (0 : Int) < ((p2.length : Nat) : Int) := by omega
              have hp1 : ((p1.length : Nat) : Int) = (cap : Int) - (h' : Int) := by have := HL1.out; have := HL2.out; omega
              have hp3 : (((p1.length : Nat) : Int) != (cap : Int) - (h' : Int)) = false := by rw [hp1]; simp
              clear hp1
              go_wp2
              go_roundw
              case rel => exact ⟨k + 1, h', us, b2, by omega, by go_num, rfl, rfl, rfl, HA5.out.below HB14.out, bel_trans HB5.out HB14.out⟩
              case measure => simp [intOf]; omega
            · have hp2' : ¬ (0 : Int) < ((p2.length : Nat) : Int) := by omega
              go_wp2
              go_roundw
              case rel => exact ⟨k + 1, h', us, b2, by omega, by go_num, rfl, rfl, rfl, HA5.out.below HB14.out, bel_trans HB5.out HB14.out⟩
              case measure => simp [intOf]; omega
      · have hle' : ¬ ((n : Nat) : Int) ≤ ((xs.length : Nat) : Int) := by omega
        obtain ⟨h', hh'⟩ : ∃ h', h' = pl cap h xs.length := ⟨_, rfl⟩
        have hp : h' < cap := by rw [hh']; exact pl_lt cap h xs.length hh (by omega)
        have HPM : Hid (((h : Int) + ((xs.length : Nat) : Int)) % (cap : Int) = (h' : Int)) := (by rw [hh', pl_mod cap h xs.length hh (by omega)]; simp : ((h : Int) + ((xs.length : Nat) : Int)) % (cap : Int) = (h' : Int))
        have HH' : Hid (pl cap h xs.length = h') := hh'.symm
        clear hh'
        go_wp2_with fail
        refine (Drop_any (HA.out.below HB3.out) (n : Int) (by omega) (by omega) xs.length (by rw [rch_zero]; omega)).mono ?_
        rintro e w4 ⟨rfl, hA', hb⟩
        rw [HH'.out] at hA'
        have HA4 : Hid (IsRing w4 pa sa cap h' (xs.drop xs.length)) := hA'
        have HB4 : Hid (Below w.heap.size w w4) := HB.out.trans ((HB3.out.mono HB.out.size).trans (hb.below (by have := HB.out.size; have := HB3.out.size; omega) (by simp; omega)))
        clear hA' hb
        have hmm : (((xs.length : Nat) : Int) != ((xs.length : Nat) : Int)) = false := by simp
        have hcz : (((cap : Nat) : Int) == 0) = false := by simp; omega
        have HA4 : Hid (IsRing w4 pa sa cap h' []) := (by rw [List.drop_length] at HA4; exact HA4 : IsRing w4 pa sa cap h' [])
        go_wp2
        rw [HPM.out]
        go_loopw [8, 9, 12] (fun dv mv nv wr => ∃ (j : Nat) (us : List UInt8) (b : UInt8), j ≤ n ∧ us.length ≤ cap ∧ dv = .int .i64 (us.length : Int) ∧ mv = .int .u8 (b.toNat : Int) ∧ nv = .int .i64 (j : Int) ∧ Hid (IsRing wr pa sa cap h' us) ∧ Hid (Below w.heap.size w wr)) (fun _ _ nv _ => (intOf nv).toNat)
        case atStart => exact ⟨n, [], b, Nat.le_refl _, by simp, rfl, rfl, rfl, HA4, HB4⟩
        case round =>
          obtain ⟨j, us, b2, hj, hul, rfl, rfl, rfl, HA5, HB5⟩ := hrel
          by_cases q1 : us.length < cap
          · have q1' : ((us.length : Nat) : Int) < ((cap : Nat) : Int) := by omega
            by_cases q2 : 0 < j
            · have q2' : (0 : Int) < ((j : Nat) : Int) := by omega
              have hb2 : b2.toNat < 256 := b2.toNat_lt
              go_wp2_with fail
              have hA5 : Below wr.heap.size wr (wr.alloc (.cells #[.int .u8 (b2.toNat : Int)] 5)) := (Below.refl _ wr).alloc (Nat.le_refl _) _
              have fl1 : pa < wr.heap.size := HA5.out.lt1
              refine (Put_any (HA5.out.below hA5) _ [b2] (RdB.built wr [b2] _ (by simp [bv])) (fun g hg => by injection hg with hg; simp at hg; omega) (by simp) 1 (by simp; omega)).mono ?_
              rintro e w6 ⟨rfl, hA', hb⟩
              have HA6 : Hid (IsRing w6 pa sa cap h' (us ++ [b2])) := hA'
              have HB6 : Hid (Below w.heap.size w w6) := HB5.out.trans ((hA5.mono HB5.out.size).trans (hb.below (by have := HB5.out.size; simp; omega) (by simp; omega)))
              clear hA' hb hA5
              have HUL : Hid ((us ++ [b2]).length = us.length + 1) := (by simp : (us ++ [b2]).length = us.length + 1)
              go_wp2
              go_roundw
              case rel =>
                refine ⟨j - 1, us ++ [b2], b2 + 1, by omega, by rw [HUL.out]; omega, ?_, ?_, ?_, HA6, HB6⟩
                · rw [HUL.out]; go_num
                · first | (congr 1; rw [UInt8.toNat_add]; simp; done) | (congr 1; rw [UInt8.toNat_add]; done) | (congr 1; done)
                · go_num
              case measure => simp [intOf]; omega
            · have q2' : ¬ (0 : Int) < ((j : Nat) : Int) := by omega
              go_wp2_with fail
              refine (Head_any HA5.out).mono ?_
              rintro e w6 ⟨rfl, hb⟩
              have HB6 : Hid (Below wr.heap.size wr w6) := hb
              clear hb
              have hq1 : (((h' : Nat) : Int) != ((h' : Nat) : Int)) = false := by simp
              have hq2 : (((us.length : Nat) : Int) != ((us.length : Nat) : Int)) = false := by simp
              go_wp2_with fail
              refine (Len_any (HA5.out.below HB6.out)).mono ?_
              rintro e w7 ⟨rfl, hb⟩
              have HB7 : Hid (Below wr.heap.size wr w7) := bel_trans HB6.out hb
              clear hb
              go_wp2_with fail
              refine (Parts_any (HA5.out.below HB7.out)).mono ?_
              rintro e w8 ⟨v8, u8, rfl, ho1, ho2, hd, hb⟩
              obtain ⟨a8, c8, rfl, hc8⟩ := owns_slice ho1
              obtain ⟨a9, c9, rfl, hc9⟩ := owns_slice ho2
              have HB8 : Hid (Below wr.heap.size wr w8) := bel_trans HB7.out hb
              have R1 : Hid (RdB w8 (.slice a8 (part1 cap h' us).length c8) (part1 cap h' us)) := RdB.ofOwn ho1
              have R2 : Hid (RdB w8 (.slice a9 (part2 cap h' us).length c9) (part2 cap h' us)) := RdB.ofOwn ho2
              clear ho1 ho2 hd hb
              have HL1 : Hid ((part1 cap h' us).length = min (cap - h') us.length) := part1_len _ _ _
              have HL2 : Hid ((part2 cap h' us).length = us.length - (cap - h')) := part2_len _ _ _
              have HPA : Hid (part1 cap h' us ++ part2 cap h' us = us) := parts_all _ _ _
              generalize part1 cap h' us = p1 at *
              generalize part2 cap h' us = p2 at *
              have hl1 : p1.length ≤ cap - h' := by have := HL1.out; omega
              have hl3 : ¬ ((cap : Int) - (h' : Int) < ((p1.length : Nat) : Int)) := by omega
              have hl2 : p2.length ≤ 4096 := by have := HL2.out; omega
              have hl4 : p1.length ≤ 140737488355328 := by omega
              have hl5 : p1.length + p2.length ≤ 140737488355328 := by omega
              go_wp2_with (at_builtin; first | (refine wp_new rfl (.tmp 94) (.tmp 95) rfl w8 _ p1 p1.length rfl rfl rfl R1.out hl4 ?_; intro a10 c10 w10 ho10 hb10) | (refine wp_appB rfl (.tmp 96) (.tmp 97) rfl w8.heap.size _ _ p1 p2 rfl ho10.out rfl (R2.out.below hb10.out) hl5 hb10.out.size ?_; intro v11 w11 ho11 hg11))
              have HB10 : Hid (Below wr.heap.size wr w10) := bel_trans HB8.out hb10.out
              have hg11' : w10.grownBy w11 (Value.slice a10 p1.length c10).ownBlock := hg11.out
              have HB11 : Hid (Below wr.heap.size wr w11) := HB10.out.grown hg11' HB10.out.size (fun k hk => by have := owns_fresh ho10.out k hk; have := HB8.out.size; omega)
              have HV11 : Hid (RdB w11 v11 us) := (by have := RdB.ofOwn ho11.out; rwa [HPA.out] at this : RdB w11 v11 us)
              clear ho10 ho11 hg11 hg11' hb10
              go_wp2_with fail
              refine (Len_any (HA5.out.below HB11.out)).mono ?_
              rintro e w12 ⟨rfl, hb⟩
              have HB12 : Hid (Below wr.heap.size wr w12) := bel_trans HB11.out hb
              have HV12 : Hid (RdB w12 v11 us) := HV11.out.below hb
              clear hb
              go_wp2_with fail
              refine (Peek_any (HA5.out.below HB12.out) 0 ((us.length : Nat) : Int) (by omega) (by omega) (by omega) (by omega) us.length (by rw [rch_zero]; omega)).mono ?_
              rintro e w13 ⟨v13, rfl, ho, hb⟩
              have HB13 : Hid (Below wr.heap.size wr w13) := bel_trans HB12.out hb
              have HV13 : Hid (RdB w13 v13 us) := (by have := RdB.ofOwn ho; rwa [show (0 : Int).toNat = 0 from rfl, List.drop_zero, List.take_length] at this : RdB w13 v13 us)
              have HV14 : Hid (RdB w13 v11 us) := HV12.out.below hb
              clear ho hb
              go_wp2_with fail
              refine (same_any HV14.out HV13.out true (by simp)).mono ?_
              rintro e w14 ⟨rfl, hb⟩
              have HB14 : Hid (Below wr.heap.size wr w14) := bel_trans HB13.out hb
              clear hb
              by_cases hp2 : 0 < p2.length
              · have hp2' : (0 : Int) < ((p2.length : Nat) : Int) := by omega
                have hp1 : ((p1.length : Nat) : Int) = (cap : Int) - (h' : Int) := by have := HL1.out; have := HL2.out; omega
                have hp3 : (((p1.length : Nat) : Int) != (cap : Int) - (h' : Int)) = false := by rw [hp1]; simp
                clear hp1
                go_wp2
                go_roundw
                case rel => exact ⟨k + 1, h', us, b2, by omega, by go_num, rfl, rfl, rfl, HA5.out.below HB14.out, bel_trans HB5.out HB14.out⟩
                case measure => simp [intOf]; omega
              · have hp2' : ¬ (0 : Int) < ((p2.length : Nat) : Int) := by omega
                go_wp2
                go_roundw
                case rel => exact ⟨k + 1, h', us, b2, by omega, by go_num, rfl, rfl, rfl, HA5.out.below HB14.out, bel_trans HB5.out HB14.out⟩
                case measure => simp [intOf]; omega
          · have q1' : ¬ ((us.length : Nat) : Int) < ((cap : Nat) : Int) := by omega
            go_wp2_with fail
            refine (Head_any HA5.out).mono ?_
            rintro e w6 ⟨rfl, hb⟩
            have HB6 : Hid (Below wr.heap.size wr w6) := hb
            clear hb
            have hq1 : (((h' : Nat) : Int) != ((h' : Nat) : Int)) = false := by simp
            have hq2 : (((us.length : Nat) : Int) != ((us.length : Nat) : Int)) = false := by simp
            go_wp2_with fail
            refine (Len_any (HA5.out.below HB6.out)).mono ?_
            rintro e w7 ⟨rfl, hb⟩
            have HB7 : Hid (Below wr.heap.size wr w7) := bel_trans HB6.out hb
            clear hb
            go_wp2_with fail
            refine (Parts_any (HA5.out.below HB7.out)).mono ?_
            rintro e w8 ⟨v8, u8, rfl, ho1, ho2, hd, hb⟩
            obtain ⟨a8, c8, rfl, hc8⟩ := owns_slice ho1
            obtain ⟨a9, c9, rfl, hc9⟩ := owns_slice ho2
            have HB8 : Hid (Below wr.heap.size wr w8) := bel_trans HB7.out hb
            have R1 : Hid (RdB w8 (.slice a8 (part1 cap h' us).length c8) (part1 cap h' us)) := RdB.ofOwn ho1
            have R2 : Hid (RdB w8 (.slice a9 (part2 cap h' us).length c9) (part2 cap h' us)) := RdB.ofOwn ho2
            clear ho1 ho2 hd hb
            have HL1 : Hid ((part1 cap h' us).length = min (cap - h') us.length) := part1_len _ _ _
            have HL2 : Hid ((part2 cap h' us).length = us.length - (cap - h')) := part2_len _ _ _
            have HPA : Hid (part1 cap h' us ++ part2 cap h' us = us) := parts_all _ _ _
            generalize part1 cap h' us = p1 at *
            generalize part2 cap h' us = p2 at *
            have hl1 : p1.length ≤ cap - h' := by have := HL1.out; omega
            have hl3 : ¬ ((cap : Int) - (h' : Int) < ((p1.length : Nat) : Int)) := by omega
            have hl2 : p2.length ≤ 4096 := by have := HL2.out; omega
            have hl4 : p1.length ≤ 140737488355328 := by omega
            have hl5 : p1.length + p2.length ≤ 140737488355328 := by omega
            go_wp2_with (at_builtin; first | (refine wp_new rfl (.tmp 94) (.tmp 95) rfl w8 _ p1 p1.length rfl rfl rfl R1.out hl4 ?_; intro a10 c10 w10 ho10 hb10) | (refine wp_appB rfl (.tmp 96) (.tmp 97) rfl w8.heap.size _ _ p1 p2 rfl ho10.out rfl (R2.out.below hb10.out) hl5 hb10.out.size ?_; intro v11 w11 ho11 hg11))
            have HB10 : Hid (Below wr.heap.size wr w10) := bel_trans HB8.out hb10.out
            have hg11' : w10.grownBy w11 (Value.slice a10 p1.length c10).ownBlock := hg11.out
            have HB11 : Hid (Below wr.heap.size wr w11) := HB10.out.grown hg11' HB10.out.size (fun k hk => by have := owns_fresh ho10.out k hk; have := HB8.out.size; omega)
            have HV11 : Hid (RdB w11 v11 us) := (by have := RdB.ofOwn ho11.out; rwa [HPA.out] at this : RdB w11 v11 us)
            clear ho10 ho11 hg11 hg11' hb10
            go_wp2_with fail
            refine (Len_any (HA5.out.below HB11.out)).mono ?_
            rintro e w12 ⟨rfl, hb⟩
            have HB12 : Hid (Below wr.heap.size wr w12) := bel_trans HB11.out hb
            have HV12 : Hid (RdB w12 v11 us) := HV11.out.below hb
            clear hb
            go_wp2_with fail
            refine (Peek_any (HA5.out.below HB12.out) 0 ((us.length : Nat) : Int) (by omega) (by omega) (by omega) (by omega) us.length (by rw [rch_zero]; omega)).mono ?_
            rintro e w13 ⟨v13, rfl, ho, hb⟩
            have HB13 : Hid (Below wr.heap.size wr w13) := bel_trans HB12.out hb
            have HV13 : Hid (RdB w13 v13 us) := (by have := RdB.ofOwn ho; rwa [show (0 : Int).toNat = 0 from rfl, List.drop_zero, List.take_length] at this : RdB w13 v13 us)
            have HV14 : Hid (RdB w13 v11 us) := HV12.out.below hb
            clear ho hb
            go_wp2_with fail
            refine (same_any HV14.out HV13.out true (by simp)).mono ?_
            rintro e w14 ⟨rfl, hb⟩
            have HB14 : Hid (Below wr.heap.size wr w14) := bel_trans HB13.out hb
            clear hb
            by_cases hp2 : 0 < p2.length
            · have hp2' : (0 : Int) < ((p2.length : Nat) : Int) := by omega
              have hp1 : ((p1.length : Nat) : Int) = (cap : Int) - (h' : Int) := by have := HL1.out; have := HL2.out; omega
              have hp3 : (((p1.length : Nat) : Int) != (cap : Int) - (h' : Int)) = false := by rw [hp1]; simp
              clear hp1
              go_wp2
              go_roundw
              case rel => exact ⟨k + 1, h', us, b2, by omega, by go_num, rfl, rfl, rfl, HA5.out.below HB14.out, bel_trans HB5.out HB14.out⟩
              case measure => simp [intOf]; omega
            · have hp2' : ¬ (0 : Int) < ((p2.length : Nat) : Int) := by omega
              go_wp2
              go_roundw
              case rel => exact ⟨k + 1, h', us, b2, by omega, by go_num, rfl, rfl, rfl, HA5.out.below HB14.out, bel_trans HB5.out HB14.out⟩
              case measure => simp [intOf]; omega
    · have hlt' : ¬ ((k : Nat) : Int) < ((zs.length : Nat) : Int) := by omega
      go_wp2_with fail
      refine (Len_any HA.out).mono ?_
      rintro e w3 ⟨rfl, hb⟩
      have HB3 : Hid (Below wr.heap.size wr w3) := hb
      clear hb
      go_wp2_with fail
      refine (Free_any (HA.out.below HB3.out)).mono ?_
      rintro e w4 ⟨rfl, hb⟩
      have HB4 : Hid (Below wr.heap.size wr w4) := bel_trans HB3.out hb
      clear hb
      obtain ⟨fr, hfr⟩ : ∃ fr, fr = cap - xs.length := ⟨_, rfl⟩
      rw [← hfr]
      have hs : ((xs.length : Nat) : Int) + ((fr : Nat) : Int) = ((cap : Nat) : Int) := by omega
      have hs' : (((xs.length : Nat) : Int) + ((fr : Nat) : Int) == ((cap : Nat) : Int)) = true := by rw [hs]; simp
      have hfr' : fr ≤ 4096 := by omega
      clear hs hfr
      go_wp2
      go_ret
      exact ⟨by simp, bel_trans HB.out HB4.out⟩

end Rg
end Go.Proofs.Ytonbjdiehbemjab
