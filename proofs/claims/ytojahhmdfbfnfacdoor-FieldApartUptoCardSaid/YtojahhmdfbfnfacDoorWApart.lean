/-
  FieldApart.
-/
import Derived.Test.YtojahhmdfbfnfacDoorFAp
set_option linter.unusedVariables false
set_option linter.unusedSimpArgs false
namespace Go.Proofs.YtojahhmdfbfnfacDoor
open Go.RowKit Go.Shelf
namespace Fd
open Oc Tg

set_option maxRecDepth 100000 in
set_option maxHeartbeats 8000000 in
theorem walk_FieldApart (v : Value) (t : List Fl) (hs : bulkfields t ≤ 1048576) (v2 : Value) (o : List Fl) (hs2 : bulkfields o ≤ 1048576) (nm : ByteArray) (hn : nm.size ≤ 1048576) (hsum : sumF t + sumF o ≤ 1048576) (w : World) (hin : InF v t w) (hin2 : InF v2 o w) (hw : Env w) :
    Calls Tryd.prog 3 #[v, v2, .string nm] w fun e w' => e = .returned (.bool true) ∧ Below w.heap.size w w' := by
  obtain ⟨s, rfl⟩ : ∃ s, nm = str s := ⟨nm.data.toList, (str_self nm).symm⟩
  rw [str_size] at hn
  unfold bulkfields at hs hs2
  have hlen := len_sumF t
  have hlen2 := len_sumF o
  have HA : Hid (Calls _ _ _ _ _) := awake_any w hw
  have HE : Hid (Env w) := hw
  have HR : Hid (RdF v t w) := hin.1
  have HR2 : Hid (RdF v2 o w) := hin2.1
  have HM : Hid (Each 1048576 t) := (each_sumF t).mono hs
  have HM2 : Hid (Each 1048576 o) := (each_sumF o).mono hs2
  have HAk : Hid (∀ (p : Fl) w, p.1.length ≤ 1048576 → Calls Tryd.prog 6 #[.string (str p.1), .string (str s)] w fun e w' => e = .returned (.bool (alike s p)) ∧ Below w.heap.size w w') := fun p w h => by
    have h := rAlike_any (str p.1) (str s) (by rw [str_size]; unfold maxLen; omega) (by rw [str_size]; unfold maxLen; omega) w
    rw [low_alike] at h
    exact h
  have hmx := mix_sum s t o t.length (Nat.le_refl _)
  rw [List.take_length] at hmx
  have hot := sumF_take o t.length
  have hmS : sumF (mixN s t o t.length) ≤ 1048576 := by omega
  have hml := len_sumF (mixN s t o t.length)
  have hmv : vals s (mixN s t o t.length) = vals s t := by rw [mix_vals s t o t.length (Nat.le_refl _), List.take_length]
  have hsp := split_len s (mixN s t o t.length)
  rw [hmv] at hsp
  have HAl : Hid (∀ u T w, RdF u T w → sumF T ≤ 1048576 → Calls Tryd.prog 8 #[u, .string (str s)] w fun e w' => ∃ x, e = .returned x ∧ OwnS w.heap.size x (vals s T) w' ∧ Below w.heap.size w w') := fun u T w h hT => All_any u T s hn ((each_sumF T).mono hT) (by have := len_sumF T; omega) w h
  have HTk : Hid (∀ u T w, RdF u T w → sumF T ≤ 1048576 → Tab w → Calls Tryd.prog 9 #[u, .string (str s)] w fun e w' => ∃ x, e = .returned (.tuple #[x, .int .i64 (tokensF s T).2]) ∧ OwnS w.heap.size x (tokensF s T).1 w' ∧ Below w.heap.size w w') := fun u T w h hT tb => Tokens6_any u T s hn hT w h tb
  have HRm : Hid (∀ u T w, RdF u T w → sumF T ≤ 1048576 → Calls Tryd.prog 10 #[u, .string (str s)] w fun e w' => ∃ x, e = .returned x ∧ OwnF 25 w.heap.size x (T.filter (unlike s)) w' ∧ Below w.heap.size w w') := fun u T w h hT => Remove_any u T s hn ((each_sumF T).mono hT) (by have := len_sumF T; omega) w h
  have htk : tokensF s (mixN s t o t.length) = tokensF s t := by unfold tokensF listF; rw [hmv]
  have hvl : (vals s t).length ≤ 1048576 := by have := sumV_filter s t; omega
  have htl : (tokensF s t).1.length ≤ 4294967296 := by
    have hv := sumV_filter s t
    have hll := listV_len (vals s t) []
    unfold tokensF tokV
    split
    · split
      · rw [List.length_map]
        unfold listF
        simp at hll
        omega
      · simp
    · simp
  obtain ⟨⟨a, c, rfl, _⟩, _⟩ := hin
  obtain ⟨⟨a2, c2, rfl, _⟩, _⟩ := hin2
  clear hw hn hmx hot
  have HMV : Hid (_ = _) := hmv
  have HTKQ : Hid (_ = _) := htk
  have HSP : Hid (_ = _) := hsp
  have HMS : Hid (_ ≤ _) := hmS
  have HML : Hid (_ ≤ _) := hml
  have HVL : Hid (_ ≤ _) := hvl
  have HTL : Hid (_ ≤ _) := htl
  clear hmv htk hsp hmS hml hvl htl
  generalize hS : str s = S at *
  clear hS
  go_enter Tryd.func3, Tryd.ntmps3
  go_wp2_with fail
  refine HA.out.mono ?_
  rintro e w1 ⟨rfl, hb⟩
  have HB1 : Hid (Below w.heap.size w w1) := hb
  clear hb
  go_wp2
  go_loopw [7, 8, 19] (fun mv ov i wr => ∃ k : Nat, k ≤ t.length ∧ i = .int .i64 k ∧ Hid (OwnF 25 w.heap.size mv (mixN s t o k) wr) ∧ Hid (OwnF 25 w.heap.size ov (t.take k) wr) ∧ Hid (Sep mv ov) ∧ Hid ((mixN s t o k).length ≤ 2 * k) ∧ Hid (Below w.heap.size w wr)) (fun _ _ i _ => t.length - (intOf i).toNat)
  case atStart => exact ⟨0, Nat.zero_le _, rfl, ownF_nil _ _ _, ownF_nil _ _ _, sep_nil _, (Nat.le_refl 0 : _ ≤ _), HB1⟩
  case round =>
    obtain ⟨k, hk, rfl, hom, hoo, hsep, hmk, hbl⟩ := hrel
    by_cases hlt : k < t.length
    · clear HAl HTk HRm HMV HTKQ HSP HMS HML HVL HTL HA
      obtain ⟨a', c', e', hcs⟩ := HR.out.below hbl.out
      injection e' with e1 _ e2
      subst e1 e2
      rcases hcs with h | ⟨g, of, rfl, hlc, hcell⟩
      · rw [h] at hlt; simp at hlt
      obtain ⟨p0, p1⟩ := hcell k hlt
      have HTk1 : Hid (t.take (k + 1) = t.take k ++ [nth t k]) := take_nth t k hlt
      have HMx1 : Hid (mixN s t o (k + 1) = mixN s t o k ++ [nth t k] ++ (if k < o.length ∧ alike s (nth o k) = false then [nth o k] else [])) := rfl
      have hlk : (t.take k).length + 1 ≤ 2147483648 := by rw [List.length_take]; omega
      have hmk' := hmk.out
      clear hcell hmk
      generalize nth t k = p at *
      obtain ⟨pn, pv⟩ := p
      dsimp only at p0 p1
      generalize hN : str pn = N at *
      generalize hV : str pv = V at *
      have HN : Hid (N = str pn) := hN.symm
      have HV : Hid (V = str pv) := hV.symm
      clear hN hV
      have hb1 : Below wr.heap.size wr (wr.alloc (.cells #[.string N, .string V] 25)) := (Below.refl _ wr).alloc (Nat.le_refl _) _
      have HB2 : Hid (Below w.heap.size w (wr.alloc (.cells #[.string N, .string V] 25))) := bel_trans hbl.out hb1
      have HOo1 : Hid (OwnF 25 w.heap.size _ (t.take k) (wr.alloc (.cells #[.string N, .string V] 25))) := hoo.out.below hb1
      have HOm1 : Hid (OwnF 25 w.heap.size _ (mixN s t o k) (wr.alloc (.cells #[.string N, .string V] 25))) := hom.out.below hb1
      have hs1 : w.heap.size ≤ (wr.alloc (.cells #[.string N, .string V] 25)).heap.size := HB2.out.size
      have HNB : Hid (Value.ownBlock _ ≠ some wr.heap.size) := fun e => Nat.lt_irrefl _ (hoo.out.blk _ e)
      clear hb1 hom hbl
      by_cases hko : k < o.length
      · have hEk := HM2.out.at k hko
        obtain ⟨a3, c3, e3, hcs3⟩ := HR2.out
        injection e3 with e4 _ e5
        subst e4 e5
        rcases hcs3 with h | ⟨g2, o2, rfl, hlc2, hcell2⟩
        · rw [h] at hko; simp at hko
        have q0 := (hcell2 k hko).1
        have q1 := (hcell2 k hko).2
        have hg2 : g2 < w.heap.size := World.block_lt_of_cell? w _ q0
        have HAk2 : Hid (∀ w, Calls Tryd.prog 6 #[.string (str (nth o k).1), .string S] w fun e w' => e = .returned (.bool (alike s (nth o k))) ∧ Below w.heap.size w w') := fun w => HAk.out _ w hEk.1
        have TT : alike s (nth o k) = true → Hid (mixN s t o (k + 1) = mixN s t o k ++ [(pn, pv)]) := fun h => by
          show _ = _
          rw [HMx1.out, if_neg (fun hh => by rw [h] at hh; cases hh.2), List.append_nil]
        have FF : alike s (nth o k) = false → Hid (mixN s t o (k + 1) = mixN s t o k ++ [(pn, pv)] ++ [nth o k]) := fun h => by
          show _ = _
          rw [HMx1.out, if_pos ⟨hko, h⟩]
        clear hcell2 hEk HAk hoo
        generalize alike s (nth o k) = b at HAk2 TT FF
        generalize nth o k = q at *
        obtain ⟨qn, qv⟩ := q
        dsimp only at q0 q1 HAk2 FF
        generalize hQN : str qn = QN at *
        generalize hQV : str qv = QV at *
        have HQN : Hid (QN = str qn) := hQN.symm
        have HQV : Hid (QV = str qv) := hQV.symm
        clear hQN hQV
        cases b with
        | true =>
          have tt := TT rfl
          clear TT FF
          go_wp2_with (first | (at_builtin; refine wp_appF2 25 22 infoF Tryd.underlying22 rfl (.tmp 24) (.tmp 26) rfl w.heap.size _ (t.take k) _ (pn, pv) _ _ HN.out HV.out rfl HOo1.out _ rfl (by simp) hlk hs1 ?_; intro v6 w6 o6 b6 k6 q6; have HOo6 : Hid (OwnF 25 w.heap.size v6 (t.take (k + 1)) w6) := (by rw [HTk1.out]; exact o6 : OwnF _ _ v6 _ w6); have HOS6 : Hid (OwnF 25 w.heap.size _ (mixN s t o k) w6 ∧ Sep _ v6) := k6 _ _ _ HOm1.out hsep.out; have HOm6 : Hid (OwnF 25 w.heap.size _ (mixN s t o k) w6) := HOS6.out.1; have HB6 : Hid (Below w.heap.size w w6) := HB2.out.trans b6; have hs6 : w.heap.size ≤ w6.heap.size := HB6.out.size; have hk6 : w6.heap[wr.heap.size]? = some (.cells #[.string N, .string V] 25 (0, 0)) := (q6 wr.heap.size (by simp) HNB.out).trans (heap_alloc_new wr _); have d0 := Lib.cell_of_heap hk6 0; have d1 := Lib.cell_of_heap hk6 1; simp at d0 d1; clear o6 b6 k6 q6 hk6) | (at_builtin; go_must (refine wp_appF2 25 22 infoF Tryd.underlying22 rfl (.tmp 28) (.tmp 30) rfl w.heap.size _ (mixN s t o k) _ (pn, pv) _ _ HN.out HV.out rfl HOm6.out _ rfl (by simp) (by omega) hs6 ?_); intro v7 w7 o7 b7 k7 q7; have HOS7 : Hid (OwnF 25 w.heap.size v6 (t.take (k + 1)) w7 ∧ Sep v6 v7) := k7 _ _ _ HOo6.out HOS6.out.2.symm; have HOm7 : Hid (OwnF 25 w.heap.size v7 (mixN s t o k ++ [(pn, pv)]) w7) := o7; have HB7 : Hid (Below w.heap.size w w7) := HB6.out.trans b7; have r0 : w7.cell? ⟨g2, o2 + k * 2, none⟩ = some (.string QN) := (by rw [HB7.out.cell (p := ⟨g2, o2 + k * 2, none⟩) hg2]; exact q0); clear o7 b7 k7 q7))
          refine (HAk2.out _).mono ?_
          rintro e w8 ⟨rfl, hb8⟩
          have HOm8 : Hid (OwnF 25 w.heap.size v7 (mixN s t o (k + 1)) w8) := (by rw [tt.out]; exact HOm7.out.below hb8 : OwnF _ _ v7 _ w8)
          have HOo8 : Hid (OwnF 25 w.heap.size v6 (t.take (k + 1)) w8) := HOS7.out.1.below hb8
          have HSp8 : Hid (Sep v7 v6) := HOS7.out.2.symm
          have HB8 : Hid (Below w.heap.size w w8) := bel_trans HB7.out hb8
          have HL8 : Hid ((mixN s t o (k + 1)).length ≤ 2 * (k + 1)) := by show _ ≤ _; rw [tt.out, List.length_append, List.length_singleton]; omega
          clear hb8
          go_wp2
          go_roundw
          case rel => exact ⟨k + 1, by omega, by go_num, HOm8, HOo8, HSp8, HL8, HB8⟩
          case measure => simp [intOf]; omega
        | false =>
          have ff := FF rfl
          clear TT FF
          go_wp2_with (first | (at_builtin; refine wp_appF2 25 22 infoF Tryd.underlying22 rfl (.tmp 24) (.tmp 26) rfl w.heap.size _ (t.take k) _ (pn, pv) _ _ HN.out HV.out rfl HOo1.out _ rfl (by simp) hlk hs1 ?_; intro v6 w6 o6 b6 k6 q6; have HOo6 : Hid (OwnF 25 w.heap.size v6 (t.take (k + 1)) w6) := (by rw [HTk1.out]; exact o6 : OwnF _ _ v6 _ w6); have HOS6 : Hid (OwnF 25 w.heap.size _ (mixN s t o k) w6 ∧ Sep _ v6) := k6 _ _ _ HOm1.out hsep.out; have HOm6 : Hid (OwnF 25 w.heap.size _ (mixN s t o k) w6) := HOS6.out.1; have HB6 : Hid (Below w.heap.size w w6) := HB2.out.trans b6; have hs6 : w.heap.size ≤ w6.heap.size := HB6.out.size; have hk6 : w6.heap[wr.heap.size]? = some (.cells #[.string N, .string V] 25 (0, 0)) := (q6 wr.heap.size (by simp) HNB.out).trans (heap_alloc_new wr _); have d0 := Lib.cell_of_heap hk6 0; have d1 := Lib.cell_of_heap hk6 1; simp at d0 d1; clear o6 b6 k6 q6 hk6) | (at_builtin; go_must (refine wp_appF2 25 22 infoF Tryd.underlying22 rfl (.tmp 28) (.tmp 30) rfl w.heap.size _ (mixN s t o k) _ (pn, pv) _ _ HN.out HV.out rfl HOm6.out _ rfl (by simp) (by omega) hs6 ?_); intro v7 w7 o7 b7 k7 q7; have HOS7 : Hid (OwnF 25 w.heap.size v6 (t.take (k + 1)) w7 ∧ Sep v6 v7) := k7 _ _ _ HOo6.out HOS6.out.2.symm; have HOm7 : Hid (OwnF 25 w.heap.size v7 (mixN s t o k ++ [(pn, pv)]) w7) := o7; have HB7 : Hid (Below w.heap.size w w7) := HB6.out.trans b7; have r0 : w7.cell? ⟨g2, o2 + k * 2, none⟩ = some (.string QN) := (by rw [HB7.out.cell (p := ⟨g2, o2 + k * 2, none⟩) hg2]; exact q0); clear o7 b7 k7 q7))
          refine (HAk2.out _).mono ?_
          rintro e w8 ⟨rfl, hb8⟩
          have HOm8 : Hid (OwnF 25 w.heap.size v7 (mixN s t o k ++ [(pn, pv)]) w8) := HOm7.out.below hb8
          have HOo8 : Hid (OwnF 25 w.heap.size v6 (t.take (k + 1)) w8) := HOS7.out.1.below hb8
          have HB8 : Hid (Below w.heap.size w w8) := bel_trans HB7.out hb8
          have hs8 : w.heap.size ≤ w8.heap.size := HB8.out.size
          have r0 : w8.cell? ⟨g2, o2 + k * 2, none⟩ = some (.string QN) := by rw [HB8.out.cell (p := ⟨g2, o2 + k * 2, none⟩) hg2]; exact q0
          have r1 : w8.cell? ⟨g2, o2 + k * 2 + 1, none⟩ = some (.string QV) := by rw [HB8.out.cell (p := ⟨g2, o2 + k * 2 + 1, none⟩) hg2]; exact q1
          clear hb8
          go_wp2_with (at_builtin; go_must (refine wp_appF2 25 22 infoF Tryd.underlying22 rfl (.tmp 46) (.tmp 51) rfl w.heap.size _ (mixN s t o k ++ [(pn, pv)]) _ (qn, qv) _ _ HQN.out HQV.out rfl HOm8.out _ rfl (by simp) (by rw [List.length_append, List.length_singleton]; omega) hs8 ?_); intro v9 w9 o9 b9 k9 q9)
          have HOS9 : Hid (OwnF 25 w.heap.size v6 (t.take (k + 1)) w9 ∧ Sep v6 v9) := k9 _ _ _ HOo8.out HOS7.out.2
          have HOm9 : Hid (OwnF 25 w.heap.size v9 (mixN s t o (k + 1)) w9) := (by rw [ff.out]; exact o9 : OwnF _ _ v9 _ w9)
          have HOo9 : Hid (OwnF 25 w.heap.size v6 (t.take (k + 1)) w9) := HOS9.out.1
          have HSp9 : Hid (Sep v9 v6) := HOS9.out.2.symm
          have HB9 : Hid (Below w.heap.size w w9) := HB8.out.trans b9
          have HL9 : Hid ((mixN s t o (k + 1)).length ≤ 2 * (k + 1)) := by show _ ≤ _; rw [ff.out, List.length_append, List.length_append, List.length_singleton, List.length_singleton]; omega
          clear o9 b9 k9 q9
          go_roundw
          case rel => exact ⟨k + 1, by omega, by go_num, HOm9, HOo9, HSp9, HL9, HB9⟩
          case measure => simp [intOf]; omega
      · have tt : Hid (mixN s t o (k + 1) = mixN s t o k ++ [(pn, pv)]) := by
          show _ = _
          rw [HMx1.out, if_neg (fun hh => hko hh.1), List.append_nil]
        clear HAk hoo
        go_wp2_with (first | (at_builtin; refine wp_appF2 25 22 infoF Tryd.underlying22 rfl (.tmp 24) (.tmp 26) rfl w.heap.size _ (t.take k) _ (pn, pv) _ _ HN.out HV.out rfl HOo1.out _ rfl (by simp) hlk hs1 ?_; intro v6 w6 o6 b6 k6 q6; have HOo6 : Hid (OwnF 25 w.heap.size v6 (t.take (k + 1)) w6) := (by rw [HTk1.out]; exact o6 : OwnF _ _ v6 _ w6); have HOS6 : Hid (OwnF 25 w.heap.size _ (mixN s t o k) w6 ∧ Sep _ v6) := k6 _ _ _ HOm1.out hsep.out; have HOm6 : Hid (OwnF 25 w.heap.size _ (mixN s t o k) w6) := HOS6.out.1; have HB6 : Hid (Below w.heap.size w w6) := HB2.out.trans b6; have hs6 : w.heap.size ≤ w6.heap.size := HB6.out.size; have hk6 : w6.heap[wr.heap.size]? = some (.cells #[.string N, .string V] 25 (0, 0)) := (q6 wr.heap.size (by simp) HNB.out).trans (heap_alloc_new wr _); have d0 := Lib.cell_of_heap hk6 0; have d1 := Lib.cell_of_heap hk6 1; simp at d0 d1; clear o6 b6 k6 q6 hk6) | (at_builtin; go_must (refine wp_appF2 25 22 infoF Tryd.underlying22 rfl (.tmp 28) (.tmp 30) rfl w.heap.size _ (mixN s t o k) _ (pn, pv) _ _ HN.out HV.out rfl HOm6.out _ rfl (by simp) (by omega) hs6 ?_); intro v7 w7 o7 b7 k7 q7; have HOS7 : Hid (OwnF 25 w.heap.size v6 (t.take (k + 1)) w7 ∧ Sep v6 v7) := k7 _ _ _ HOo6.out HOS6.out.2.symm; have HOm7 : Hid (OwnF 25 w.heap.size v7 (mixN s t o k ++ [(pn, pv)]) w7) := o7; have HB7 : Hid (Below w.heap.size w w7) := HB6.out.trans b7; clear o7 b7 k7 q7))
        have HOm8 : Hid (OwnF 25 w.heap.size v7 (mixN s t o (k + 1)) w7) := (by rw [tt.out]; exact HOm7.out : OwnF _ _ v7 _ w7)
        have HSp8 : Hid (Sep v7 v6) := HOS7.out.2.symm
        have HOo8 : Hid (OwnF 25 w.heap.size v6 (t.take (k + 1)) w7) := HOS7.out.1
        have HL8 : Hid ((mixN s t o (k + 1)).length ≤ 2 * (k + 1)) := by show _ ≤ _; rw [tt.out, List.length_append, List.length_singleton]; omega
        go_roundw
        case rel => exact ⟨k + 1, by omega, by go_num, HOm8, HOo8, HSp8, HL8, HB7⟩
        case measure => simp [intOf]; omega
    · obtain rfl : k = t.length := by omega
      have hoo2 := hoo.out
      rw [List.take_length] at hoo2
      have HOo : Hid (RdF _ t wr) := hoo2.rd
      clear hoo2
      have HOm : Hid (RdF _ (mixN s t o t.length) wr) := hom.out.rd
      obtain ⟨ma, mc, rfl⟩ := hom.out.form
      obtain ⟨oa, oc, hoe⟩ := hoo.out.form
      rw [List.take_length] at hoe
      subst hoe
      have hs3 : sumF t ≤ 1048576 := hs
      clear hom hoo hsep hmk HAk HA
      go_wp2_with fail
      refine (HAl.out _ _ _ HOo.out hs3).mono ?_
      rintro e w2 ⟨x, rfl, hx, hb⟩
      have HB2 : Hid (Below w.heap.size w w2) := bel_trans hbl.out hb
      have HX2 : Hid (RdS x (vals s t) w2) := hx.rd
      have HOo2 : Hid (RdF (.slice oa t.length oc) t w2) := HOo.out.below hb
      have HOm2 : Hid (RdF (.slice ma (mixN s t o t.length).length mc) (mixN s t o t.length) w2) := HOm.out.below hb
      clear hb hx
      go_wp2_with fail
      refine (HAl.out _ _ _ HOm2.out HMS.out).mono ?_
      rintro e w3 ⟨y, rfl, hy, hb⟩
      rw [HMV.out] at hy
      have HB3 : Hid (Below w.heap.size w w3) := bel_trans HB2.out hb
      have HOo3 : Hid (RdF (.slice oa t.length oc) t w3) := HOo2.out.below hb
      have HOm3 : Hid (RdF (.slice ma (mixN s t o t.length).length mc) (mixN s t o t.length) w3) := HOm2.out.below hb
      have HT3 : Hid (Calls _ _ _ _ _) := texts_any x y (vals s t) w3 (HX2.out.below hb) hy.rd (by have := HVL.out; omega)
      clear hb hy
      go_wp2_with fail
      refine HT3.out.mono ?_
      rintro e w4 ⟨rfl, hb⟩
      have HB4 : Hid (Below w.heap.size w w4) := bel_trans HB3.out hb
      have HOo4 : Hid (RdF (.slice oa t.length oc) t w4) := HOo3.out.below hb
      have HOm4 : Hid (RdF (.slice ma (mixN s t o t.length).length mc) (mixN s t o t.length) w4) := HOm3.out.below hb
      clear hb HT3
      go_wp2_with fail
      refine (HTk.out _ _ _ HOo4.out hs3 (HE.out.below HB4.out).1).mono ?_
      rintro e w5 ⟨x5, rfl, hx, hb⟩
      have HB5 : Hid (Below w.heap.size w w5) := bel_trans HB4.out hb
      have HX5 : Hid (RdS x5 (tokensF s t).1 w5) := hx.rd
      have HOo5 : Hid (RdF (.slice oa t.length oc) t w5) := HOo4.out.below hb
      have HOm5 : Hid (RdF (.slice ma (mixN s t o t.length).length mc) (mixN s t o t.length) w5) := HOm4.out.below hb
      clear hb hx
      go_wp2_with fail
      refine (HTk.out _ _ _ HOm5.out HMS.out (HE.out.below HB5.out).1).mono ?_
      rintro e w6 ⟨y6, rfl, hy, hb⟩
      rw [HTKQ.out] at hy ⊢
      have HB6 : Hid (Below w.heap.size w w6) := bel_trans HB5.out hb
      have HOo6 : Hid (RdF (.slice oa t.length oc) t w6) := HOo5.out.below hb
      have HOm6 : Hid (RdF (.slice ma (mixN s t o t.length).length mc) (mixN s t o t.length) w6) := HOm5.out.below hb
      have HT6 : Hid (Calls _ _ _ _ _) := texts_any x5 y6 (tokensF s t).1 w6 (HX5.out.below hb) hy.rd HTL.out
      clear hb hy
      generalize (tokensF s t).2 = z at *
      have hzz : (z == z) = true := by simp
      go_wp2_with fail
      refine HT6.out.mono ?_
      rintro e w7 ⟨rfl, hb⟩
      have HB7 : Hid (Below w.heap.size w w7) := bel_trans HB6.out hb
      have HOo7 : Hid (RdF (.slice oa t.length oc) t w7) := HOo6.out.below hb
      have HOm7 : Hid (RdF (.slice ma (mixN s t o t.length).length mc) (mixN s t o t.length) w7) := HOm6.out.below hb
      clear hb HT6
      go_wp2_with fail
      refine (HRm.out _ _ _ HOm7.out HMS.out).mono ?_
      rintro e w8 ⟨r, rfl, hr, hb⟩
      have HB8 : Hid (Below w.heap.size w w8) := bel_trans HB7.out hb
      have HOo8 : Hid (RdF (.slice oa t.length oc) t w8) := HOo7.out.below hb
      obtain ⟨ra, rc, rfl⟩ := hr.form
      clear hb hr
      go_wp2_with fail
      refine (HAl.out _ _ _ HOo8.out hs3).mono ?_
      rintro e w9 ⟨x9, rfl, hx, hb⟩
      have HB9 : Hid (Below w.heap.size w w9) := bel_trans HB8.out hb
      obtain ⟨xa, xc, rfl⟩ := hx.form
      have hsp := HSP.out
      have hml := HML.out
      have hms := HMS.out
      have hq : (((List.filter (unlike s) (mixN s t o t.length)).length : Int) == ((mixN s t o t.length).length : Int) - ((vals s t).length : Int)) = true := by simp; omega
      clear hb hx HSP HML HMS HMV HTKQ
      generalize (List.filter (unlike s) (mixN s t o t.length)).length = A1 at *
      generalize (mixN s t o t.length).length = A2 at *
      generalize (vals s t).length = A3 at *
      go_wp2
      go_ret
      exact ⟨rfl, HB9.out⟩

end Fd
end Go.Proofs.YtojahhmdfbfnfacDoor
