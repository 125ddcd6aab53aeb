/-
  The document's PrintQuery (written by mkgrpq.py).
-/
import Derived.Test.YtpnijigjlhfklaaGreatDoorGPq
import Derived.Test.YtpnijigjlhfklaaGreatDoorGPa
import Derived.Test.YtpnijigjlhfklaaGreatDoorWPaths
set_option linter.unusedVariables false
set_option linter.unusedSimpArgs false
namespace Go.Proofs.YtpnijigjlhfklaaGreatDoor
open Go.RowKit Go.Shelf
namespace Tg
open Oc

attribute [local go_sem ↓] Go.wp_at_zero Go.wp_at_succ
set_option maxRecDepth 100000 in
set_option maxHeartbeats 4000000 in
theorem rPrintQuery_any (v : Value) (t : List Prm) (hb : t.length + sumQ t ≤ 1048576) (w : World) (hr : RdQ v t w) :
    Calls Tryz.prog 12 #[v] w fun e w' => e = .returned (.tuple #[.string (str (prqR t).1), .int .i64 (prqR t).2]) ∧ Below w.heap.size w w' := by
  obtain ⟨a, c, rfl, hcs⟩ := hr
  have HC : Hid (t = [] ∨ ∃ g o, a = some ⟨g, o, none⟩ ∧ t.length ≤ c ∧ ∀ j, j < t.length → w.cell? ⟨g, o + j * 3, none⟩ = some (.string (str (nth t j).1)) ∧ w.cell? ⟨g, o + j * 3 + 1, none⟩ = some (.string (str (nth t j).2.1)) ∧ w.cell? ⟨g, o + j * 3 + 2, none⟩ = some (.bool (nth t j).2.2)) := hcs
  have HN : Hid (_) := Ow.none w
  clear hcs
  go_enter Tryz.func12, Tryz.ntmps12
  go_wp2
  go_loopw [4, 5] (fun ov i wr => ∃ k : Nat, k ≤ t.length ∧ i = .int .i64 k ∧ Hid ((t.take k).all okQ = true) ∧ Hid (Ow w.heap.size ov (joinQ (t.take k)) wr) ∧ Hid (Below w.heap.size w wr)) (fun _ i _ => t.length - (intOf i).toNat)
  case atStart => exact ⟨0, Nat.zero_le _, rfl, (rfl : (t.take 0).all okQ = true), HN.out, (Below.refl _ w).alloc (Nat.le_refl _) _⟩
  case round =>
    obtain ⟨k, hk, rfl, hA, hown, hW⟩ := hrel
    have hsz := hW.out.size
    by_cases hlt : k < t.length
    · rcases HC.out with h | ⟨g, o, rfl, hcap, hcell⟩
      · rw [h] at hlt; simp at hlt
      obtain ⟨c0, c1, c2⟩ := hcell k hlt
      have hg : g < w.heap.size := World.block_lt_of_cell? w _ c0
      have d0 : wr.cell? ⟨g, o + k * 3, none⟩ = some (.string (str (nth t k).1)) := (hW.out.cell (p := ⟨g, o + k * 3, none⟩) hg).trans c0
      have d1 : wr.cell? ⟨g, o + k * 3 + 1, none⟩ = some (.string (str (nth t k).2.1)) := (hW.out.cell (p := ⟨g, o + k * 3 + 1, none⟩) hg).trans c1
      have d2 : wr.cell? ⟨g, o + k * 3 + 2, none⟩ = some (.bool (nth t k).2.2) := (hW.out.cell (p := ⟨g, o + k * 3 + 2, none⟩) hg).trans c2
      clear hcell c0 c1 c2
      have hjl := joinQ_len (t.take k)
      have hst := sumQ_take t k
      have hgl := szQ_le t k hlt
      have HJ : Hid ((joinQ (t.take k)).length ≤ 6000000) := by show _ ≤ _; rw [List.length_take] at hjl; omega
      have HBad : Hid (okQ (nth t k) = false → prqR t = ([], 54)) := fun h => prq_bad t k hlt h
      have HAll : Hid (okQ (nth t k) = true → (t.take (k + 1)).all okQ = true) := fun h => all_snocQ t k hlt hA.out h
      have HT : Hid (joinQ (t.take (k + 1)) = if t.take k = [] then txQ (nth t k) else joinQ (t.take k) ++ 38 :: txQ (nth t k)) := (by rw [take_snocQ t k hlt, joinQ_snoc]; rfl : joinQ (t.take (k + 1)) = _)
      have hgl' : szQ (nth t k) ≤ sumQ t := hgl
      have hgz : g < wr.heap.size := by omega
      clear hjl hst hgl
      generalize nth t k = p at *
      obtain ⟨pn, pv, pb⟩ := p
      unfold szQ at hgl'
      dsimp only at d0 d1 d2 hgl'
      have hn := str_size pn
      have hv := str_size pv
      have HE1 : Hid (∀ W, Calls Tryz.prog 32 #[.string (str pn)] W fun e W' => e = .returned (.string (str (enc pn))) ∧ Below W.heap.size W W') := fun W => by
        have := rEncode_any (str pn) (by omega) W
        rw [str_list] at this
        exact this
      have HE2 : Hid (∀ W, Calls Tryz.prog 32 #[.string (str pv)] W fun e W' => e = .returned (.string (str (enc pv))) ∧ Below W.heap.size W W') := fun W => by
        have := rEncode_any (str pv) (by omega) W
        rw [str_list] at this
        exact this
      have HY1 : Hid ((str (enc pn)).data.toList = enc pn) := str_list _
      have HY2 : Hid ((str (enc pv)).data.toList = enc pv) := str_list _
      have hz1 : (str (enc pn)).size ≤ 3145728 := by rw [str_size]; have := enc_len pn; omega
      have hz2 : (str (enc pv)).size ≤ 3145728 := by rw [str_size]; have := enc_len pv; omega
      have hz3 : Hid ((str (enc pn)).data.toList.length ≤ 3145728) := by show _ ≤ _; rw [str_list]; have := enc_len pn; omega
      have hacc0 : k = 0 → joinQ (t.take k) = [] := fun e => by subst e; rfl
      generalize str (enc pn) = Y1 at *
      generalize str (enc pv) = Y2 at *
      generalize str pn = n at *
      generalize str pv = v at *
      generalize joinQ (t.take k) = acc at *
      cases pb with
      | true =>
        have HAk : Hid ((t.take (k + 1)).all okQ = true) := HAll.out rfl
        by_cases hk0 : k = 0
        · have hT0 : t.take k = [] := by rw [hk0]; rfl
          have hacc : acc = [] := hacc0 hk0
          subst hacc
          have hk1 : ¬ (0 : Int) < (k : Int) := by omega
          have hk2 : ¬ 0 < k := by omega
          have HT0 : Hid (t.take k = []) := hT0
          clear hT0 hk0
          have HO1 : Hid (Ow w.heap.size u4 ([] : List UInt8) wr) := hown.out
          have HW1 : Hid (Below w.heap.size w wr) := hW.out
          have hs1 := HW1.out.size
          go_wp2_with fail
          refine (HE1.out _).mono ?_
          rintro e w2 ⟨rfl, hb'⟩
          have HO2 : Hid (Ow w.heap.size _ (([] : List UInt8)) w2) := HO1.out.below hb'
          have HW2 : Hid (Below w.heap.size w w2) := HW1.out.trans (hb'.mono hs1)
          have x0_2 := (hb'.cell (p := ⟨g, o + k * 3, none⟩) (Nat.lt_of_lt_of_le hg hs1)).trans d0
          have x1_2 := (hb'.cell (p := ⟨g, o + k * 3 + 1, none⟩) (Nat.lt_of_lt_of_le hg hs1)).trans d1
          have x2_2 := (hb'.cell (p := ⟨g, o + k * 3 + 2, none⟩) (Nat.lt_of_lt_of_le hg hs1)).trans d2
          have hs2 := HW2.out.size
          clear hb'
          go_wp2_with (at_builtin; go_must (refine wp_apS rfl (.tmp 40) (.tmp 46) rfl w.heap.size _ (([] : List UInt8)) Y1 _ rfl HO2.out rfl (by have := HJ.out; have := hz3.out; (try simp only [List.length_append, List.length_cons, List.length_nil]); omega) hs2 ?_))
          intro v3 w3 ho' hb'
          have HO3 : Hid (Ow w.heap.size v3 ((([] : List UInt8)) ++ Y1.data.toList) w3) := (by first | exact ho' | (rw [List.append_assoc]; exact ho') : Ow _ _ _ _)
          have HW3 : Hid (Below w.heap.size w w3) := HW2.out.trans hb'
          have x0_3 := (hb'.cell (p := ⟨g, o + k * 3, none⟩) hg).trans x0_2
          have x1_3 := (hb'.cell (p := ⟨g, o + k * 3 + 1, none⟩) hg).trans x1_2
          have x2_3 := (hb'.cell (p := ⟨g, o + k * 3 + 2, none⟩) hg).trans x2_2
          have hs3 := HW3.out.size
          clear ho' hb'
          have HTk : Hid (joinQ (t.take (k + 1)) = ((([] : List UInt8)) ++ Y1.data.toList) ++ [61] ++ Y2.data.toList) := (by rw [HT.out]; rw [if_pos HT0.out]; rw [HY1.out, HY2.out]; simp [txQ] : joinQ (t.take (k + 1)) = _)
          have hTL : Hid (((([] : List UInt8)) ++ Y1.data.toList).length ≤ 12000000) := (by have := HJ.out; have := hz3.out; (try simp only [List.length_append, List.length_cons, List.length_nil]); omega : _ ≤ _)
          generalize (([] : List UInt8)) ++ Y1.data.toList = tt at *
          have hce0 : w3.drew.cell? ⟨g, o + k * 3 + 1, none⟩ = some (.string v) := x1_3
          have HOd : Hid (Ow w.heap.size v3 tt w3.drew) := HO3.out
          have HCS : Hid ((#[Value.int .u8 61] : Array Value).toList = Lib.byteCells [61]) := (rfl : (#[Value.int .u8 61] : Array Value).toList = Lib.byteCells [61])
          have hzw : w.heap.size ≤ w3.drew.heap.size := hs3
          have hgw : g < w3.heap.size := Nat.lt_of_lt_of_le hg hs3
          have hce1 : (w3.drew.alloc (.cells #[.int .u8 61] 5)).cell? ⟨g, o + k * 3 + 1, none⟩ = some (.string v) := (Below.cell ((Below.refl _ w3.drew).alloc (Nat.le_refl _) _) (p := ⟨g, o + k * 3 + 1, none⟩) hgw).trans hce0
          go_wp2_with fail
          go_region_law (first | (refine step_ap rfl (.tmp 53) (.tmp 54) rfl w.heap.size v3 tt [61] 1 rfl w3.drew _ HCS.out (by simp [Act.eval, Act.put]) HOd.out (by simp [Act.eval, Act.put]) (by have := hTL.out; simp; omega) hzw ?_; intro v5 w5 HO5 HB5; have hce2 := (HB5.out.cell (p := ⟨g, o + k * 3 + 1, none⟩) hg).trans hce0; have hw5 := HB5.out.size) | (go_simp; go_at_call 32; refine (HE2.out _).mono ?_; rintro e w6 ⟨rfl, k6⟩; dsimp only; have HO6 : Hid (Ow w.heap.size v5 (tt ++ [61]) w6) := HO5.out.below k6; have hw6 := k6.size) | (refine step_apS rfl (.tmp 55) (.tmp 61) rfl w.heap.size v5 (tt ++ [61]) Y2 w6 (by simp [Act.eval, Act.put]) HO6.out (by simp [Act.eval, Act.put]) (by have := hTL.out; simp; omega) (Nat.le_trans hzw (Nat.le_trans hw5 hw6)) ?_; intro v7 w7 HO7 HB7))
          all_goals go_wp2
          all_goals exact ⟨⟨k + 1, by omega, by go_num, HAk, (by rw [HTk.out]; exact HO7.out : Ow w.heap.size _ (joinQ (t.take (k + 1))) _), HW3.out.drew.trans (HB5.out.trans ((k6.mono (Nat.le_trans hzw hw5)).trans HB7.out))⟩, by simp [intOf]; omega⟩
        · have hTk : t.take k ≠ [] := by intro e; have := congrArg List.length e; rw [List.length_take, List.length_nil] at this; omega
          have hk1 : (0 : Int) < (k : Int) := by omega
          have hk2 : 0 < k := by omega
          go_wp2_with (at_builtin; go_must (refine wp_ap rfl (.tmp 37) (.tmp 38) rfl w.heap.size _ acc [38] _ _ rfl rfl hown.out rfl (by have := HJ.out; have := hz3.out; (try simp only [List.length_append, List.length_cons, List.length_nil]); omega) hsz ?_))
          intro v1 w1 ho' hb'
          have HO1 : Hid (Ow w.heap.size v1 (acc ++ [38]) w1) := ho'
          have HW1 : Hid (Below w.heap.size w w1) := hW.out.trans hb'
          have x0_1 := (hb'.cell (p := ⟨g, o + k * 3, none⟩) hg).trans d0
          have x1_1 := (hb'.cell (p := ⟨g, o + k * 3 + 1, none⟩) hg).trans d1
          have x2_1 := (hb'.cell (p := ⟨g, o + k * 3 + 2, none⟩) hg).trans d2
          clear ho' hb'
          have hs1 := HW1.out.size
          go_wp2_with fail
          refine (HE1.out _).mono ?_
          rintro e w2 ⟨rfl, hb'⟩
          have HO2 : Hid (Ow w.heap.size _ (acc ++ [38]) w2) := HO1.out.below hb'
          have HW2 : Hid (Below w.heap.size w w2) := HW1.out.trans (hb'.mono hs1)
          have x0_2 := (hb'.cell (p := ⟨g, o + k * 3, none⟩) (Nat.lt_of_lt_of_le hg hs1)).trans x0_1
          have x1_2 := (hb'.cell (p := ⟨g, o + k * 3 + 1, none⟩) (Nat.lt_of_lt_of_le hg hs1)).trans x1_1
          have x2_2 := (hb'.cell (p := ⟨g, o + k * 3 + 2, none⟩) (Nat.lt_of_lt_of_le hg hs1)).trans x2_1
          have hs2 := HW2.out.size
          clear hb'
          go_wp2_with (at_builtin; go_must (refine wp_apS rfl (.tmp 40) (.tmp 46) rfl w.heap.size _ (acc ++ [38]) Y1 _ rfl HO2.out rfl (by have := HJ.out; have := hz3.out; (try simp only [List.length_append, List.length_cons, List.length_nil]); omega) hs2 ?_))
          intro v3 w3 ho' hb'
          have HO3 : Hid (Ow w.heap.size v3 ((acc ++ [38]) ++ Y1.data.toList) w3) := (by first | exact ho' | (rw [List.append_assoc]; exact ho') : Ow _ _ _ _)
          have HW3 : Hid (Below w.heap.size w w3) := HW2.out.trans hb'
          have x0_3 := (hb'.cell (p := ⟨g, o + k * 3, none⟩) hg).trans x0_2
          have x1_3 := (hb'.cell (p := ⟨g, o + k * 3 + 1, none⟩) hg).trans x1_2
          have x2_3 := (hb'.cell (p := ⟨g, o + k * 3 + 2, none⟩) hg).trans x2_2
          have hs3 := HW3.out.size
          clear ho' hb'
          have HTk : Hid (joinQ (t.take (k + 1)) = ((acc ++ [38]) ++ Y1.data.toList) ++ [61] ++ Y2.data.toList) := (by rw [HT.out]; rw [if_neg hTk]; rw [HY1.out, HY2.out]; simp [txQ] : joinQ (t.take (k + 1)) = _)
          have hTL : Hid (((acc ++ [38]) ++ Y1.data.toList).length ≤ 12000000) := (by have := HJ.out; have := hz3.out; (try simp only [List.length_append, List.length_cons, List.length_nil]); omega : _ ≤ _)
          generalize (acc ++ [38]) ++ Y1.data.toList = tt at *
          have hce0 : w3.drew.cell? ⟨g, o + k * 3 + 1, none⟩ = some (.string v) := x1_3
          have HOd : Hid (Ow w.heap.size v3 tt w3.drew) := HO3.out
          have HCS : Hid ((#[Value.int .u8 61] : Array Value).toList = Lib.byteCells [61]) := (rfl : (#[Value.int .u8 61] : Array Value).toList = Lib.byteCells [61])
          have hzw : w.heap.size ≤ w3.drew.heap.size := hs3
          have hgw : g < w3.heap.size := Nat.lt_of_lt_of_le hg hs3
          have hce1 : (w3.drew.alloc (.cells #[.int .u8 61] 5)).cell? ⟨g, o + k * 3 + 1, none⟩ = some (.string v) := (Below.cell ((Below.refl _ w3.drew).alloc (Nat.le_refl _) _) (p := ⟨g, o + k * 3 + 1, none⟩) hgw).trans hce0
          go_wp2_with fail
          go_region_law (first | (refine step_ap rfl (.tmp 53) (.tmp 54) rfl w.heap.size v3 tt [61] 1 rfl w3.drew _ HCS.out (by simp [Act.eval, Act.put]) HOd.out (by simp [Act.eval, Act.put]) (by have := hTL.out; simp; omega) hzw ?_; intro v5 w5 HO5 HB5; have hce2 := (HB5.out.cell (p := ⟨g, o + k * 3 + 1, none⟩) hg).trans hce0; have hw5 := HB5.out.size) | (go_simp; go_at_call 32; refine (HE2.out _).mono ?_; rintro e w6 ⟨rfl, k6⟩; dsimp only; have HO6 : Hid (Ow w.heap.size v5 (tt ++ [61]) w6) := HO5.out.below k6; have hw6 := k6.size) | (refine step_apS rfl (.tmp 55) (.tmp 61) rfl w.heap.size v5 (tt ++ [61]) Y2 w6 (by simp [Act.eval, Act.put]) HO6.out (by simp [Act.eval, Act.put]) (by have := hTL.out; simp; omega) (Nat.le_trans hzw (Nat.le_trans hw5 hw6)) ?_; intro v7 w7 HO7 HB7))
          all_goals go_wp2
          all_goals exact ⟨⟨k + 1, by omega, by go_num, HAk, (by rw [HTk.out]; exact HO7.out : Ow w.heap.size _ (joinQ (t.take (k + 1))) _), HW3.out.drew.trans (HB5.out.trans ((k6.mono (Nat.le_trans hzw hw5)).trans HB7.out))⟩, by simp [intOf]; omega⟩
      | false =>
        by_cases hv0 : v.size = 0
        · have hve := empty_of hv0
          have hvl : pv = [] := List.length_eq_zero_iff.1 (by omega)
          by_cases hn0 : n.size = 0
          · have hne := empty_of hn0
            have hnl : pn = [] := List.length_eq_zero_iff.1 (by omega)
            have HBk : Hid (prqR t = ([], 54)) := HBad.out (by simp [okQ, hnl])
            clear hvl hnl
            go_wp2
            go_ret2
            rw [HBk.out]
            exact ⟨rfl, hW.out⟩
          · have hne := nonempty_of hn0
            have hnl : pn ≠ [] := fun e => hn0 (by rw [hn, e]; rfl)
            have HAk : Hid ((t.take (k + 1)).all okQ = true) := HAll.out (by simp [okQ, hvl, hnl])
            clear hvl hnl
            by_cases hk0 : k = 0
            · have hT0 : t.take k = [] := by rw [hk0]; rfl
              have hacc : acc = [] := hacc0 hk0
              subst hacc
              have hk1 : ¬ (0 : Int) < (k : Int) := by omega
              have hk2 : ¬ 0 < k := by omega
              have HT0 : Hid (t.take k = []) := hT0
              clear hT0 hk0
              have HO1 : Hid (Ow w.heap.size u4 ([] : List UInt8) wr) := hown.out
              have HW1 : Hid (Below w.heap.size w wr) := hW.out
              have hs1 := HW1.out.size
              go_wp2_with fail
              refine (HE1.out _).mono ?_
              rintro e w2 ⟨rfl, hb'⟩
              have HO2 : Hid (Ow w.heap.size _ (([] : List UInt8)) w2) := HO1.out.below hb'
              have HW2 : Hid (Below w.heap.size w w2) := HW1.out.trans (hb'.mono hs1)
              have x0_2 := (hb'.cell (p := ⟨g, o + k * 3, none⟩) (Nat.lt_of_lt_of_le hg hs1)).trans d0
              have x1_2 := (hb'.cell (p := ⟨g, o + k * 3 + 1, none⟩) (Nat.lt_of_lt_of_le hg hs1)).trans d1
              have x2_2 := (hb'.cell (p := ⟨g, o + k * 3 + 2, none⟩) (Nat.lt_of_lt_of_le hg hs1)).trans d2
              have hs2 := HW2.out.size
              clear hb'
              go_wp2_with (at_builtin; go_must (refine wp_apS rfl (.tmp 40) (.tmp 46) rfl w.heap.size _ (([] : List UInt8)) Y1 _ rfl HO2.out rfl (by have := HJ.out; have := hz3.out; (try simp only [List.length_append, List.length_cons, List.length_nil]); omega) hs2 ?_))
              intro v3 w3 ho' hb'
              have HO3 : Hid (Ow w.heap.size v3 ((([] : List UInt8)) ++ Y1.data.toList) w3) := (by first | exact ho' | (rw [List.append_assoc]; exact ho') : Ow _ _ _ _)
              have HW3 : Hid (Below w.heap.size w w3) := HW2.out.trans hb'
              have x0_3 := (hb'.cell (p := ⟨g, o + k * 3, none⟩) hg).trans x0_2
              have x1_3 := (hb'.cell (p := ⟨g, o + k * 3 + 1, none⟩) hg).trans x1_2
              have x2_3 := (hb'.cell (p := ⟨g, o + k * 3 + 2, none⟩) hg).trans x2_2
              have hs3 := HW3.out.size
              clear ho' hb'
              have HTk : Hid (joinQ (t.take (k + 1)) = (([] : List UInt8)) ++ Y1.data.toList) := (by rw [HT.out]; rw [if_pos HT0.out]; rw [HY1.out]; simp [txQ] : joinQ (t.take (k + 1)) = _)
              have HOf : Hid (Ow w.heap.size v3 (joinQ (t.take (k + 1))) w3) := (by rw [HTk.out]; exact HO3.out : Ow _ _ _ _)
              go_wp2
              go_roundw
              case rel => exact ⟨k + 1, by omega, by go_num, HAk, HOf, HW3⟩
              case measure => simp [intOf]; omega
            · have hTk : t.take k ≠ [] := by intro e; have := congrArg List.length e; rw [List.length_take, List.length_nil] at this; omega
              have hk1 : (0 : Int) < (k : Int) := by omega
              have hk2 : 0 < k := by omega
              go_wp2_with (at_builtin; go_must (refine wp_ap rfl (.tmp 37) (.tmp 38) rfl w.heap.size _ acc [38] _ _ rfl rfl hown.out rfl (by have := HJ.out; have := hz3.out; (try simp only [List.length_append, List.length_cons, List.length_nil]); omega) hsz ?_))
              intro v1 w1 ho' hb'
              have HO1 : Hid (Ow w.heap.size v1 (acc ++ [38]) w1) := ho'
              have HW1 : Hid (Below w.heap.size w w1) := hW.out.trans hb'
              have x0_1 := (hb'.cell (p := ⟨g, o + k * 3, none⟩) hg).trans d0
              have x1_1 := (hb'.cell (p := ⟨g, o + k * 3 + 1, none⟩) hg).trans d1
              have x2_1 := (hb'.cell (p := ⟨g, o + k * 3 + 2, none⟩) hg).trans d2
              clear ho' hb'
              have hs1 := HW1.out.size
              go_wp2_with fail
              refine (HE1.out _).mono ?_
              rintro e w2 ⟨rfl, hb'⟩
              have HO2 : Hid (Ow w.heap.size _ (acc ++ [38]) w2) := HO1.out.below hb'
              have HW2 : Hid (Below w.heap.size w w2) := HW1.out.trans (hb'.mono hs1)
              have x0_2 := (hb'.cell (p := ⟨g, o + k * 3, none⟩) (Nat.lt_of_lt_of_le hg hs1)).trans x0_1
              have x1_2 := (hb'.cell (p := ⟨g, o + k * 3 + 1, none⟩) (Nat.lt_of_lt_of_le hg hs1)).trans x1_1
              have x2_2 := (hb'.cell (p := ⟨g, o + k * 3 + 2, none⟩) (Nat.lt_of_lt_of_le hg hs1)).trans x2_1
              have hs2 := HW2.out.size
              clear hb'
              go_wp2_with (at_builtin; go_must (refine wp_apS rfl (.tmp 40) (.tmp 46) rfl w.heap.size _ (acc ++ [38]) Y1 _ rfl HO2.out rfl (by have := HJ.out; have := hz3.out; (try simp only [List.length_append, List.length_cons, List.length_nil]); omega) hs2 ?_))
              intro v3 w3 ho' hb'
              have HO3 : Hid (Ow w.heap.size v3 ((acc ++ [38]) ++ Y1.data.toList) w3) := (by first | exact ho' | (rw [List.append_assoc]; exact ho') : Ow _ _ _ _)
              have HW3 : Hid (Below w.heap.size w w3) := HW2.out.trans hb'
              have x0_3 := (hb'.cell (p := ⟨g, o + k * 3, none⟩) hg).trans x0_2
              have x1_3 := (hb'.cell (p := ⟨g, o + k * 3 + 1, none⟩) hg).trans x1_2
              have x2_3 := (hb'.cell (p := ⟨g, o + k * 3 + 2, none⟩) hg).trans x2_2
              have hs3 := HW3.out.size
              clear ho' hb'
              have HTk : Hid (joinQ (t.take (k + 1)) = (acc ++ [38]) ++ Y1.data.toList) := (by rw [HT.out]; rw [if_neg hTk]; rw [HY1.out]; simp [txQ] : joinQ (t.take (k + 1)) = _)
              have HOf : Hid (Ow w.heap.size v3 (joinQ (t.take (k + 1))) w3) := (by rw [HTk.out]; exact HO3.out : Ow _ _ _ _)
              go_wp2
              go_roundw
              case rel => exact ⟨k + 1, by omega, by go_num, HAk, HOf, HW3⟩
              case measure => simp [intOf]; omega
        · have hve := nonempty_of hv0
          have hvl : pv ≠ [] := fun e => hv0 (by rw [hv, e]; rfl)
          have HBk : Hid (prqR t = ([], 54)) := HBad.out (by simp [okQ, hvl])
          clear hvl
          go_wp2
          go_ret2
          rw [HBk.out]
          exact ⟨rfl, hW.out⟩
    · obtain rfl : k = t.length := by omega
      have HG : Hid (prqR t = (joinQ t, 0)) := prq_good t hA.out
      have hback := hown.out.back
      rw [List.take_length] at hback
      obtain ⟨R, hR⟩ : ∃ R, R = joinQ t := ⟨_, rfl⟩
      rw [← hR] at hback
      have HE2 : Hid (_ = _) := hR
      clear hR
      go_wp2
      go_ret2
      rw [HG.out, ← HE2.out]
      exact ⟨rfl, hW.out⟩

end Tg
end Go.Proofs.YtpnijigjlhfklaaGreatDoor
