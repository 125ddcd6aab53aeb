/- Several texts as one. -/
import Derived.Test.YtkaciaiooidohaaDoorQkE
import Derived.Test.YtkaciaiooidohaaDoorPrM
import Derived.Deep.RegionHeld3
import Derived.Test.YtkaciaiooidohaaDoorZzK
import Derived.Deep.RegionLaw
import Derived.Laws.AppendOwnNone
import Derived.Test.YtkaciaiooidohaaDoorZzL
/-
  The document's Parts.
-/
set_option linter.unusedVariables false
set_option linter.unusedSimpArgs false
namespace Go.Proofs.YtkaciaiooidohaaDoor
open Go.RowKit Go.Shelf
namespace Sn
open Oc Tg Ac

theorem step_appG {ops : Array Oper} {o : Oper} {a : Act} {K : Act → World → Prop} {Q : Exit → Act → World → Prop} {E' : Prop} (hgd : o.guard = none) (s x : Operand)
    (ho : o.op = .call { callee := .builtin .append, args := #[s, x], argTypes := #[48, 9] }) (B : Nat) (v : Value) (l : List UInt8) (W : World) (y : ByteArray) (m : List UInt8) (hy : y = str m)
    (hs : a.eval s = v) (hown : Oc.Own B v l W) (hx : a.eval x = .string y) (hlen : l.length + m.length ≤ 140737488355328) (hB : B ≤ W.heap.size)
    (h : ∀ v' w', Hid (Oc.Own B v' (l ++ m) w') → Hid (Below B W w') → K (a.put o.dst v') w') :
    if Region.wanted o (yielded ops a.tmps) = true then Oper.wp Tryd.prog o a W K Q else E' := by
  rw [if_pos (by simp [Region.wanted, hgd])]
  subst hy
  obtain ⟨i0, hi, hz0, hz1, hz2⟩ := info5
  obtain ⟨v', w', hrun, h1, h2, _⟩ := Lib.run_append_own_string (P := Tryd.prog) (w := W) B 48 9 o.type 5 i0 Tryd.underlying48 Tryd.underlying9 hi hz0 hz1 hz2 v l.length _ hown (str m) (by rw [str_size]; unfold maxLen; omega) (by rw [str_size]; omega) hB
  rw [Lib.strCells_eq, str_list, ← Lib.byteCells_append, str_size] at h1
  have ho' : Oc.Own B v' (l ++ m) w' := by
    unfold Oc.Own
    rw [List.length_append]
    exact h1
  have hb' : Below B W w' := (Below.refl B W).grown h2 hB (fun k hk => (World.ownsRow.lt hown k hk).1)
  unfold Oper.wp
  simp [execOp, ho, resolve, invoke, builtin, hs, hx, hrun, Result.andThen]
  exact h v' w' ho' hb'
theorem own_none (w : World) : Oc.Own w.heap.size (.slice (some ⟨w.heap.size, 0, none⟩) 0 0) [] (w.alloc (.cells #[] 5)) :=
  ⟨by simp [Lib.byteCells], .inr ⟨w.heap.size, 0, #[], rfl, Nat.le_refl _, heap_alloc_new w _, by simp, by decide, by simp, by simp [Lib.byteCells]⟩⟩

set_option maxRecDepth 100000 in
set_option maxHeartbeats 4000000 in
theorem rParts_any (bd md body : List UInt8) (v : Value) (t : List Sp) (h1 : bd.length ≤ 1048576) (h2 : md.length ≤ 1048576) (h3 : body.length ≤ 1048576) (hn : t.length ≤ 1048576) (hbn : ∀ k, k < t.length → -9223372036854775808 ≤ (nthN t k).1 ∧ (nthN t k).1 ≤ 9223372036854775807 ∧ -9223372036854775808 ≤ (nthN t k).2 ∧ (nthN t k).2 ≤ 9223372036854775807) (w : World) (hrd : RdN v t w) :
    Calls Tryd.prog 15 #[.string (str bd), .string (str md), .string (str body), v] w fun e w' => e = .returned (.tuple #[.string (str (partsR bd md body t).1), .int .i64 (partsR bd md body t).2]) ∧ Below w.heap.size w w' := by
  have HBn : Hid (∀ k, k < t.length → -9223372036854775808 ≤ (nthN t k).1 ∧ (nthN t k).1 ≤ 9223372036854775807 ∧ -9223372036854775808 ≤ (nthN t k).2 ∧ (nthN t k).2 ≤ 9223372036854775807) := hbn
  have zb : (str bd).size ≤ 1048576 := by rw [str_size]; exact h1
  have zm : (str md).size ≤ 1048576 := by rw [str_size]; exact h2
  have zy : (str body).size = body.length := str_size body
  have HIb : Hid (Calls Tryd.prog 38 #[.string (str bd)] w fun e w' => e = .returned (.bool (bndR bd)) ∧ Below w.heap.size w w') := (by have h := rIsMark_any (str bd) (by omega) w; rw [str_list] at h; exact h : Calls _ _ _ _ _)
  have HCo : Hid (∀ W, Calls Tryd.prog 28 #[.string (str body), .string (⟨#[45, 45]⟩ ++ str bd)] W fun e w' => e = .returned (.bool (Lib.contains body ([45, 45] ++ bd))) ∧ w' = W) := fun W => by
    have h := Stands_any (str body) (str ([45, 45] ++ bd)) (by omega) (by rw [str_size]; simp) (by rw [str_size]; simp; omega) W
    rw [str_list, str_list] at h
    rw [show (⟨#[45, 45]⟩ : ByteArray) ++ str bd = str ([45, 45] ++ bd) from by rw [← add_str]; rfl]
    exact h
  have HIf : Hid (∀ W, Calls Tryd.prog 39 #[.string (str md)] W fun e w' => e = .returned (.bool (isFld md)) ∧ w' = W) := fun W => by have h := rIsField_any (str md) (by unfold maxLen; omega) W; rw [str_list] at h; exact h
  have HR : Hid (∀ W, Below w.heap.size w W → RdN v t W) := fun W hb => hrd.below hb
  have hk2 : (⟨#[45, 45]⟩ : ByteArray).size = 2 := rfl
  have hs0 : ¬ (9223372036854775807 < (⟨#[45, 45]⟩ : ByteArray).size + (str bd).size) := by omega
  obtain ⟨a, c, rfl, _⟩ := hrd
  clear hk2
  cases hb1 : bndR bd with
  | false =>
    have HQ : Hid (partsR bd md body t = ([], 92)) := (by unfold partsR; rw [if_pos hb1] : partsR bd md body t = _)
    rw [hb1] at HIb
    go_enter Tryd.func15, Tryd.ntmps15
    go_wp2_with fail
    refine HIb.out.mono ?_
    rintro e w1 ⟨rfl, hb⟩
    have HB1 : Hid (Below w.heap.size w w1) := hb
    clear hb
    go_wp2
    go_ret2
    rw [HQ.out]
    exact ⟨rfl, HB1.out⟩
  | true =>
    rw [hb1] at HIb
    cases hb2 : Lib.contains body ([45, 45] ++ bd) with
    | true =>
      have HQ : Hid (partsR bd md body t = ([], 92)) := (by unfold partsR; rw [if_neg (by rw [hb1]; simp), if_pos hb2] : partsR bd md body t = _)
      rw [hb2] at HCo
      go_enter Tryd.func15, Tryd.ntmps15
      go_wp2_with fail
      refine HIb.out.mono ?_
      rintro e w1 ⟨rfl, hb⟩
      have HB1 : Hid (Below w.heap.size w w1) := hb
      clear hb
      go_wp2_with fail
      refine (HCo.out _).mono ?_
      rintro e w2 ⟨rfl, rfl⟩
      go_wp2
      go_ret2
      rw [HQ.out]
      exact ⟨rfl, HB1.out⟩
    | false =>
      rw [hb2] at HCo
      cases hb3 : isFld md with
      | false =>
        have HQ : Hid (partsR bd md body t = ([], 1)) := (by unfold partsR; rw [if_neg (by rw [hb1]; simp), if_neg (by rw [hb2]; simp), if_pos hb3] : partsR bd md body t = _)
        rw [hb3] at HIf
        go_enter Tryd.func15, Tryd.ntmps15
        go_wp2_with fail
        refine HIb.out.mono ?_
        rintro e w1 ⟨rfl, hb⟩
        have HB1 : Hid (Below w.heap.size w w1) := hb
        clear hb
        go_wp2_with fail
        refine (HCo.out _).mono ?_
        rintro e w2 ⟨rfl, hw2⟩
        rw [hw2]
        clear hw2
        go_wp2_with fail
        refine (HIf.out _).mono ?_
        rintro e w3 ⟨rfl, hw3⟩
        rw [hw3]
        clear hw3
        go_wp2
        go_ret2
        rw [HQ.out]
        exact ⟨rfl, HB1.out⟩
      | true =>
        rw [hb3] at HIf
        by_cases h0 : t.length = 0
        · have HQ : Hid (partsR bd md body t = ([], 91)) := (by unfold partsR; rw [if_neg (by rw [hb1]; simp), if_neg (by rw [hb2]; simp), if_neg (by rw [hb3]; simp), if_pos h0] : partsR bd md body t = _)
          have e0 : ((t.length : Int) == 0) = true := by simp [h0]
          clear h0
          go_enter Tryd.func15, Tryd.ntmps15
          go_wp2_with fail
          refine HIb.out.mono ?_
          rintro e w1 ⟨rfl, hb⟩
          have HB1 : Hid (Below w.heap.size w w1) := hb
          clear hb
          go_wp2_with fail
          refine (HCo.out _).mono ?_
          rintro e w2 ⟨rfl, hw2⟩
          rw [hw2]
          clear hw2
          go_wp2_with fail
          refine (HIf.out _).mono ?_
          rintro e w3 ⟨rfl, hw3⟩
          rw [hw3]
          clear hw3
          go_wp2
          go_ret2
          rw [HQ.out]
          exact ⟨rfl, HB1.out⟩
        · have e0 : ((t.length : Int) == 0) = false := by rw [beq_eq_false_iff_ne]; omega
          have HQn : Hid (allSp t body.length = false → partsR bd md body t = ([], 91)) := (fun h => by unfold partsR; rw [if_neg (by rw [hb1]; simp), if_neg (by rw [hb2]; simp), if_neg (by rw [hb3]; simp), if_neg h0, if_neg (by rw [h]; simp)] : _ → partsR bd md body t = _)
          have HQy : Hid (allSp t body.length = true → partsR bd md body t = (prtsB bd md body t ++ clB bd, 0)) := (fun h => by unfold partsR; rw [if_neg (by rw [hb1]; simp), if_neg (by rw [hb2]; simp), if_neg (by rw [hb3]; simp), if_neg h0, if_pos h] : _ → partsR bd md body t = _)
          have HTe : Hid (∀ k, k < t.length → (∀ W, Calls Tryd.prog 40 #[.agg #[.int .i64 (nthN t k).1, .int .i64 (nthN t k).2], .int .i64 (body.length : Int)] W fun e w' => e = .returned (.tuple #[.string (str (telR (nthN t k) body.length).1), .int .i64 (telR (nthN t k) body.length).2]) ∧ Below (World.heap W).size W w')) := fun k hk W => by
            have hh := HBn.out k hk
            exact (rTell_gr (nthN t k).1 (nthN t k).2 body.length (by omega) (by omega) (by omega) (by omega) (by omega) (by omega) W).mono (fun e w' ⟨h1, h2⟩ => ⟨h1, Grew.below h2⟩)
          have HLn : Hid (∀ k, k ≤ t.length → (∀ j, j < k → isSp (nthN t j) body.length = true) → (prtsB bd md body (t.take k)).length ≤ 4398046511104) := fun k hk ha => by
            have := prts_len h1 h2 h3 (t.take k) (fun x hx => by
              obtain ⟨j, hj, rfl⟩ := List.mem_iff_getElem.1 hx
              rw [List.length_take] at hj
              rw [List.getElem_take, ← nthN_mem' (show j < t.length by omega)]
              exact ha j (by omega))
            rw [List.length_take] at this
            omega
          have HTk : Hid (∀ k, k < t.length → prtsB bd md body (t.take (k + 1)) = prtsB bd md body (t.take k) ++ partB bd md body (nthN t k)) := fun k hk => prts_take bd md body t k hk
          have HTl : Hid (∀ k, k < t.length → isSp (nthN t k) body.length = true → (telR (nthN t k) body.length).1.length ≤ 80 ∧ (telR (nthN t k) body.length).2 = 0) := fun k hk hx => by
            have hh : 0 ≤ (nthN t k).1 ∧ (nthN t k).1 < (nthN t k).2 ∧ (nthN t k).2 ≤ (body.length : Int) := of_decide_eq_true hx
            unfold telR
            rw [if_pos hx]
            have e1 := extR_len (nthN t k) (by omega) (by omega) (by omega) (by omega)
            have e2 := Lib.itoa_length_le (body.length : Int) (by omega) (by omega)
            simp only [List.length_append, List.length_cons, List.length_nil]
            exact ⟨by omega, by first | rfl | trivial⟩
          have HTn : Hid (∀ k, isSp (nthN t k) body.length = false → (telR (nthN t k) body.length).2 = 91) := fun k hx => by
            unfold telR
            rw [if_neg (by rw [hx]; simp)]
          have HPl : Hid (∀ k, k < t.length → isSp (nthN t k) body.length = true → (partB bd md body (nthN t k)).length ≤ 4194304) := fun k hk hx => part_len h1 h2 h3 hx
          go_enter Tryd.func15, Tryd.ntmps15
          go_wp2_with fail
          refine HIb.out.mono ?_
          rintro e w1 ⟨rfl, hb⟩
          have HB1 : Hid (Below w.heap.size w w1) := hb
          clear hb
          go_wp2_with fail
          refine (HCo.out _).mono ?_
          rintro e w2 ⟨rfl, hw2⟩
          rw [hw2]
          clear hw2
          go_wp2_with fail
          refine (HIf.out _).mono ?_
          rintro e w3 ⟨rfl, hw3⟩
          rw [hw3]
          clear hw3 HIb HCo HIf
          have HN1 : Hid (w.heap.size ≤ w1.heap.size) := HB1.out.size
          have HO0 : Hid (Oc.Own w1.heap.size (.slice (some ⟨w1.heap.size, 0, none⟩) 0 0) (prtsB bd md body (t.take 0)) (w1.alloc (.cells #[] 5))) := own_none w1
          have HB2 : Hid (Below w.heap.size w (w1.alloc (.cells #[] 5))) := HB1.out.alloc HB1.out.size _
          go_wp2
          go_loopw [10, 11] (fun ov i wr => ∃ k : Nat, k ≤ t.length ∧ i = .int .i64 k ∧ Hid (Oc.Own w1.heap.size ov (prtsB bd md body (t.take k)) wr) ∧ Hid (∀ j, j < k → isSp (nthN t j) body.length = true) ∧ Hid (Below w.heap.size w wr) ∧ Hid (w1.heap.size ≤ wr.heap.size)) (fun _ i _ => t.length - (intOf i).toNat)
          case atStart => exact ⟨0, Nat.zero_le _, rfl, HO0, (fun j hj => absurd hj (Nat.not_lt_zero _) : ∀ j, j < 0 → _), HB2, (by simp : w1.heap.size ≤ (w1.alloc (.cells #[] 5)).heap.size)⟩
          case round =>
            obtain ⟨k, hk, rfl, hO, hall, hbl, hsz⟩ := hrel
            have HLk : Hid ((prtsB bd md body (t.take k)).length ≤ 4398046511104) := HLn.out k hk hall.out
            by_cases hlt : k < t.length
            · obtain ⟨a', c', e', hcs⟩ := HR.out _ hbl.out
              injection e' with q1 _ q2
              subst q1 q2
              rcases hcs with h | ⟨g, o, rfl, hlc, hcell⟩
              · rw [h] at hlt; simp at hlt
              have HGl : Hid (g < w1.heap.size) := (by
                obtain ⟨a2, c2, e2, hcs2⟩ := HR.out w (Below.refl _ _)
                injection e2 with q1 _ _
                subst q1
                rcases hcs2 with h | ⟨g2, o2, eg, _, hcell2⟩
                · rw [h] at hlt; simp at hlt
                injection eg with eg
                injection eg with eg _
                subst eg
                exact Nat.lt_of_lt_of_le (World.block_lt_of_cell? w _ (hcell2 k hlt).1) HN1.out : _ < _)
              obtain ⟨p0, p1⟩ := hcell k hlt
              have HCl : Hid (∀ W, Below wr.heap.size wr W → W.cell? ⟨g, o + k * 2, none⟩ = some (.int .i64 (nthN t k).1) ∧ W.cell? ⟨g, o + k * 2 + 1, none⟩ = some (.int .i64 (nthN t k).2)) := fun W hb =>
                ⟨(hb.cell (World.block_lt_of_cell? wr _ (hcell k hlt).1)).trans (hcell k hlt).1, (hb.cell (World.block_lt_of_cell? wr _ (hcell k hlt).2)).trans (hcell k hlt).2⟩
              have HTek : Hid (∀ W, _) := HTe.out k hlt
              clear hcell
              cases hsp : isSp (nthN t k) body.length with
              | false =>
                have HPR : Hid (partsR bd md body t = ([], 91)) := HQn.out (allSp_no hlt hsp)
                have htz := HTn.out k hsp
                rw [htz] at HTek
                clear htz hsp HCl
                generalize str (telR (nthN t k) body.length).1 = TL at *
                generalize (nthN t k).1 = X at *
                generalize (nthN t k).2 = Y at *
                go_wp2_with fail
                refine (HTek.out _).mono ?_
                rintro e w5 ⟨rfl, hb⟩
                have HB5 : Hid (Below w.heap.size w w5) := bel_trans hbl.out hb
                clear hb
                go_wp2
                go_ret2
                rw [HPR.out]
                exact ⟨rfl, HB5.out⟩
              | true =>
                obtain ⟨htl, htz⟩ := HTl.out k hlt hsp
                have hpl := HPl.out k hlt hsp
                have HF : Hid (∀ j, j < k + 1 → isSp (nthN t j) body.length = true) := fun j hj => by
                  by_cases e : j = k
                  · rw [e]; exact hsp
                  · exact hall.out j (by omega)
                obtain ⟨i0, i1, i2⟩ : 0 ≤ (nthN t k).1 ∧ (nthN t k).1 < (nthN t k).2 ∧ (nthN t k).2 ≤ (body.length : Int) := of_decide_eq_true hsp
                have HTkk : Hid (prtsB bd md body (t.take (k + 1)) = prtsB bd md body (t.take k) ++ partB bd md body (nthN t k)) := HTk.out k hlt
                obtain ⟨x, hx⟩ : ∃ x : Nat, (nthN t k).1 = (x : Int) := ⟨(nthN t k).1.toNat, by omega⟩
                obtain ⟨y, hy⟩ : ∃ y : Nat, (nthN t k).2 = (y : Int) := ⟨(nthN t k).2.toNat, by omega⟩
                have HEq : Hid (⟨#[13, 10, 45, 45]⟩ ++ str bd ++ ⟨#[13, 10]⟩ ++ ⟨#[67, 111, 110, 116, 101, 110, 116, 45, 84, 121, 112, 101, 58, 32]⟩ ++ str md ++ ⟨#[13, 10]⟩ ++ ⟨#[67, 111, 110, 116, 101, 110, 116, 45, 82, 97, 110, 103, 101, 58, 32]⟩ ++ str (telR (nthN t k) body.length).1 ++ ⟨#[13, 10]⟩ ++ ⟨#[13, 10]⟩ ++ (str body).extract x y = str (partB bd md body (nthN t k))) := (by
                  rw [sub_str]
                  show str [13, 10, 45, 45] ++ str bd ++ str [13, 10] ++ str [67, 111, 110, 116, 101, 110, 116, 45, 84, 121, 112, 101, 58, 32] ++ str md ++ str [13, 10] ++ str [67, 111, 110, 116, 101, 110, 116, 45, 82, 97, 110, 103, 101, 58, 32] ++ str (telR (nthN t k) body.length).1 ++ str [13, 10] ++ str [13, 10] ++ str ((body.drop x).take (y - x)) = _
                  rw [add_str, add_str, add_str, add_str, add_str, add_str, add_str, add_str, add_str, add_str]
                  unfold partB opB mdB rgB
                  rw [hx, hy, Int.toNat_natCast, Int.toNat_natCast]
                  simp only [List.append_assoc] : _ = _)
                rw [htz] at HTek
                rw [hx] at p0 i1 HTek HCl
                rw [hy] at p1 i1 i2 HTek HCl
                have ztl : (str (telR (nthN t k) body.length).1).size ≤ 80 := by rw [str_size]; exact htl
                have zsb : ((str body).extract x y).size ≤ 1048576 := by rw [sub_str, str_size, List.length_take, List.length_drop]; omega
                have hOw : Hid (Oc.Own w1.heap.size _ (prtsB bd md body (t.take k)) wr) := hO
                generalize hPB : partB bd md body (nthN t k) = PB at *
                generalize prtsB bd md body (t.take k) = L0 at *
                generalize str (telR (nthN t k) body.length).1 = TL at *
                clear hx hy i0 htl htz hsp hPB hO
                go_wp2_with fail
                refine (HTek.out _).mono ?_
                rintro e w5 ⟨rfl, hb⟩
                have HB5 : Hid (Below w.heap.size w w5) := bel_trans hbl.out hb
                have HO5 : Hid (Oc.Own w1.heap.size _ L0 w5.drew) := own_below (own_below hOw.out hb) (below_drewN (Below.refl _ w5) 1)
                have HS5 : Hid (w1.heap.size ≤ w5.drew.heap.size) := (Nat.le_trans hsz.out hb.size : _ ≤ _)
                have HB6 : Hid (Below w.heap.size w w5.drew) := below_drewN HB5.out 1
                have HC5 : Hid (w5.drew.cell? ⟨g, o + k * 2, none⟩ = some (.int .i64 (x : Int)) ∧ w5.drew.cell? ⟨g, o + k * 2 + 1, none⟩ = some (.int .i64 (y : Int))) := HCl.out _ (below_drewN hb 1)
                obtain ⟨k1, k2⟩ := HC5.out
                clear hb p0 p1 HCl hOw
                have zq1 : (⟨#[13, 10, 45, 45]⟩ : ByteArray).size = 4 := rfl
                have zq2 : (⟨#[13, 10]⟩ : ByteArray).size = 2 := rfl
                have zq3 : (⟨#[67, 111, 110, 116, 101, 110, 116, 45, 84, 121, 112, 101, 58, 32]⟩ : ByteArray).size = 14 := rfl
                have zq4 : (⟨#[67, 111, 110, 116, 101, 110, 116, 45, 82, 97, 110, 103, 101, 58, 32]⟩ : ByteArray).size = 15 := rfl
                go_wp2_with fail
                generalize hA4 : (⟨#[13, 10, 45, 45]⟩ : ByteArray) = A4 at *
                have GA4 : Hid ((⟨#[13, 10, 45, 45]⟩ : ByteArray) = A4) := hA4
                clear hA4
                generalize hC2 : (⟨#[13, 10]⟩ : ByteArray) = C2 at *
                have GC2 : Hid ((⟨#[13, 10]⟩ : ByteArray) = C2) := hC2
                clear hC2
                generalize hCT : (⟨#[67, 111, 110, 116, 101, 110, 116, 45, 84, 121, 112, 101, 58, 32]⟩ : ByteArray) = CT at *
                have GCT : Hid ((⟨#[67, 111, 110, 116, 101, 110, 116, 45, 84, 121, 112, 101, 58, 32]⟩ : ByteArray) = CT) := hCT
                clear hCT
                generalize hCR : (⟨#[67, 111, 110, 116, 101, 110, 116, 45, 82, 97, 110, 103, 101, 58, 32]⟩ : ByteArray) = CR at *
                have GCR : Hid ((⟨#[67, 111, 110, 116, 101, 110, 116, 45, 82, 97, 110, 103, 101, 58, 32]⟩ : ByteArray) = CR) := hCR
                clear hCR
                generalize hBD : str bd = BD at *
                have GBD : Hid (str bd = BD) := hBD
                clear hBD
                generalize hMD : str md = MD at *
                have GMD : Hid (str md = MD) := hMD
                clear hMD
                generalize hBY : str body = BY at *
                have GBY : Hid (str body = BY) := hBY
                clear hBY
                have hx0 : (x : Int) ≤ (y : Int) := by omega
                have hx1 : (y : Int) ≤ (BY.size : Int) := by omega
                have z0 : ¬ (9223372036854775807 < A4.size + BD.size) := by omega
                have z1 : ¬ (9223372036854775807 < A4.size + BD.size + C2.size) := by omega
                have z2 : ¬ (9223372036854775807 < A4.size + BD.size + C2.size + CT.size) := by omega
                have z3 : ¬ (9223372036854775807 < A4.size + BD.size + C2.size + CT.size + MD.size) := by omega
                have z4 : ¬ (9223372036854775807 < A4.size + BD.size + C2.size + CT.size + MD.size + C2.size) := by omega
                have z5 : ¬ (9223372036854775807 < A4.size + BD.size + C2.size + CT.size + MD.size + C2.size + CR.size) := by omega
                have z6 : ¬ (9223372036854775807 < A4.size + BD.size + C2.size + CT.size + MD.size + C2.size + CR.size + TL.size) := by omega
                have z7 : ¬ (9223372036854775807 < A4.size + BD.size + C2.size + CT.size + MD.size + C2.size + CR.size + TL.size + C2.size) := by omega
                have z8 : ¬ (9223372036854775807 < A4.size + BD.size + C2.size + CT.size + MD.size + C2.size + CR.size + TL.size + C2.size + C2.size) := by omega
                generalize hSB : BY.extract x y = SB at *
                have HSB : Hid (BY.extract x y = SB) := hSB
                have zl : ¬ (9223372036854775807 < A4.size + BD.size + C2.size + CT.size + MD.size + C2.size + CR.size + TL.size + C2.size + C2.size + SB.size) := by omega
                have zl1 : ¬ (9223372036854775807 < A4.size + BD.size + C2.size + CT.size + MD.size + C2.size + CR.size + TL.size + C2.size + C2.size + (min y BY.size - x)) := by omega
                have zl2 : ¬ (9223372036854775807 < A4.size + BD.size + C2.size + CT.size + MD.size + C2.size + CR.size + TL.size + C2.size + C2.size + (y - x)) := by omega
                have hslr : ∀ W : World, (Instr.slice 9 (.string BY) (some (.int .i64 (x : Int))) (some (.int .i64 (y : Int))) none).run Tryd.prog W = .ok (.string SB) W := fun W => by
                  rw [← hSB]
                  have u9 := Tryd.underlying9
                  have hxx : x ≤ y := by omega
                  have hyy : y ≤ BY.size := by omega
                  go_simp
                clear hSB zq1 zq2 zq3 zq4 ztl zsb zb zm hs0
                go_region_held3 (fun W => (W.cell? ⟨g, o + k * 2, none⟩ = some (.int .i64 (x : Int)) ∧ W.cell? ⟨g, o + k * 2 + 1, none⟩ = some (.int .i64 (y : Int)))) (first | with_reducible exact HC5.out) (first
                  | (refine step_appG rfl (.tmp 48) (.tmp 73) rfl w1.heap.size _ L0 _ _ PB HEq.out rfl HO5.out rfl (by have := HLk.out; omega) HS5.out ?_; intro v6 w6 HO6 HB7; have HC5 : Hid (w6.cell? ⟨g, o + k * 2, none⟩ = some (.int .i64 (x : Int)) ∧ w6.cell? ⟨g, o + k * 2 + 1, none⟩ = some (.int .i64 (y : Int))) := (⟨(HB7.out.cell HGl.out).trans HC5.out.1, (HB7.out.cell HGl.out).trans HC5.out.2⟩ : _ ∧ _)))
                have HOn : Hid (Oc.Own w1.heap.size v6 (prtsB bd md body (t.take (k + 1))) w6) := (by rw [HTkk.out]; exact HO6.out : Oc.Own _ _ _ _)
                have HBn6 : Hid (Below w.heap.size w w6) := HB6.out.trans (HB7.out.mono HN1.out)
                have HSn : Hid (w1.heap.size ≤ w6.heap.size) := (Nat.le_trans HS5.out HB7.out.size : _ ≤ _)
                have hBY := GBY.out
                subst hBY
                have hMD := GMD.out
                subst hMD
                have hBD := GBD.out
                subst hBD
                have hCR := GCR.out
                subst hCR
                have hCT := GCT.out
                subst hCT
                have hC2 := GC2.out
                subst hC2
                have hA4 := GA4.out
                subst hA4
                go_wp2
                go_roundw
                case rel => exact ⟨k + 1, by omega, by go_num, HOn, HF, HBn6, HSn⟩
                case measure => simp [intOf]; omega
            · obtain rfl : k = t.length := by omega
              have HPR : Hid (partsR bd md body t = (prtsB bd md body t ++ clB bd, 0)) := HQy.out (allSp_yes hall.out)
              rw [List.take_length] at hO HLk
              have hbk := own_back hO.out
              have HEq : Hid (str (prtsB bd md body t) ++ ⟨#[13, 10]⟩ ++ ⟨#[45, 45]⟩ ++ str bd ++ ⟨#[45, 45]⟩ ++ ⟨#[13, 10]⟩ = str (prtsB bd md body t ++ clB bd)) := (by
                show str (prtsB bd md body t) ++ str [13, 10] ++ str [45, 45] ++ str bd ++ str [45, 45] ++ str [13, 10] = _
                rw [add_str, add_str, add_str, add_str, add_str]
                unfold clB
                simp : _ = _)
              have zp : (str (prtsB bd md body t)).size ≤ 4398046511104 := by rw [str_size]; exact HLk.out
              generalize str (prtsB bd md body t) = PP at *
              have zq1 : (⟨#[45, 45]⟩ : ByteArray).size = 2 := rfl
              have zq2 : (⟨#[13, 10]⟩ : ByteArray).size = 2 := rfl
              clear hs0
              generalize (⟨#[45, 45]⟩ : ByteArray) = D2 at *
              generalize (⟨#[13, 10]⟩ : ByteArray) = C2 at *
              have y1 : ¬ (9223372036854775807 < PP.size + C2.size) := by omega
              have y2 : ¬ (9223372036854775807 < PP.size + C2.size + D2.size) := by omega
              have y3 : ¬ (9223372036854775807 < PP.size + C2.size + D2.size + (str bd).size) := by omega
              have y4 : ¬ (9223372036854775807 < PP.size + C2.size + D2.size + (str bd).size + D2.size) := by omega
              have y5 : ¬ (9223372036854775807 < PP.size + C2.size + D2.size + (str bd).size + D2.size + C2.size) := by omega
              clear zq1 zq2 zp zb zm
              go_wp2
              go_ret2
              rw [HPR.out]
              dsimp only
              rw [← HEq.out]
              exact ⟨rfl, hbl.out⟩

end Sn
end Go.Proofs.YtkaciaiooidohaaDoor

/-
  span: the law's spans.
-/
set_option linter.unusedVariables false
set_option linter.unusedSimpArgs false
namespace Go.Proofs.YtkaciaiooidohaaDoor
open Go.RowKit Go.Shelf
namespace Sn
open Oc Tg Ac

theorem step_appN {ops : Array Oper} {o : Oper} {a : Act} {K : Act → World → Prop} {Q : Exit → Act → World → Prop} {E : Prop} (T S : Nat) (hinfo : (Tryd.prog.info? T).map (fun i => (i.zero, i.size, i.bytes)) = some (some (.agg #[.int .i64 0, .int .i64 0]), 2, 16))
    (hund : Tryd.prog.underlying S = some (.slice T)) (hgd : o.guard = none) (s x : Operand)
    (ho : o.op = .call { callee := .builtin .append, args := #[s, x], argTypes := #[S, S] }) (B : Nat) (v : Value) (t : List Sp) (W : World) (p : Sp) (n1 n2 : Int) (h1 : n1 = p.1) (h2 : n2 = p.2)
    (hs : a.eval s = v) (hown : OwnN T B v t W) (g : Nat) (hx : a.eval x = .slice (some ⟨g, 0, none⟩) 1 1) (hg : g = W.heap.size) (hlen : t.length + 1 ≤ 2147483648) (hB : B ≤ W.heap.size)
    (h : ∀ v' w', OwnN T B v' (t ++ [p]) w' → Below B W w' → K (a.put o.dst v') w') : if Region.wanted o (yielded ops a.tmps) = true then Oper.wp Tryd.prog o a (W.alloc (.cells #[.int .i64 n1, .int .i64 n2] T)) K Q else E := by
  subst h1 h2 hg
  have hw : Region.wanted o (yielded ops a.tmps) = true := by simp [Region.wanted, hgd]
  rw [if_pos hw]
  obtain ⟨i0, hi, hz0, hz1, hz2⟩ := info_parts hinfo
  refine wp_append_own _ s x S ho B T i0 (.agg #[.int .i64 0, .int .i64 0]) 2 16 hund hi hz0 hz1 hz2 rfl (by decide) v t.length _ hs (World.ownsRow.alloc hown _) ⟨W.heap.size, 0, none⟩ 1 1 (encN1 p) hx rfl ?_ ?_ ?_ ?_ ?_ ?_
  · intro j u hj
    unfold encN1 at hj
    match j, hj with
    | 0, hj => simp at hj; subst hj; simp [Addr.add]
    | 1, hj => simp at hj; subst hj; simp [Addr.add]
  · intro u hu
    unfold encN1 at hu
    simp at hu
    rcases hu with rfl | rfl <;> rfl
  · unfold maxLen; omega
  · omega
  · simp; omega
  · intro v' w' h1 h2 _
    refine h v' w' ?_ (((Below.refl B W).alloc hB _).grown h2 (by simp; omega) (fun k hk => (World.ownsRow.lt hown k hk).1))
    unfold OwnN
    rw [encN_snoc, List.length_append]
    exact h1

theorem take_nthN' (t : List Sp) (k : Nat) (h : k < t.length) : t.take (k + 1) = t.take k ++ [nthN t k] := by
  unfold nthN
  rw [List.take_add_one, List.getElem?_eq_getElem h, List.getD_eq_getElem?_getD, List.getElem?_eq_getElem h]; rfl

set_option maxRecDepth 100000 in
set_option maxHeartbeats 4000000 in
theorem spans_any (v : Value) (t : List Sp) (w : World) (h : RdN v t w) (hl : t.length ≤ 16777216) :
    Calls Tryd.prog 6 #[v] w fun e w' => ∃ u, e = .returned u ∧ OwnN 44 w.heap.size u t w' ∧ Below w.heap.size w w' := by
  obtain ⟨a, c, rfl, h⟩ := h
  have HR : Hid (t = [] ∨ ∃ g o, a = some ⟨g, o, none⟩ ∧ t.length ≤ c ∧ ∀ j, j < t.length → w.cell? ⟨g, o + j * 2, none⟩ = some (.int .i64 (nthN t j).1) ∧ w.cell? ⟨g, o + j * 2 + 1, none⟩ = some (.int .i64 (nthN t j).2)) := h
  clear h
  go_enter Tryd.func6, Tryd.ntmps6
  go_wp2
  go_loopw [3, 4] (fun ov i wr => ∃ k : Nat, k ≤ t.length ∧ i = .int .i64 k ∧ Hid (OwnN 44 w.heap.size ov (t.take k) wr) ∧ Hid (Below w.heap.size w wr)) (fun _ i _ => t.length - (intOf i).toNat)
  case atStart => exact ⟨0, Nat.zero_le _, rfl, ownN_empty _ w (Nat.le_refl _), (Below.refl _ w).alloc (Nat.le_refl _) _⟩
  case round =>
    obtain ⟨k, hk, rfl, hown, hbl⟩ := hrel
    have hsz := hbl.out.size
    by_cases hlt : k < t.length
    · rcases HR.out with h | ⟨g, o, rfl, hc, hcell⟩
      · rw [h] at hlt; simp at hlt
      obtain ⟨c0, c1⟩ := hcell k hlt
      have hg : g < w.heap.size := World.block_lt_of_cell? w _ c0
      have d0 : wr.cell? ⟨g, o + k * 2, none⟩ = some (.int .i64 (nthN t k).1) := (hbl.out.cell (p := ⟨g, o + k * 2, none⟩) hg).trans c0
      have d1 : wr.cell? ⟨g, o + k * 2 + 1, none⟩ = some (.int .i64 (nthN t k).2) := (hbl.out.cell (p := ⟨g, o + k * 2 + 1, none⟩) hg).trans c1
      clear hcell c0 c1
      have HTk : Hid (t.take (k + 1) = t.take k ++ [nthN t k]) := take_nthN' t k hlt
      have hlk : (t.take k).length + 1 ≤ 2147483648 := by rw [List.length_take]; omega
      generalize nthN t k = p at *
      obtain ⟨x1, x2⟩ := p
      dsimp only at d0 d1
      have HO1 : Hid (OwnN 44 w.heap.size _ (t.take k) wr.drew) := hown.out.below (below_drewN (Below.refl _ _) 1)
      have HB1 : Hid (Below w.heap.size w wr.drew) := below_drewN hbl.out 1
      have hs1 : w.heap.size ≤ wr.drew.heap.size := hsz
      go_wp2_with fail
      go_region_law (refine step_appN 44 23 infoN2 Tryd.underlying23 rfl (.tmp 12) (.tmp 24) rfl w.heap.size _ (t.take k) _ (x1, x2) _ _ rfl rfl (by simp [Act.eval, Act.put]) HO1.out _ (by simp [Act.eval, Act.put]) rfl hlk hs1 ?_; intro v6 w6 hown6 hb6)
      all_goals
        have HO6 : Hid (OwnN 44 w.heap.size v6 (t.take (k + 1)) w6) := (by rw [HTk.out]; exact hown6 : OwnN 44 w.heap.size v6 (t.take (k + 1)) w6)
        have HB6 : Hid (Below w.heap.size w w6) := HB1.out.trans hb6
        clear hown6 hb6
        go_wp2
        go_roundw
        case rel => exact ⟨k + 1, by omega, by go_num, HO6, HB6⟩
        case measure => simp [intOf]; omega
    · obtain rfl : k = t.length := by omega
      rw [List.take_length] at hown
      go_wp2
      go_ret
      exact ⟨_, rfl, hown.out, hbl.out⟩

end Sn
end Go.Proofs.YtkaciaiooidohaaDoor

/-
  span: awake.
-/
set_option linter.unusedVariables false
set_option linter.unusedSimpArgs false
namespace Go.Proofs.YtkaciaiooidohaaDoor
open Go.RowKit Go.Shelf
namespace Sn
open Oc Tg Ac

set_option maxRecDepth 100000 in
set_option maxHeartbeats 1000000 in
theorem awake_any (w : World) (hw : ML w) :
    Calls Tryd.prog 9 #[] w fun e w' => e = .returned (.bool true) ∧ Below w.heap.size w w' := by
  have h := Parse_any (str [98, 121, 116, 101, 115, 61, 48, 45, 52]) (by decide +kernel) 10 (by omega) (by omega) w hw
  rw [show parR (str [98, 121, 116, 101, 115, 61, 48, 45, 52]).data.toList 10 = ([(0, 5)], 0) by decide +kernel] at h
  have HP : Hid (Calls Tryd.prog 11 #[.string ⟨#[98, 121, 116, 101, 115, 61, 48, 45, 52]⟩, .int .i64 10] w _) := h
  clear h
  have HC : Hid (∀ W, Calls Tryd.prog 21 #[.string ⟨#[104, 101, 108, 108, 111]⟩, .agg #[.int .i64 1, .int .i64 3]] W fun e w' => e = .returned (.tuple #[.string ⟨#[101, 108]⟩, .int .i64 0]) ∧ Below W.heap.size W w') := fun W => by
    have h := Cut_gr (str [104, 101, 108, 108, 111]) (by decide +kernel) 1 3 W
    rw [show cutR (str [104, 101, 108, 108, 111]).data.toList (1, 3) = ([101, 108], 0) by decide +kernel] at h
    exact h.mono fun e w' ⟨h1, h2⟩ => ⟨h1, Grew.below h2⟩
  clear hw
  have HEQ := fun y1 y2 w => eqN 0 5 y1 y2 w
  go_enter Tryd.func9, Tryd.ntmps9
  go_wp2_with fail
  refine HP.out.mono ?_
  rintro e w2 ⟨v, rfl, ho, hb2⟩
  have HB2 : Hid (Below w.heap.size w w2) := hb2
  have HR2 : Hid (RdN v [(0, 5)] w2) := ho.rd
  obtain ⟨va, vc, rfl⟩ := ho.form
  clear ho hb2
  go_wp2_with fail
  refine (HC.out _).mono ?_
  rintro e w3 ⟨rfl, hb3⟩
  have HB3 : Hid (Below w.heap.size w w3) := bel_trans HB2.out hb3
  obtain ⟨a', c', e', hcs⟩ := HR2.out.below hb3
  injection e' with e1 _ e2
  subst e1 e2
  rcases hcs with h | ⟨g, o, rfl, hlc, hcell⟩
  · cases h
  have p0 : w3.cell? ⟨g, o, none⟩ = some (.int .i64 0) := by simpa [nthN] using (hcell 0 (by decide)).1
  have p1 : w3.cell? ⟨g, o + 1, none⟩ = some (.int .i64 5) := by simpa [nthN] using (hcell 0 (by decide)).2
  clear hcell hb3 HR2
  go_wp2
  go_ret
  exact ⟨ret_bool (by simp), HB3.out⟩

end Sn
end Go.Proofs.YtkaciaiooidohaaDoor
