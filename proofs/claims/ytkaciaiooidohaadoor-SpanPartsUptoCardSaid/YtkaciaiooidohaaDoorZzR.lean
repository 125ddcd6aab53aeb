/- Several texts as one. -/
import Derived.Test.YtkaciaiooidohaaDoorZzQ
import Derived.Test.YtkaciaiooidohaaDoorZzN
import Derived.Deep.RegionHeld3
/-
  span.Parts.
-/
set_option linter.unusedVariables false
set_option linter.unusedSimpArgs false
namespace Go.Proofs.YtkaciaiooidohaaDoor
open Go.RowKit Go.Shelf
namespace Sn
open Oc Tg Ac

theorem sub_str (body : List UInt8) (a b : Nat) : (str body).extract a b = str ((body.drop a).take (b - a)) := by
  apply eq_list
  rw [ext_list2, str_list, str_list]

set_option maxRecDepth 100000 in
set_option maxHeartbeats 4000000 in
theorem Parts_any (bd md body : List UInt8) (v : Value) (t : List Sp) (h1 : bd.length ≤ 1048576) (h2 : md.length ≤ 1048576) (h3 : body.length ≤ 1048576) (hn : t.length ≤ 1048576) (w : World) (hrd : RdN v t w) (hml : ML w) (hpw : Pow w) :
    Calls Tryd.prog 14 #[.string (str bd), .string (str md), .string (str body), v] w fun e w' => e = .returned (.tuple #[.string (str (partsR bd md body t).1), .int .i64 (partsR bd md body t).2]) ∧ Below w.heap.size w w' := by
  have zb : (str bd).size ≤ 1048576 := by rw [str_size]; exact h1
  have zm : (str md).size ≤ 1048576 := by rw [str_size]; exact h2
  have zy : (str body).size = body.length := str_size body
  have HIb : Hid (Calls Tryd.prog 30 #[.string (str bd)] w fun e w' => e = .returned (.bool (bndR bd)) ∧ Below w.heap.size w w') := (by have h := isBoundary_any (str bd) (by omega) w; rw [str_list] at h; exact h : Calls _ _ _ _ _)
  have HCo : Hid (∀ W, Below w.heap.size w W → Calls Tryd.prog 31 #[.string (str body), .string (⟨#[45, 45]⟩ ++ str bd)] W fun e w' => e = .returned (.bool (Lib.contains body ([45, 45] ++ bd))) ∧ w' = W) := fun W hb => by
    obtain ⟨m, hm⟩ := hml.below hb
    have h := Tryd.strings_Contains (str body) (str ([45, 45] ++ bd)) m W (by omega) hm
    rw [str_list, str_list] at h
    rw [show (⟨#[45, 45]⟩ : ByteArray) ++ str bd = str ([45, 45] ++ bd) from by rw [← add_str]; rfl]
    exact h
  have HIf : Hid (∀ W, Calls Tryd.prog 32 #[.string (str md)] W fun e w' => e = .returned (.bool (isFld md)) ∧ Below (World.heap W).size W w') := fun W => by have h := IsField_any (str md) (by unfold maxLen; omega) W; rw [str_list] at h; exact h
  have HAs : Hid (∀ W, Below w.heap.size w W → Calls Tryd.prog 16 #[v, .int .i64 (body.length : Int)] W fun e w' => e = .returned (.bool (allSp t body.length)) ∧ Below (World.heap W).size W w') := fun W hb => areSpans_any v t body.length (by omega) W (hrd.below hb)
  have HOp : Hid (∀ W, Calls Tryd.prog 34 #[.string (str bd)] W fun e w' => e = .returned (.string (str (opB bd))) ∧ w' = W) := fun W => opening_any bd h1 W
  have HCl : Hid (∀ W, Calls Tryd.prog 36 #[.string (str bd)] W fun e w' => e = .returned (.string (str (clB bd))) ∧ w' = W) := fun W => closing_any bd h1 W
  have HR : Hid (∀ W, Below w.heap.size w W → RdN v t W) := fun W hb => hrd.below hb
  have HP : Hid (∀ W, Below w.heap.size w W → Pow W) := fun W hb => Oc.Pow.below hpw hb (Nat.le_refl _)
  have hk2 : (⟨#[45, 45]⟩ : ByteArray).size = 2 := rfl
  have hs0 : ¬ (9223372036854775807 < (⟨#[45, 45]⟩ : ByteArray).size + (str bd).size) := by omega
  obtain ⟨a, c, rfl, _⟩ := hrd
  clear hml hpw hk2
  cases hb1 : bndR bd with
  | false =>
    have HQ : Hid (partsR bd md body t = ([], 92)) := (by unfold partsR; rw [if_pos hb1] : partsR bd md body t = _)
    rw [hb1] at HIb
    go_enter Tryd.func14, Tryd.ntmps14
    go_wp2_with fail
    refine HIb.out.mono ?_
    rintro e w1 ⟨rfl, hb⟩
    have HB1 : Hid (Below w.heap.size w w1) := hb
    clear hb
    go_wp2
    go_ret2
    rw [HQ.out]
    exact ⟨rfl, HB1.out⟩
  | true =>
    rw [hb1] at HIb
    cases hb2 : Lib.contains body ([45, 45] ++ bd) with
    | true =>
      have HQ : Hid (partsR bd md body t = ([], 92)) := (by unfold partsR; rw [if_neg (by rw [hb1]; simp), if_pos hb2] : partsR bd md body t = _)
      rw [hb2] at HCo
      go_enter Tryd.func14, Tryd.ntmps14
      go_wp2_with fail
      refine HIb.out.mono ?_
      rintro e w1 ⟨rfl, hb⟩
      have HB1 : Hid (Below w.heap.size w w1) := hb
      clear hb
      go_wp2_with fail
      refine (HCo.out _ HB1.out).mono ?_
      rintro e w2 ⟨rfl, rfl⟩
      go_wp2
      go_ret2
      rw [HQ.out]
      exact ⟨rfl, HB1.out⟩
    | false =>
      rw [hb2] at HCo
      cases hb3 : isFld md with
      | false =>
        have HQ : Hid (partsR bd md body t = ([], 1)) := (by unfold partsR; rw [if_neg (by rw [hb1]; simp), if_neg (by rw [hb2]; simp), if_pos hb3] : partsR bd md body t = _)
        rw [hb3] at HIf
        go_enter Tryd.func14, Tryd.ntmps14
        go_wp2_with fail
        refine HIb.out.mono ?_
        rintro e w1 ⟨rfl, hb⟩
        have HB1 : Hid (Below w.heap.size w w1) := hb
        clear hb
        go_wp2_with fail
        refine (HCo.out _ HB1.out).mono ?_
        rintro e w2 ⟨rfl, hw2⟩
        rw [hw2]
        clear hw2
        go_wp2_with fail
        refine (HIf.out _).mono ?_
        rintro e w3 ⟨rfl, hb⟩
        have HB3 : Hid (Below w.heap.size w w3) := bel_trans HB1.out hb
        clear hb
        go_wp2
        go_ret2
        rw [HQ.out]
        exact ⟨rfl, HB3.out⟩
      | true =>
        rw [hb3] at HIf
        by_cases h0 : t.length = 0
        · have HQ : Hid (partsR bd md body t = ([], 91)) := (by unfold partsR; rw [if_neg (by rw [hb1]; simp), if_neg (by rw [hb2]; simp), if_neg (by rw [hb3]; simp), if_pos h0] : partsR bd md body t = _)
          have e0 : ((t.length : Int) == 0) = true := by simp [h0]
          clear h0
          go_enter Tryd.func14, Tryd.ntmps14
          go_wp2_with fail
          refine HIb.out.mono ?_
          rintro e w1 ⟨rfl, hb⟩
          have HB1 : Hid (Below w.heap.size w w1) := hb
          clear hb
          go_wp2_with fail
          refine (HCo.out _ HB1.out).mono ?_
          rintro e w2 ⟨rfl, hw2⟩
          rw [hw2]
          clear hw2
          go_wp2_with fail
          refine (HIf.out _).mono ?_
          rintro e w3 ⟨rfl, hb⟩
          have HB3 : Hid (Below w.heap.size w w3) := bel_trans HB1.out hb
          clear hb
          go_wp2
          go_ret2
          rw [HQ.out]
          exact ⟨rfl, HB3.out⟩
        · have e0 : ((t.length : Int) == 0) = false := by rw [beq_eq_false_iff_ne]; omega
          cases hb4 : allSp t body.length with
          | false =>
            have HQ : Hid (partsR bd md body t = ([], 91)) := (by unfold partsR; rw [if_neg (by rw [hb1]; simp), if_neg (by rw [hb2]; simp), if_neg (by rw [hb3]; simp), if_neg h0, if_neg (by rw [hb4]; simp)] : partsR bd md body t = _)
            rw [hb4] at HAs
            rw [← zy] at HAs
            clear h0
            go_enter Tryd.func14, Tryd.ntmps14
            go_wp2_with fail
            refine HIb.out.mono ?_
            rintro e w1 ⟨rfl, hb⟩
            have HB1 : Hid (Below w.heap.size w w1) := hb
            clear hb
            go_wp2_with fail
            refine (HCo.out _ HB1.out).mono ?_
            rintro e w2 ⟨rfl, hw2⟩
            rw [hw2]
            clear hw2
            go_wp2_with fail
            refine (HIf.out _).mono ?_
            rintro e w3 ⟨rfl, hb⟩
            have HB3 : Hid (Below w.heap.size w w3) := bel_trans HB1.out hb
            clear hb
            rw [zy] at HAs
            go_wp2_with fail
            refine (HAs.out _ HB3.out).mono ?_
            rintro e w4 ⟨rfl, hb⟩
            have HB4 : Hid (Below w.heap.size w w4) := bel_trans HB3.out hb
            clear hb
            go_wp2
            go_ret2
            rw [HQ.out]
            exact ⟨rfl, HB4.out⟩
          | true =>
            have hall : ∀ x ∈ t, isSp x body.length = true := List.all_eq_true.1 hb4
            have hin : ∀ k, k < t.length → 0 ≤ (nthN t k).1 ∧ (nthN t k).1 < (nthN t k).2 ∧ (nthN t k).2 ≤ (body.length : Int) := fun k hk => of_decide_eq_true (hall _ (by rw [nthN_mem' hk]; exact List.getElem_mem hk))
            have HQ : Hid (partsR bd md body t = (prtsB bd md body t ++ clB bd, 0)) := (by unfold partsR; rw [if_neg (by rw [hb1]; simp), if_neg (by rw [hb2]; simp), if_neg (by rw [hb3]; simp), if_neg h0, if_pos hb4] : partsR bd md body t = _)
            rw [hb4] at HAs
            have HTe : Hid (∀ k, k < t.length → ∀ W, Pow W → Calls Tryd.prog 35 #[.agg #[.int .i64 (nthN t k).1, .int .i64 (nthN t k).2], .int .i64 (body.length : Int)] W fun e w' => e = .returned (.tuple #[.string (str (telR (nthN t k) body.length).1), .int .i64 (telR (nthN t k) body.length).2]) ∧ Below (World.heap W).size W w') := fun k hk W hp => by
              have hh := hin k hk
              exact (Tell_gr (nthN t k).1 (nthN t k).2 body.length (by omega) (by omega) (by omega) (by omega) (by omega) (by omega) W hp).mono (fun e w' ⟨h1, h2⟩ => ⟨h1, Grew.below h2⟩)
            have HLn : Hid (∀ k, k ≤ t.length → (prtsB bd md body (t.take k)).length ≤ 4398046511104) := fun k hk => by
              have := prts_len h1 h2 h3 (t.take k) (fun x hx => hall x (List.mem_of_mem_take hx))
              rw [List.length_take] at this
              omega
            have HTk : Hid (∀ k, k < t.length → prtsB bd md body (t.take (k + 1)) = prtsB bd md body (t.take k) ++ partB bd md body (nthN t k)) := fun k hk => prts_take bd md body t k hk
            have HTl : Hid (∀ k, k < t.length → (telR (nthN t k) body.length).1.length ≤ 80) := fun k hk => by
              have hx : isSp (nthN t k) body.length = true := hall _ (by rw [nthN_mem' hk]; exact List.getElem_mem hk)
              have hh := hin k hk
              unfold telR
              rw [if_pos hx]
              have e1 := extR_len (nthN t k) (by omega) (by omega) (by omega) (by omega)
              have e2 := Lib.itoa_length_le (body.length : Int) (by omega) (by omega)
              simp only [List.length_append, List.length_cons, List.length_nil]
              omega
            have HIn : Hid (∀ k, k < t.length → 0 ≤ (nthN t k).1 ∧ (nthN t k).1 < (nthN t k).2 ∧ (nthN t k).2 ≤ (body.length : Int)) := hin
            have hop : (opB bd).length ≤ 1048582 := by unfold opB; simp; omega
            have hmd : (mdB md).length ≤ 1048592 := by unfold mdB; simp; omega
            have hcl : (clB bd).length ≤ 1048584 := by unfold clB; simp; omega
            have HEm : Hid (⟨#[67, 111, 110, 116, 101, 110, 116, 45, 84, 121, 112, 101, 58, 32]⟩ ++ str md ++ ⟨#[13, 10]⟩ = str (mdB md)) := (by unfold mdB; rw [← add_str, ← add_str]; rfl : _ = _)
            clear h0 hall hin
            go_enter Tryd.func14, Tryd.ntmps14
            go_wp2_with fail
            refine HIb.out.mono ?_
            rintro e w1 ⟨rfl, hb⟩
            have HB1 : Hid (Below w.heap.size w w1) := hb
            clear hb
            go_wp2_with fail
            refine (HCo.out _ HB1.out).mono ?_
            rintro e w2 ⟨rfl, hw2⟩
            rw [hw2]
            clear hw2
            go_wp2_with fail
            refine (HIf.out _).mono ?_
            rintro e w3 ⟨rfl, hb⟩
            have HB3 : Hid (Below w.heap.size w w3) := bel_trans HB1.out hb
            clear hb
            go_wp2_with fail
            refine (HAs.out _ HB3.out).mono ?_
            rintro e w4 ⟨rfl, hb⟩
            have HB4 : Hid (Below w.heap.size w w4) := bel_trans HB3.out hb
            have HN4 : Hid (w.heap.size ≤ w4.heap.size) := HB4.out.size
            clear hb HIb HCo HIf HAs
            have HBd0 : Hid (Bd w4.heap.size w4.heap.size (Lib.byteCells (prtsB bd md body (t.take 0))) (w4.alloc (.cells #[.pointer none, .slice none 0 0] 66))) := Bd.new w4 w4.heap.size
            have HB5 : Hid (Below w.heap.size w (w4.alloc (.cells #[.pointer none, .slice none 0 0] 66))) := HB4.out.alloc HB4.out.size _
            go_wp2
            go_loopw [42] (fun i wr => ∃ k : Nat, k ≤ t.length ∧ i = .int .i64 k ∧ Hid (Bd w4.heap.size w4.heap.size (Lib.byteCells (prtsB bd md body (t.take k))) wr) ∧ Hid (Below w.heap.size w wr)) (fun i _ => t.length - (intOf i).toNat)
            case atStart => exact ⟨0, Nat.zero_le _, rfl, HBd0, HB5⟩
            case round =>
              obtain ⟨k, hk, rfl, hBd, hbl⟩ := hrel
              have HLk : Hid ((prtsB bd md body (t.take k)).length ≤ 4398046511104) := HLn.out k hk
              by_cases hlt : k < t.length
              · obtain ⟨a', c', e', hcs⟩ := HR.out _ hbl.out
                injection e' with q1 _ q2
                subst q1 q2
                rcases hcs with h | ⟨g, o, rfl, hlc, hcell⟩
                · rw [h] at hlt; simp at hlt
                obtain ⟨p0, p1⟩ := hcell k hlt
                obtain ⟨i0, i1, i2⟩ := HIn.out k hlt
                have htl := HTl.out k hlt
                have HTek : Hid (∀ W, Pow W → _) := fun W hp => HTe.out k hlt W hp
                have HTkk : Hid (prtsB bd md body (t.take (k + 1)) = prtsB bd md body (t.take k) ++ partB bd md body (nthN t k)) := HTk.out k hlt
                have HPk : Hid (partB bd md body (nthN t k) = opB bd ++ mdB md ++ rgB (telR (nthN t k) body.length).1 ++ [13, 10] ++ (body.drop (nthN t k).1.toNat).take ((nthN t k).2.toNat - (nthN t k).1.toNat)) := rfl
                have HEr : Hid (⟨#[67, 111, 110, 116, 101, 110, 116, 45, 82, 97, 110, 103, 101, 58, 32]⟩ ++ str (telR (nthN t k) body.length).1 ++ ⟨#[13, 10]⟩ = str (rgB (telR (nthN t k) body.length).1)) := (by unfold rgB; rw [← add_str, ← add_str]; rfl : _ = _)
                have hrg : (rgB (telR (nthN t k) body.length).1).length ≤ 200 := by unfold rgB; simp; omega
                have ztl : (str (telR (nthN t k) body.length).1).size ≤ 80 := by rw [str_size]; exact htl
                clear hcell htl
                generalize (telR (nthN t k) body.length).2 = tz at *
                generalize (telR (nthN t k) body.length).1 = tl at *
                obtain ⟨x, hx⟩ : ∃ x : Nat, (nthN t k).1 = (x : Int) := ⟨(nthN t k).1.toNat, by omega⟩
                obtain ⟨y, hy⟩ : ∃ y : Nat, (nthN t k).2 = (y : Int) := ⟨(nthN t k).2.toNat, by omega⟩
                rw [hx] at p0 i0 i1 HTek HPk
                rw [hy] at p1 i1 i2 HTek HPk
                rw [Int.toNat_natCast, Int.toNat_natCast] at HPk
                have hsl : ((body.drop x).take (y - x)).length ≤ 1048576 := by rw [List.length_take, List.length_drop]; omega
                have HSb : Hid ((str body).extract x y = str ((body.drop x).take (y - x))) := sub_str body x y
                generalize partB bd md body (nthN t k) = PK at *
                clear hx hy
                obtain ⟨wx, hwx⟩ : ∃ wx, wx = wr.alloc (.cells #[.int .i64 (x : Int), .int .i64 (y : Int)] 43) := ⟨_, rfl⟩
                have hbx : Below wr.heap.size wr wx := by rw [hwx]; exact (Below.refl _ wr).alloc (Nat.le_refl _) _
                have HPx : Hid (wx.heap[wr.heap.size]? = some (.cells #[.int .i64 (x : Int), .int .i64 (y : Int)] 43 (0, 0))) := (by rw [hwx]; exact heap_alloc_new wr _ : _ = _)
                have HBx : Hid (Below w.heap.size w wx) := bel_trans hbl.out hbx
                have HDx : Hid (Bd w4.heap.size w4.heap.size (Lib.byteCells (prtsB bd md body (t.take k))) wx) := hBd.out.below hbx
                have HNe : Hid (wr.heap.size ≠ w4.heap.size) := (by have := hBd.out.lt; omega : _ ≠ _)
                generalize prtsB bd md body (t.take k) = L0 at *
                clear hbx
                go_wp2_with fail
                rw [← hwx]
                clear hwx
                refine (HOp.out _).mono ?_
                rintro e w6 ⟨rfl, hw6⟩
                rw [hw6]
                clear hw6
                have HW10 : Hid (Calls _ _ _ wx _) := write_l w4.heap.size (L0) (opB bd) wx HDx.out (by have := HLk.out; (try simp only [List.length_append, List.length_cons, List.length_nil]); omega)
                go_wp2_with fail
                refine HW10.out.mono ?_
                rintro e w10 ⟨rfl, hd, hf, hkt⟩
                have HD10 : Hid (Bd w4.heap.size w4.heap.size (Lib.byteCells (L0 ++ (opB bd))) w10) := hd
                have HB10 : Hid (Below w.heap.size w w10) := HBx.out.trans (hf.below HN4.out HN4.out)
                have HP10 : Hid (w10.heap[wr.heap.size]? = some (.cells #[.int .i64 (x : Int), .int .i64 (y : Int)] 43 (0, 0))) := hkt _ _ _ _ HNe.out (by decide) HPx.out
                clear hd hf hkt HW10 HDx
                have HW11 : Hid (Calls _ _ _ w10 _) := write_l w4.heap.size ((L0 ++ (opB bd))) (mdB md) w10 HD10.out (by have := HLk.out; (try simp only [List.length_append, List.length_cons, List.length_nil]); omega)
                rw [← HEm.out] at HW11
                have hm1 : ¬ (9223372036854775807 < (⟨#[67, 111, 110, 116, 101, 110, 116, 45, 84, 121, 112, 101, 58, 32]⟩ : ByteArray).size + (str md).size) := by have : (⟨#[67, 111, 110, 116, 101, 110, 116, 45, 84, 121, 112, 101, 58, 32]⟩ : ByteArray).size = 14 := rfl; omega
                have hm2 : ¬ (9223372036854775807 < (⟨#[67, 111, 110, 116, 101, 110, 116, 45, 84, 121, 112, 101, 58, 32]⟩ : ByteArray).size + (str md).size + (⟨#[13, 10]⟩ : ByteArray).size) := by have : (⟨#[67, 111, 110, 116, 101, 110, 116, 45, 84, 121, 112, 101, 58, 32]⟩ : ByteArray).size = 14 := rfl; have : (⟨#[13, 10]⟩ : ByteArray).size = 2 := rfl; omega
                go_wp2_with fail
                refine HW11.out.mono ?_
                rintro e w11 ⟨rfl, hd, hf, hkt⟩
                have HD11 : Hid (Bd w4.heap.size w4.heap.size (Lib.byteCells ((L0 ++ (opB bd)) ++ (mdB md))) w11) := hd
                have HB11 : Hid (Below w.heap.size w w11) := HB10.out.trans (hf.below HN4.out HN4.out)
                have HP11 : Hid (w11.heap[wr.heap.size]? = some (.cells #[.int .i64 (x : Int), .int .i64 (y : Int)] 43 (0, 0))) := hkt _ _ _ _ HNe.out (by decide) HP10.out
                clear hd hf hkt HW11 HD10
                have HC12 : Hid (Calls _ _ _ w11 _) := HTek.out w11 (HP.out _ HB11.out)
                have c0 := Lib.cell_of_heap HP11.out 0
                have c1 := Lib.cell_of_heap HP11.out 1
                simp at c0 c1
                go_wp2_with fail
                refine HC12.out.mono ?_
                rintro e w12 ⟨rfl, hb12⟩
                have HB12 : Hid (Below w.heap.size w w12) := bel_trans HB11.out hb12
                have HD12 : Hid (Bd w4.heap.size w4.heap.size (Lib.byteCells (((L0 ++ (opB bd)) ++ (mdB md)))) w12) := HD11.out.below hb12
                have HP12 : Hid (w12.heap[wr.heap.size]? = some (.cells #[.int .i64 (x : Int), .int .i64 (y : Int)] 43 (0, 0))) := (hb12.block _ (Array.getElem?_eq_some_iff.1 HP11.out).1).trans HP11.out
                clear hb12 HC12 c0 c1 HD11
                have HW13 : Hid (Calls _ _ _ w12 _) := write_l w4.heap.size (((L0 ++ (opB bd)) ++ (mdB md))) (rgB tl) w12 HD12.out (by have := HLk.out; (try simp only [List.length_append, List.length_cons, List.length_nil]); omega)
                rw [← HEr.out] at HW13
                have hr1 : ¬ (9223372036854775807 < (⟨#[67, 111, 110, 116, 101, 110, 116, 45, 82, 97, 110, 103, 101, 58, 32]⟩ : ByteArray).size + (str tl).size) := by have : (⟨#[67, 111, 110, 116, 101, 110, 116, 45, 82, 97, 110, 103, 101, 58, 32]⟩ : ByteArray).size = 15 := rfl; omega
                have hr2 : ¬ (9223372036854775807 < (⟨#[67, 111, 110, 116, 101, 110, 116, 45, 82, 97, 110, 103, 101, 58, 32]⟩ : ByteArray).size + (str tl).size + (⟨#[13, 10]⟩ : ByteArray).size) := by have : (⟨#[67, 111, 110, 116, 101, 110, 116, 45, 82, 97, 110, 103, 101, 58, 32]⟩ : ByteArray).size = 15 := rfl; have : (⟨#[13, 10]⟩ : ByteArray).size = 2 := rfl; omega
                go_wp2_with fail
                refine HW13.out.mono ?_
                rintro e w13 ⟨rfl, hd, hf, hkt⟩
                have HD13 : Hid (Bd w4.heap.size w4.heap.size (Lib.byteCells (((L0 ++ (opB bd)) ++ (mdB md)) ++ (rgB tl))) w13) := hd
                have HB13 : Hid (Below w.heap.size w w13) := HB12.out.trans (hf.below HN4.out HN4.out)
                have HP13 : Hid (w13.heap[wr.heap.size]? = some (.cells #[.int .i64 (x : Int), .int .i64 (y : Int)] 43 (0, 0))) := hkt _ _ _ _ HNe.out (by decide) HP12.out
                clear hd hf hkt HW13 HD12
                have HW14 : Hid (Calls _ _ _ w13 _) := write_l w4.heap.size ((((L0 ++ (opB bd)) ++ (mdB md)) ++ (rgB tl))) ([13, 10]) w13 HD13.out (by have := HLk.out; (try simp only [List.length_append, List.length_cons, List.length_nil]); omega)
                go_wp2_with fail
                refine HW14.out.mono ?_
                rintro e w14 ⟨rfl, hd, hf, hkt⟩
                have HD14 : Hid (Bd w4.heap.size w4.heap.size (Lib.byteCells ((((L0 ++ (opB bd)) ++ (mdB md)) ++ (rgB tl)) ++ ([13, 10]))) w14) := hd
                have HB14 : Hid (Below w.heap.size w w14) := HB13.out.trans (hf.below HN4.out HN4.out)
                have HP14 : Hid (w14.heap[wr.heap.size]? = some (.cells #[.int .i64 (x : Int), .int .i64 (y : Int)] 43 (0, 0))) := hkt _ _ _ _ HNe.out (by decide) HP13.out
                clear hd hf hkt HW14 HD13
                have c0 := Lib.cell_of_heap HP14.out 0
                have c1 := Lib.cell_of_heap HP14.out 1
                simp at c0 c1
                have HW15 : Hid (Calls _ _ _ w14 _) := write_l w4.heap.size (((((L0 ++ (opB bd)) ++ (mdB md)) ++ (rgB tl)) ++ ([13, 10]))) ((body.drop x).take (y - x)) w14 HD14.out (by have := HLk.out; (try simp only [List.length_append, List.length_cons, List.length_nil]); omega)
                rw [← HSb.out] at HW15
                go_wp2_with fail
                refine HW15.out.mono ?_
                rintro e w15 ⟨rfl, hd, hf, hkt⟩
                have HD15 : Hid (Bd w4.heap.size w4.heap.size (Lib.byteCells (((((L0 ++ (opB bd)) ++ (mdB md)) ++ (rgB tl)) ++ ([13, 10])) ++ ((body.drop x).take (y - x)))) w15) := hd
                have HB15 : Hid (Below w.heap.size w w15) := HB14.out.trans (hf.below HN4.out HN4.out)
                have HP15 : Hid (w15.heap[wr.heap.size]? = some (.cells #[.int .i64 (x : Int), .int .i64 (y : Int)] 43 (0, 0))) := hkt _ _ _ _ HNe.out (by decide) HP14.out
                clear hd hf hkt HW15 HD14
                have HDn : Hid (Bd w4.heap.size w4.heap.size (Lib.byteCells (prtsB bd md body (t.take (k + 1)))) w15) := (by rw [HTkk.out, HPk.out]; simpa only [List.append_assoc] using HD15.out : Bd _ _ _ _)
                go_wp2
                go_roundw
                case rel => exact ⟨k + 1, by omega, by go_num, HDn, HB15⟩
                case measure => simp [intOf]; omega
              · obtain rfl : k = t.length := by omega
                rw [List.take_length] at hBd HLk
                have HWc : Hid (Calls _ _ _ wr _) := write_l w4.heap.size (prtsB bd md body t) (clB bd) wr hBd.out (by have := HLk.out; omega)
                go_wp2_with fail
                refine (HCl.out _).mono ?_
                rintro e w6 ⟨rfl, hw6⟩
                rw [hw6]
                clear hw6
                go_wp2_with fail
                refine HWc.out.mono ?_
                rintro e w7 ⟨rfl, hd7, hf7, _⟩
                have HB7 : Hid (Below w.heap.size w w7) := hbl.out.trans (hf7.below HN4.out HN4.out)
                have HSt : Hid (Calls _ _ _ w7 _) := String_bd w4.heap.size w4.heap.size (prtsB bd md body t ++ clB bd) w7 hd7 (Nat.le_of_lt hd7.lt)
                clear hd7 hf7
                go_wp2_with fail
                refine HSt.out.mono ?_
                rintro e w8 ⟨rfl, hb8, _⟩
                have HB8 : Hid (Below w.heap.size w w8) := HB7.out.trans (hb8.mono (by rw [Nat.min_self]; exact HN4.out))
                clear hb8
                go_wp2
                go_ret2
                rw [HQ.out]
                exact ⟨rfl, HB8.out⟩

end Sn
end Go.Proofs.YtkaciaiooidohaaDoor

/-
  A marked row of six bytes; appends of bytes.
-/
set_option linter.unusedVariables false
set_option linter.unusedSimpArgs false
namespace Go.Proofs.YtkaciaiooidohaaDoor
open Go.RowKit Go.Shelf
namespace Sn
open Oc Tg Ac

theorem wp_appG2 {ops : Array Oper} {rest : List Oper} {o : Oper} {a : Act} {Q : Exit → Act → World → Prop} (hgd : o.guard = none) (s x : Operand)
    (ho : o.op = .call { callee := .builtin .append, args := #[s, x], argTypes := #[48, 9] }) (B : Nat) (v : Value) (l : List UInt8) (W : World) (y : ByteArray) (m : List UInt8) (hy : y = str m)
    (hs : a.eval s = v) (hown : Own B v l W) (hx : a.eval x = .string y) (hlen : l.length + m.length ≤ 140737488355328) (hB : B ≤ W.heap.size)
    (h : ∀ v' w', Own B v' (l ++ m) w' → Below B W w' → wpList Tryd.prog ops Q rest (a.put o.dst v') w') : wpList Tryd.prog ops Q (o :: rest) a W := by
  subst hy
  obtain ⟨i0, hi, hz0, hz1, hz2⟩ := info5
  refine Lib.wpList_append_own_string _ hgd s x 48 9 ho B 5 i0 Tryd.underlying48 Tryd.underlying9 hi hz0 hz1 hz2 v l.length _ hs hown (str m) hx ?_ ?_ ?_ ?_
  · rw [str_size]; unfold maxLen; omega
  · rw [str_size]; omega
  · exact hB
  · intro v' w' h1 h2 _
    rw [Lib.strCells_eq, str_list, ← Lib.byteCells_append, str_size] at h1
    refine h v' w' ?_ ((Below.refl B W).grown h2 hB (fun k hk => (World.ownsRow.lt hown k hk).1))
    unfold Own
    rw [List.length_append]
    exact h1
theorem own_below {B : Nat} {v : Value} {l : List UInt8} {w w' : World} (h : Own B v l w) (b : Below w.heap.size w w') : Own B v l w' := by
  refine ⟨h.1, ?_⟩
  rcases h.2 with hn | ⟨g, cap, cur, rfl, hb, hg, rest⟩
  · exact .inl hn
  · refine .inr ⟨g, cap, cur, rfl, hb, ?_, rest⟩
    rw [b.block g (Array.getElem?_eq_some_iff.1 hg).1]
    exact hg
theorem own_six (w : World) : Own w.heap.size (.slice (some ⟨w.heap.size, 0, none⟩) 6 6) [98, 121, 116, 101, 115, 61] (w.alloc (.cells #[.int .u8 98, .int .u8 121, .int .u8 116, .int .u8 101, .int .u8 115, .int .u8 61] 5)) :=
  ⟨by simp [Lib.byteCells], .inr ⟨w.heap.size, 6, _, rfl, Nat.le_refl _, heap_alloc_new w _, by decide, by decide, by simp, by simp [Lib.byteCells]⟩⟩
def six : List UInt8 := [98, 121, 116, 101, 115, 61]
def cSix : Array Value := #[.int .u8 98, .int .u8 121, .int .u8 116, .int .u8 101, .int .u8 115, .int .u8 61]
/-- The row that '[]byte("bytes=")' lays: marked. -/
def W6 (w : World) : World := (w.alloc (.cells cSix 5)).freeze ⟨w.heap.size, 6, none⟩ 1
theorem conv_six (w : World) : (convert 48 48 (.slice (some ⟨w.heap.size, 0, none⟩) 6 6)).run Tryd.prog (w.alloc (.cells #[.int .u8 98, .int .u8 121, .int .u8 116, .int .u8 101, .int .u8 115, .int .u8 61] 5)) = .ok (.slice (some ⟨w.heap.size, 0, none⟩) 6 6) (W6 w) := by
  have hs : (w.alloc (.cells cSix 5)).heap[w.heap.size]? = some (.cells cSix 5 (0, 0)) := heap_alloc_new w _
  show (convert 48 48 (.slice (some ⟨w.heap.size, 0, none⟩) 6 6)).run Tryd.prog (w.alloc (.cells cSix 5)) = _
  have h6 : cSix.size = 6 := rfl
  have hsh : (w.alloc (.cells cSix 5)).shape? w.heap.size = some (5, 6) := by unfold World.shape?; rw [hs]; rfl
  simp [convert, run_underlying Tryd.underlying48, run_underlying Tryd.underlying5, Result.andThen, markStringish, hsh, W6]
theorem at_six (w : World) : (W6 w).heap[w.heap.size]? = some (.cells cSix 5 (6, 7)) := by
  have hs : (w.alloc (.cells cSix 5)).heap[w.heap.size]? = some (.cells cSix 5 (0, 0)) := heap_alloc_new w _
  simp [W6, World.freeze, World.alloc, -World.alloc_eq]
  rw [Array.getElem_modify_self]
  simp
theorem cells_six (w : World) : ∀ (j : Nat) (v : Value), (Lib.byteCells six)[j]? = some v → (W6 w).cell? ⟨w.heap.size, j, none⟩ = some v := fun j v hj => by
  have h := Lib.cell_of_heap (at_six w) j
  have e : cSix = (Lib.byteCells six).toArray := by simp [cSix, six, Lib.byteCells]
  rw [h, e, ← hj]
  simp
theorem below_six (w : World) : Below w.heap.size w (W6 w) := Lib.below_freeze ((Below.refl _ w).alloc (Nat.le_refl _) _) (Nat.le_refl _) _
/-- A text appended to that row, which is full: a row of the call's own. -/
theorem wp_six {ops : Array Oper} {rest : List Oper} {o : Oper} {a : Act} {Q : Exit → Act → World → Prop} (hgd : o.guard = none) (s x : Operand)
    (ho : o.op = .call { callee := .builtin .append, args := #[s, x], argTypes := #[48, 9] }) (B g : Nat) (W : World) (y : ByteArray) (m : List UInt8) (hy : y = str m)
    (hs : a.eval s = .slice (some ⟨g, 0, none⟩) 6 6) (hc : ∀ (j : Nat) (v : Value), (Lib.byteCells six)[j]? = some v → W.cell? ⟨g, j, none⟩ = some v) (hx : a.eval x = .string y) (hm : 0 < m.length) (hlen : m.length ≤ 43) (hB : B ≤ W.heap.size)
    (h : ∀ v' w', Own B v' (six ++ m) w' → Below B W w' → wpList Tryd.prog ops Q rest (a.put o.dst v') w') : wpList Tryd.prog ops Q (o :: rest) a W := by
  subst hy
  obtain ⟨i0, hi, hz0, hz1, hz2⟩ := info5
  have hsz : (str m).size = m.length := str_size m
  have hrun := Lib.run_append_grow_string (P := Tryd.prog) (w := W) 48 9 o.type 5 i0 (.int .u8 0) Tryd.underlying48 Tryd.underlying9 hi hz0 ⟨g, 0, none⟩ 6 6 (Lib.byteCells six) (by rw [hz1]; rfl) (fun j v hj => by rw [Addr.add_lit, Nat.zero_add]; exact hc j v hj) (str m) (by omega) (by omega) (by
    rw [hz2]
    have := nextslicecap_le (show 6 < 6 + (str m).size by omega)
    omega)
  have hge := grownCap_ge W (6 + (str m).size) 6 5
  have hcm : grownCap W (6 + (str m).size) 6 5 ≤ maxLen := grownCap_le_maxLen W (6 + (str m).size) 6 5 (by unfold maxLen; omega)
  generalize hcap : grownCap W (6 + (str m).size) 6 5 = cap at *
  have hown : Own B (.slice (some ⟨W.heap.size, 0, none⟩) (6 + (str m).size) cap) (six ++ m) (W.drew.alloc (.cells ((Lib.byteCells six).toArray ++ (Lib.strCells (str m)).toArray ++ Builtin.zeroCells (Value.int .u8 0).cells (cap - (6 + (str m).size))) 5)) := by
    have e : Lib.byteCells (six ++ m) = Lib.byteCells six ++ Lib.strCells (str m) := by rw [Lib.byteCells_append, Lib.strCells_eq, str_list]
    have l6 : (Lib.byteCells six).length = 6 := rfl
    have lm : (Lib.strCells (str m)).length = m.length := by rw [Lib.strCells_length, hsz]
    have ln : (six ++ m).length = 6 + m.length := by rw [List.length_append]; rfl
    refine ⟨by rw [e, List.length_append, l6, lm, ln]; omega, .inr ⟨W.heap.size, cap, _, by rw [ln, hsz], hB, heap_alloc_new W.drew _, by rw [ln]; omega, hcm, ?_, ?_⟩⟩
    · simp only [Array.size_append, List.size_toArray, size_zeroCells, l6, lm]
      have : (Value.int IntKind.u8 0).cells.size = 1 := rfl
      rw [this]
      omega
    · rw [e, ln]
      simp only [Array.toList_append, List.append_assoc]
      rw [← List.append_assoc]
      have : (6 + m.length) * 1 = (Lib.byteCells six ++ Lib.strCells (str m)).length := by rw [List.length_append, l6, lm]; omega
      rw [this]
      exact List.take_left
  have hbel : Below B W (W.drew.alloc (.cells ((Lib.byteCells six).toArray ++ (Lib.strCells (str m)).toArray ++ Builtin.zeroCells (Value.int .u8 0).cells (cap - (6 + (str m).size))) 5)) := (below_drewN (Below.refl B W) 1).alloc hB _
  have := h _ _ hown hbel
  generalize W.drew.alloc (.cells ((Lib.byteCells six).toArray ++ (Lib.strCells (str m)).toArray ++ Builtin.zeroCells (Value.int .u8 0).cells (cap - (6 + (str m).size))) 5) = Wn at *
  refine wpList_plain hgd fun K' hK' => ?_
  unfold Oper.wp
  simp [execOp, ho, resolve, invoke, builtin, hs, hx, hrun, Result.andThen]
  exact hK' _ _ this

end Sn
end Go.Proofs.YtkaciaiooidohaaDoor

/-
  The document's Parts.
-/
set_option linter.unusedVariables false
set_option linter.unusedSimpArgs false
namespace Go.Proofs.YtkaciaiooidohaaDoor
open Go.RowKit Go.Shelf
namespace Sn
open Oc Tg Ac

theorem step_appG {ops : Array Oper} {o : Oper} {a : Act} {K : Act → World → Prop} {Q : Exit → Act → World → Prop} {E' : Prop} (hgd : o.guard = none) (s x : Operand)
    (ho : o.op = .call { callee := .builtin .append, args := #[s, x], argTypes := #[48, 9] }) (B : Nat) (v : Value) (l : List UInt8) (W : World) (y : ByteArray) (m : List UInt8) (hy : y = str m)
    (hs : a.eval s = v) (hown : Oc.Own B v l W) (hx : a.eval x = .string y) (hlen : l.length + m.length ≤ 140737488355328) (hB : B ≤ W.heap.size)
    (h : ∀ v' w', Hid (Oc.Own B v' (l ++ m) w') → Hid (Below B W w') → K (a.put o.dst v') w') :
    if Region.wanted o (yielded ops a.tmps) = true then Oper.wp Tryd.prog o a W K Q else E' := by
  rw [if_pos (by simp [Region.wanted, hgd])]
  subst hy
  obtain ⟨i0, hi, hz0, hz1, hz2⟩ := info5
  obtain ⟨v', w', hrun, h1, h2, _⟩ := Lib.run_append_own_string (P := Tryd.prog) (w := W) B 48 9 o.type 5 i0 Tryd.underlying48 Tryd.underlying9 hi hz0 hz1 hz2 v l.length _ hown (str m) (by rw [str_size]; unfold maxLen; omega) (by rw [str_size]; omega) hB
  rw [Lib.strCells_eq, str_list, ← Lib.byteCells_append, str_size] at h1
  have ho' : Oc.Own B v' (l ++ m) w' := by
    unfold Oc.Own
    rw [List.length_append]
    exact h1
  have hb' : Below B W w' := (Below.refl B W).grown h2 hB (fun k hk => (World.ownsRow.lt hown k hk).1)
  unfold Oper.wp
  simp [execOp, ho, resolve, invoke, builtin, hs, hx, hrun, Result.andThen]
  exact h v' w' ho' hb'
theorem own_none (w : World) : Oc.Own w.heap.size (.slice (some ⟨w.heap.size, 0, none⟩) 0 0) [] (w.alloc (.cells #[] 5)) :=
  ⟨by simp [Lib.byteCells], .inr ⟨w.heap.size, 0, #[], rfl, Nat.le_refl _, heap_alloc_new w _, by simp, by decide, by simp, by simp [Lib.byteCells]⟩⟩

set_option maxRecDepth 100000 in
set_option maxHeartbeats 4000000 in
theorem rParts_any (bd md body : List UInt8) (v : Value) (t : List Sp) (h1 : bd.length ≤ 1048576) (h2 : md.length ≤ 1048576) (h3 : body.length ≤ 1048576) (hn : t.length ≤ 1048576) (hbn : ∀ k, k < t.length → -9223372036854775808 ≤ (nthN t k).1 ∧ (nthN t k).1 ≤ 9223372036854775807 ∧ -9223372036854775808 ≤ (nthN t k).2 ∧ (nthN t k).2 ≤ 9223372036854775807) (w : World) (hrd : RdN v t w) :
    Calls Tryd.prog 15 #[.string (str bd), .string (str md), .string (str body), v] w fun e w' => e = .returned (.tuple #[.string (str (partsR bd md body t).1), .int .i64 (partsR bd md body t).2]) ∧ Below w.heap.size w w' := by
  have HBn : Hid (∀ k, k < t.length → -9223372036854775808 ≤ (nthN t k).1 ∧ (nthN t k).1 ≤ 9223372036854775807 ∧ -9223372036854775808 ≤ (nthN t k).2 ∧ (nthN t k).2 ≤ 9223372036854775807) := hbn
  have zb : (str bd).size ≤ 1048576 := by rw [str_size]; exact h1
  have zm : (str md).size ≤ 1048576 := by rw [str_size]; exact h2
  have zy : (str body).size = body.length := str_size body
  have HIb : Hid (Calls Tryd.prog 38 #[.string (str bd)] w fun e w' => e = .returned (.bool (bndR bd)) ∧ Below w.heap.size w w') := (by have h := rIsMark_any (str bd) (by omega) w; rw [str_list] at h; exact h : Calls _ _ _ _ _)
  have HCo : Hid (∀ W, Calls Tryd.prog 28 #[.string (str body), .string (⟨#[45, 45]⟩ ++ str bd)] W fun e w' => e = .returned (.bool (Lib.contains body ([45, 45] ++ bd))) ∧ w' = W) := fun W => by
    have h := Stands_any (str body) (str ([45, 45] ++ bd)) (by omega) (by rw [str_size]; simp) (by rw [str_size]; simp; omega) W
    rw [str_list, str_list] at h
    rw [show (⟨#[45, 45]⟩ : ByteArray) ++ str bd = str ([45, 45] ++ bd) from by rw [← add_str]; rfl]
    exact h
  have HIf : Hid (∀ W, Calls Tryd.prog 39 #[.string (str md)] W fun e w' => e = .returned (.bool (isFld md)) ∧ w' = W) := fun W => by have h := rIsField_any (str md) (by unfold maxLen; omega) W; rw [str_list] at h; exact h
  have HR : Hid (∀ W, Below w.heap.size w W → RdN v t W) := fun W hb => hrd.below hb
  have hk2 : (⟨#[45, 45]⟩ : ByteArray).size = 2 := rfl
  have hs0 : ¬ (9223372036854775807 < (⟨#[45, 45]⟩ : ByteArray).size + (str bd).size) := by omega
  obtain ⟨a, c, rfl, _⟩ := hrd
  clear hk2
  cases hb1 : bndR bd with
  | false =>
    have HQ : Hid (partsR bd md body t = ([], 92)) := (by unfold partsR; rw [if_pos hb1] : partsR bd md body t = _)
    rw [hb1] at HIb
    go_enter Tryd.func15, Tryd.ntmps15
    go_wp2_with fail
    refine HIb.out.mono ?_
    rintro e w1 ⟨rfl, hb⟩
    have HB1 : Hid (Below w.heap.size w w1) := hb
    clear hb
    go_wp2
    go_ret2
    rw [HQ.out]
    exact ⟨rfl, HB1.out⟩
  | true =>
    rw [hb1] at HIb
    cases hb2 : Lib.contains body ([45, 45] ++ bd) with
    | true =>
      have HQ : Hid (partsR bd md body t = ([], 92)) := (by unfold partsR; rw [if_neg (by rw [hb1]; simp), if_pos hb2] : partsR bd md body t = _)
      rw [hb2] at HCo
      go_enter Tryd.func15, Tryd.ntmps15
      go_wp2_with fail
      refine HIb.out.mono ?_
      rintro e w1 ⟨rfl, hb⟩
      have HB1 : Hid (Below w.heap.size w w1) := hb
      clear hb
      go_wp2_with fail
      refine (HCo.out _).mono ?_
      rintro e w2 ⟨rfl, rfl⟩
      go_wp2
      go_ret2
      rw [HQ.out]
      exact ⟨rfl, HB1.out⟩
    | false =>
      rw [hb2] at HCo
      cases hb3 : isFld md with
      | false =>
        have HQ : Hid (partsR bd md body t = ([], 1)) := (by unfold partsR; rw [if_neg (by rw [hb1]; simp), if_neg (by rw [hb2]; simp), if_pos hb3] : partsR bd md body t = _)
        rw [hb3] at HIf
        go_enter Tryd.func15, Tryd.ntmps15
        go_wp2_with fail
        refine HIb.out.mono ?_
        rintro e w1 ⟨rfl, hb⟩
        have HB1 : Hid (Below w.heap.size w w1) := hb
        clear hb
        go_wp2_with fail
        refine (HCo.out _).mono ?_
        rintro e w2 ⟨rfl, hw2⟩
        rw [hw2]
        clear hw2
        go_wp2_with fail
        refine (HIf.out _).mono ?_
        rintro e w3 ⟨rfl, hw3⟩
        rw [hw3]
        clear hw3
        go_wp2
        go_ret2
        rw [HQ.out]
        exact ⟨rfl, HB1.out⟩
      | true =>
        rw [hb3] at HIf
        by_cases h0 : t.length = 0
        · have HQ : Hid (partsR bd md body t = ([], 91)) := (by unfold partsR; rw [if_neg (by rw [hb1]; simp), if_neg (by rw [hb2]; simp), if_neg (by rw [hb3]; simp), if_pos h0] : partsR bd md body t = _)
          have e0 : ((t.length : Int) == 0) = true := by simp [h0]
          clear h0
          go_enter Tryd.func15, Tryd.ntmps15
          go_wp2_with fail
          refine HIb.out.mono ?_
          rintro e w1 ⟨rfl, hb⟩
          have HB1 : Hid (Below w.heap.size w w1) := hb
          clear hb
          go_wp2_with fail
          refine (HCo.out _).mono ?_
          rintro e w2 ⟨rfl, hw2⟩
          rw [hw2]
          clear hw2
          go_wp2_with fail
          refine (HIf.out _).mono ?_
          rintro e w3 ⟨rfl, hw3⟩
          rw [hw3]
          clear hw3
          go_wp2
          go_ret2
          rw [HQ.out]
          exact ⟨rfl, HB1.out⟩
        · have e0 : ((t.length : Int) == 0) = false := by rw [beq_eq_false_iff_ne]; omega
          have HQn : Hid (allSp t body.length = false → partsR bd md body t = ([], 91)) := (fun h => by unfold partsR; rw [if_neg (by rw [hb1]; simp), if_neg (by rw [hb2]; simp), if_neg (by rw [hb3]; simp), if_neg h0, if_neg (by rw [h]; simp)] : _ → partsR bd md body t = _)
          have HQy : Hid (allSp t body.length = true → partsR bd md body t = (prtsB bd md body t ++ clB bd, 0)) := (fun h => by unfold partsR; rw [if_neg (by rw [hb1]; simp), if_neg (by rw [hb2]; simp), if_neg (by rw [hb3]; simp), if_neg h0, if_pos h] : _ → partsR bd md body t = _)
          have HTe : Hid (∀ k, k < t.length → (∀ W, Calls Tryd.prog 40 #[.agg #[.int .i64 (nthN t k).1, .int .i64 (nthN t k).2], .int .i64 (body.length : Int)] W fun e w' => e = .returned (.tuple #[.string (str (telR (nthN t k) body.length).1), .int .i64 (telR (nthN t k) body.length).2]) ∧ Below (World.heap W).size W w')) := fun k hk W => by
            have hh := HBn.out k hk
            exact (rTell_gr (nthN t k).1 (nthN t k).2 body.length (by omega) (by omega) (by omega) (by omega) (by omega) (by omega) W).mono (fun e w' ⟨h1, h2⟩ => ⟨h1, Grew.below h2⟩)
          have HLn : Hid (∀ k, k ≤ t.length → (∀ j, j < k → isSp (nthN t j) body.length = true) → (prtsB bd md body (t.take k)).length ≤ 4398046511104) := fun k hk ha => by
            have := prts_len h1 h2 h3 (t.take k) (fun x hx => by
              obtain ⟨j, hj, rfl⟩ := List.mem_iff_getElem.1 hx
              rw [List.length_take] at hj
              rw [List.getElem_take, ← nthN_mem' (show j < t.length by omega)]
              exact ha j (by omega))
            rw [List.length_take] at this
            omega
          have HTk : Hid (∀ k, k < t.length → prtsB bd md body (t.take (k + 1)) = prtsB bd md body (t.take k) ++ partB bd md body (nthN t k)) := fun k hk => prts_take bd md body t k hk
          have HTl : Hid (∀ k, k < t.length → isSp (nthN t k) body.length = true → (telR (nthN t k) body.length).1.length ≤ 80 ∧ (telR (nthN t k) body.length).2 = 0) := fun k hk hx => by
            have hh : 0 ≤ (nthN t k).1 ∧ (nthN t k).1 < (nthN t k).2 ∧ (nthN t k).2 ≤ (body.length : Int) := of_decide_eq_true hx
            unfold telR
            rw [if_pos hx]
            have e1 := extR_len (nthN t k) (by omega) (by omega) (by omega) (by omega)
            have e2 := Lib.itoa_length_le (body.length : Int) (by omega) (by omega)
            simp only [List.length_append, List.length_cons, List.length_nil]
            exact ⟨by omega, by first | rfl | trivial⟩
          have HTn : Hid (∀ k, isSp (nthN t k) body.length = false → (telR (nthN t k) body.length).2 = 91) := fun k hx => by
            unfold telR
            rw [if_neg (by rw [hx]; simp)]
          have HPl : Hid (∀ k, k < t.length → isSp (nthN t k) body.length = true → (partB bd md body (nthN t k)).length ≤ 4194304) := fun k hk hx => part_len h1 h2 h3 hx
          go_enter Tryd.func15, Tryd.ntmps15
          go_wp2_with fail
          refine HIb.out.mono ?_
          rintro e w1 ⟨rfl, hb⟩
          have HB1 : Hid (Below w.heap.size w w1) := hb
          clear hb
          go_wp2_with fail
          refine (HCo.out _).mono ?_
          rintro e w2 ⟨rfl, hw2⟩
          rw [hw2]
          clear hw2
          go_wp2_with fail
          refine (HIf.out _).mono ?_
          rintro e w3 ⟨rfl, hw3⟩
          rw [hw3]
          clear hw3 HIb HCo HIf
          have HN1 : Hid (w.heap.size ≤ w1.heap.size) := HB1.out.size
          have HO0 : Hid (Oc.Own w1.heap.size (.slice (some ⟨w1.heap.size, 0, none⟩) 0 0) (prtsB bd md body (t.take 0)) (w1.alloc (.cells #[] 5))) := own_none w1
          have HB2 : Hid (Below w.heap.size w (w1.alloc (.cells #[] 5))) := HB1.out.alloc HB1.out.size _
          go_wp2
          go_loopw [10, 11] (fun ov i wr => ∃ k : Nat, k ≤ t.length ∧ i = .int .i64 k ∧ Hid (Oc.Own w1.heap.size ov (prtsB bd md body (t.take k)) wr) ∧ Hid (∀ j, j < k → isSp (nthN t j) body.length = true) ∧ Hid (Below w.heap.size w wr) ∧ Hid (w1.heap.size ≤ wr.heap.size)) (fun _ i _ => t.length - (intOf i).toNat)
          case atStart => exact ⟨0, Nat.zero_le _, rfl, HO0, (fun j hj => absurd hj (Nat.not_lt_zero _) : ∀ j, j < 0 → _), HB2, (by simp : w1.heap.size ≤ (w1.alloc (.cells #[] 5)).heap.size)⟩
          case round =>
            obtain ⟨k, hk, rfl, hO, hall, hbl, hsz⟩ := hrel
            have HLk : Hid ((prtsB bd md body (t.take k)).length ≤ 4398046511104) := HLn.out k hk hall.out
            by_cases hlt : k < t.length
            · obtain ⟨a', c', e', hcs⟩ := HR.out _ hbl.out
              injection e' with q1 _ q2
              subst q1 q2
              rcases hcs with h | ⟨g, o, rfl, hlc, hcell⟩
              · rw [h] at hlt; simp at hlt
              have HGl : Hid (g < w1.heap.size) := (by
                obtain ⟨a2, c2, e2, hcs2⟩ := HR.out w (Below.refl _ _)
                injection e2 with q1 _ _
                subst q1
                rcases hcs2 with h | ⟨g2, o2, eg, _, hcell2⟩
                · rw [h] at hlt; simp at hlt
                injection eg with eg
                injection eg with eg _
                subst eg
                exact Nat.lt_of_lt_of_le (World.block_lt_of_cell? w _ (hcell2 k hlt).1) HN1.out : _ < _)
              obtain ⟨p0, p1⟩ := hcell k hlt
              have HCl : Hid (∀ W, Below wr.heap.size wr W → W.cell? ⟨g, o + k * 2, none⟩ = some (.int .i64 (nthN t k).1) ∧ W.cell? ⟨g, o + k * 2 + 1, none⟩ = some (.int .i64 (nthN t k).2)) := fun W hb =>
                ⟨(hb.cell (World.block_lt_of_cell? wr _ (hcell k hlt).1)).trans (hcell k hlt).1, (hb.cell (World.block_lt_of_cell? wr _ (hcell k hlt).2)).trans (hcell k hlt).2⟩
              have HTek : Hid (∀ W, _) := HTe.out k hlt
              clear hcell
              cases hsp : isSp (nthN t k) body.length with
              | false =>
                have HPR : Hid (partsR bd md body t = ([], 91)) := HQn.out (allSp_no hlt hsp)
                have htz := HTn.out k hsp
                rw [htz] at HTek
                clear htz hsp HCl
                generalize str (telR (nthN t k) body.length).1 = TL at *
                generalize (nthN t k).1 = X at *
                generalize (nthN t k).2 = Y at *
                go_wp2_with fail
                refine (HTek.out _).mono ?_
                rintro e w5 ⟨rfl, hb⟩
                have HB5 : Hid (Below w.heap.size w w5) := bel_trans hbl.out hb
                clear hb
                go_wp2
                go_ret2
                rw [HPR.out]
                exact ⟨rfl, HB5.out⟩
              | true =>
                obtain ⟨htl, htz⟩ := HTl.out k hlt hsp
                have hpl := HPl.out k hlt hsp
                have HF : Hid (∀ j, j < k + 1 → isSp (nthN t j) body.length = true) := fun j hj => by
                  by_cases e : j = k
                  · rw [e]; exact hsp
                  · exact hall.out j (by omega)
                obtain ⟨i0, i1, i2⟩ : 0 ≤ (nthN t k).1 ∧ (nthN t k).1 < (nthN t k).2 ∧ (nthN t k).2 ≤ (body.length : Int) := of_decide_eq_true hsp
                have HTkk : Hid (prtsB bd md body (t.take (k + 1)) = prtsB bd md body (t.take k) ++ partB bd md body (nthN t k)) := HTk.out k hlt
                obtain ⟨x, hx⟩ : ∃ x : Nat, (nthN t k).1 = (x : Int) := ⟨(nthN t k).1.toNat, by omega⟩
                obtain ⟨y, hy⟩ : ∃ y : Nat, (nthN t k).2 = (y : Int) := ⟨(nthN t k).2.toNat, by omega⟩
                have HEq : Hid (⟨#[13, 10, 45, 45]⟩ ++ str bd ++ ⟨#[13, 10]⟩ ++ ⟨#[67, 111, 110, 116, 101, 110, 116, 45, 84, 121, 112, 101, 58, 32]⟩ ++ str md ++ ⟨#[13, 10]⟩ ++ ⟨#[67, 111, 110, 116, 101, 110, 116, 45, 82, 97, 110, 103, 101, 58, 32]⟩ ++ str (telR (nthN t k) body.length).1 ++ ⟨#[13, 10]⟩ ++ ⟨#[13, 10]⟩ ++ (str body).extract x y = str (partB bd md body (nthN t k))) := (by
                  rw [sub_str]
                  show str [13, 10, 45, 45] ++ str bd ++ str [13, 10] ++ str [67, 111, 110, 116, 101, 110, 116, 45, 84, 121, 112, 101, 58, 32] ++ str md ++ str [13, 10] ++ str [67, 111, 110, 116, 101, 110, 116, 45, 82, 97, 110, 103, 101, 58, 32] ++ str (telR (nthN t k) body.length).1 ++ str [13, 10] ++ str [13, 10] ++ str ((body.drop x).take (y - x)) = _
                  rw [add_str, add_str, add_str, add_str, add_str, add_str, add_str, add_str, add_str, add_str]
                  unfold partB opB mdB rgB
                  rw [hx, hy, Int.toNat_natCast, Int.toNat_natCast]
                  simp only [List.append_assoc] : _ = _)
                rw [htz] at HTek
                rw [hx] at p0 i1 HTek HCl
                rw [hy] at p1 i1 i2 HTek HCl
                have ztl : (str (telR (nthN t k) body.length).1).size ≤ 80 := by rw [str_size]; exact htl
                have zsb : ((str body).extract x y).size ≤ 1048576 := by rw [sub_str, str_size, List.length_take, List.length_drop]; omega
                have hOw : Hid (Oc.Own w1.heap.size _ (prtsB bd md body (t.take k)) wr) := hO
                generalize hPB : partB bd md body (nthN t k) = PB at *
                generalize prtsB bd md body (t.take k) = L0 at *
                generalize str (telR (nthN t k) body.length).1 = TL at *
                clear hx hy i0 htl htz hsp hPB hO
                go_wp2_with fail
                refine (HTek.out _).mono ?_
                rintro e w5 ⟨rfl, hb⟩
                have HB5 : Hid (Below w.heap.size w w5) := bel_trans hbl.out hb
                have HO5 : Hid (Oc.Own w1.heap.size _ L0 w5.drew) := own_below (own_below hOw.out hb) (below_drewN (Below.refl _ w5) 1)
                have HS5 : Hid (w1.heap.size ≤ w5.drew.heap.size) := (Nat.le_trans hsz.out hb.size : _ ≤ _)
                have HB6 : Hid (Below w.heap.size w w5.drew) := below_drewN HB5.out 1
                have HC5 : Hid (w5.drew.cell? ⟨g, o + k * 2, none⟩ = some (.int .i64 (x : Int)) ∧ w5.drew.cell? ⟨g, o + k * 2 + 1, none⟩ = some (.int .i64 (y : Int))) := HCl.out _ (below_drewN hb 1)
                obtain ⟨k1, k2⟩ := HC5.out
                clear hb p0 p1 HCl hOw
                have zq1 : (⟨#[13, 10, 45, 45]⟩ : ByteArray).size = 4 := rfl
                have zq2 : (⟨#[13, 10]⟩ : ByteArray).size = 2 := rfl
                have zq3 : (⟨#[67, 111, 110, 116, 101, 110, 116, 45, 84, 121, 112, 101, 58, 32]⟩ : ByteArray).size = 14 := rfl
                have zq4 : (⟨#[67, 111, 110, 116, 101, 110, 116, 45, 82, 97, 110, 103, 101, 58, 32]⟩ : ByteArray).size = 15 := rfl
                go_wp2_with fail
                generalize hA4 : (⟨#[13, 10, 45, 45]⟩ : ByteArray) = A4 at *
                have GA4 : Hid ((⟨#[13, 10, 45, 45]⟩ : ByteArray) = A4) := hA4
                clear hA4
                generalize hC2 : (⟨#[13, 10]⟩ : ByteArray) = C2 at *
                have GC2 : Hid ((⟨#[13, 10]⟩ : ByteArray) = C2) := hC2
                clear hC2
                generalize hCT : (⟨#[67, 111, 110, 116, 101, 110, 116, 45, 84, 121, 112, 101, 58, 32]⟩ : ByteArray) = CT at *
                have GCT : Hid ((⟨#[67, 111, 110, 116, 101, 110, 116, 45, 84, 121, 112, 101, 58, 32]⟩ : ByteArray) = CT) := hCT
                clear hCT
                generalize hCR : (⟨#[67, 111, 110, 116, 101, 110, 116, 45, 82, 97, 110, 103, 101, 58, 32]⟩ : ByteArray) = CR at *
                have GCR : Hid ((⟨#[67, 111, 110, 116, 101, 110, 116, 45, 82, 97, 110, 103, 101, 58, 32]⟩ : ByteArray) = CR) := hCR
                clear hCR
                generalize hBD : str bd = BD at *
                have GBD : Hid (str bd = BD) := hBD
                clear hBD
                generalize hMD : str md = MD at *
                have GMD : Hid (str md = MD) := hMD
                clear hMD
                generalize hBY : str body = BY at *
                have GBY : Hid (str body = BY) := hBY
                clear hBY
                have hx0 : (x : Int) ≤ (y : Int) := by omega
                have hx1 : (y : Int) ≤ (BY.size : Int) := by omega
                have z0 : ¬ (9223372036854775807 < A4.size + BD.size) := by omega
                have z1 : ¬ (9223372036854775807 < A4.size + BD.size + C2.size) := by omega
                have z2 : ¬ (9223372036854775807 < A4.size + BD.size + C2.size + CT.size) := by omega
                have z3 : ¬ (9223372036854775807 < A4.size + BD.size + C2.size + CT.size + MD.size) := by omega
                have z4 : ¬ (9223372036854775807 < A4.size + BD.size + C2.size + CT.size + MD.size + C2.size) := by omega
                have z5 : ¬ (9223372036854775807 < A4.size + BD.size + C2.size + CT.size + MD.size + C2.size + CR.size) := by omega
                have z6 : ¬ (9223372036854775807 < A4.size + BD.size + C2.size + CT.size + MD.size + C2.size + CR.size + TL.size) := by omega
                have z7 : ¬ (9223372036854775807 < A4.size + BD.size + C2.size + CT.size + MD.size + C2.size + CR.size + TL.size + C2.size) := by omega
                have z8 : ¬ (9223372036854775807 < A4.size + BD.size + C2.size + CT.size + MD.size + C2.size + CR.size + TL.size + C2.size + C2.size) := by omega
                generalize hSB : BY.extract x y = SB at *
                have HSB : Hid (BY.extract x y = SB) := hSB
                have zl : ¬ (9223372036854775807 < A4.size + BD.size + C2.size + CT.size + MD.size + C2.size + CR.size + TL.size + C2.size + C2.size + SB.size) := by omega
                have zl1 : ¬ (9223372036854775807 < A4.size + BD.size + C2.size + CT.size + MD.size + C2.size + CR.size + TL.size + C2.size + C2.size + (min y BY.size - x)) := by omega
                have zl2 : ¬ (9223372036854775807 < A4.size + BD.size + C2.size + CT.size + MD.size + C2.size + CR.size + TL.size + C2.size + C2.size + (y - x)) := by omega
                have hslr : ∀ W : World, (Instr.slice 9 (.string BY) (some (.int .i64 (x : Int))) (some (.int .i64 (y : Int))) none).run Tryd.prog W = .ok (.string SB) W := fun W => by
                  rw [← hSB]
                  have u9 := Tryd.underlying9
                  have hxx : x ≤ y := by omega
                  have hyy : y ≤ BY.size := by omega
                  go_simp
                clear hSB zq1 zq2 zq3 zq4 ztl zsb zb zm hs0
                go_region_held3 (fun W => (W.cell? ⟨g, o + k * 2, none⟩ = some (.int .i64 (x : Int)) ∧ W.cell? ⟨g, o + k * 2 + 1, none⟩ = some (.int .i64 (y : Int)))) (first | with_reducible exact HC5.out) (first
                  | (refine step_appG rfl (.tmp 48) (.tmp 73) rfl w1.heap.size _ L0 _ _ PB HEq.out rfl HO5.out rfl (by have := HLk.out; omega) HS5.out ?_; intro v6 w6 HO6 HB7; have HC5 : Hid (w6.cell? ⟨g, o + k * 2, none⟩ = some (.int .i64 (x : Int)) ∧ w6.cell? ⟨g, o + k * 2 + 1, none⟩ = some (.int .i64 (y : Int))) := (⟨(HB7.out.cell HGl.out).trans HC5.out.1, (HB7.out.cell HGl.out).trans HC5.out.2⟩ : _ ∧ _)))
                have HOn : Hid (Oc.Own w1.heap.size v6 (prtsB bd md body (t.take (k + 1))) w6) := (by rw [HTkk.out]; exact HO6.out : Oc.Own _ _ _ _)
                have HBn6 : Hid (Below w.heap.size w w6) := HB6.out.trans (HB7.out.mono HN1.out)
                have HSn : Hid (w1.heap.size ≤ w6.heap.size) := (Nat.le_trans HS5.out HB7.out.size : _ ≤ _)
                have hBY := GBY.out
                subst hBY
                have hMD := GMD.out
                subst hMD
                have hBD := GBD.out
                subst hBD
                have hCR := GCR.out
                subst hCR
                have hCT := GCT.out
                subst hCT
                have hC2 := GC2.out
                subst hC2
                have hA4 := GA4.out
                subst hA4
                go_wp2
                go_roundw
                case rel => exact ⟨k + 1, by omega, by go_num, HOn, HF, HBn6, HSn⟩
                case measure => simp [intOf]; omega
            · obtain rfl : k = t.length := by omega
              have HPR : Hid (partsR bd md body t = (prtsB bd md body t ++ clB bd, 0)) := HQy.out (allSp_yes hall.out)
              rw [List.take_length] at hO HLk
              have hbk := own_back hO.out
              have HEq : Hid (str (prtsB bd md body t) ++ ⟨#[13, 10]⟩ ++ ⟨#[45, 45]⟩ ++ str bd ++ ⟨#[45, 45]⟩ ++ ⟨#[13, 10]⟩ = str (prtsB bd md body t ++ clB bd)) := (by
                show str (prtsB bd md body t) ++ str [13, 10] ++ str [45, 45] ++ str bd ++ str [45, 45] ++ str [13, 10] = _
                rw [add_str, add_str, add_str, add_str, add_str]
                unfold clB
                simp : _ = _)
              have zp : (str (prtsB bd md body t)).size ≤ 4398046511104 := by rw [str_size]; exact HLk.out
              generalize str (prtsB bd md body t) = PP at *
              have zq1 : (⟨#[45, 45]⟩ : ByteArray).size = 2 := rfl
              have zq2 : (⟨#[13, 10]⟩ : ByteArray).size = 2 := rfl
              clear hs0
              generalize (⟨#[45, 45]⟩ : ByteArray) = D2 at *
              generalize (⟨#[13, 10]⟩ : ByteArray) = C2 at *
              have y1 : ¬ (9223372036854775807 < PP.size + C2.size) := by omega
              have y2 : ¬ (9223372036854775807 < PP.size + C2.size + D2.size) := by omega
              have y3 : ¬ (9223372036854775807 < PP.size + C2.size + D2.size + (str bd).size) := by omega
              have y4 : ¬ (9223372036854775807 < PP.size + C2.size + D2.size + (str bd).size + D2.size) := by omega
              have y5 : ¬ (9223372036854775807 < PP.size + C2.size + D2.size + (str bd).size + D2.size + C2.size) := by omega
              clear zq1 zq2 zp zb zm
              go_wp2
              go_ret2
              rw [HPR.out]
              dsimp only
              rw [← HEq.out]
              exact ⟨rfl, hbl.out⟩

end Sn
end Go.Proofs.YtkaciaiooidohaaDoor
