/-
  span.Parts.
-/
import Derived.Test.YthdfgepnadgkjaaGreatDoorZzR
set_option linter.unusedVariables false
set_option linter.unusedSimpArgs false
namespace Go.Proofs.YthdfgepnadgkjaaGreatDoor
open Go.RowKit Go.Shelf
namespace Sn
open Oc Tg Ac

theorem sub_str (body : List UInt8) (a b : Nat) : (str body).extract a b = str ((body.drop a).take (b - a)) := by
  apply eq_list
  rw [ext_list2, str_list, str_list]

set_option maxRecDepth 100000 in
set_option maxHeartbeats 4000000 in
theorem Parts_any (bd md body : List UInt8) (v : Value) (t : List Sp) (h1 : bd.length ≤ 1048576) (h2 : md.length ≤ 1048576) (h3 : body.length ≤ 1048576) (hn : t.length ≤ 1048576) (w : World) (hrd : RdN v t w) (hml : ML w) (hpw : Pow w) :
    Calls Tryz.prog 9 #[.string (str bd), .string (str md), .string (str body), v] w fun e w' => e = .returned (.tuple #[.string (str (partsR bd md body t).1), .int .i64 (partsR bd md body t).2]) ∧ Below w.heap.size w w' := by
  have zb : (str bd).size ≤ 1048576 := by rw [str_size]; exact h1
  have zm : (str md).size ≤ 1048576 := by rw [str_size]; exact h2
  have zy : (str body).size = body.length := str_size body
  have HIb : Hid (Calls Tryz.prog 26 #[.string (str bd)] w fun e w' => e = .returned (.bool (bndR bd)) ∧ Below w.heap.size w w') := (by have h := isBoundary_any (str bd) (by omega) w; rw [str_list] at h; exact h : Calls _ _ _ _ _)
  have HCo : Hid (∀ W, Below w.heap.size w W → Calls Tryz.prog 27 #[.string (str body), .string (⟨#[45, 45]⟩ ++ str bd)] W fun e w' => e = .returned (.bool (Lib.contains body ([45, 45] ++ bd))) ∧ w' = W) := fun W hb => by
    obtain ⟨m, hm⟩ := hml.below hb
    have h := Tryz.strings_Contains (str body) (str ([45, 45] ++ bd)) m W (by omega) hm
    rw [str_list, str_list] at h
    rw [show (⟨#[45, 45]⟩ : ByteArray) ++ str bd = str ([45, 45] ++ bd) from by rw [← add_str]; rfl]
    exact h
  have HIf : Hid (∀ W, Calls Tryz.prog 28 #[.string (str md)] W fun e w' => e = .returned (.bool (isFld md)) ∧ Below (World.heap W).size W w') := fun W => by have h := IsField_any (str md) (by unfold maxLen; omega) W; rw [str_list] at h; exact h
  have HAs : Hid (∀ W, Below w.heap.size w W → Calls Tryz.prog 29 #[v, .int .i64 (body.length : Int)] W fun e w' => e = .returned (.bool (allSp t body.length)) ∧ Below (World.heap W).size W w') := fun W hb => areSpans_any v t body.length (by omega) W (hrd.below hb)
  have HOp : Hid (∀ W, Calls Tryz.prog 31 #[.string (str bd)] W fun e w' => e = .returned (.string (str (opB bd))) ∧ w' = W) := fun W => opening_any bd h1 W
  have HCl : Hid (∀ W, Calls Tryz.prog 33 #[.string (str bd)] W fun e w' => e = .returned (.string (str (clB bd))) ∧ w' = W) := fun W => closing_any bd h1 W
  have HR : Hid (∀ W, Below w.heap.size w W → RdN v t W) := fun W hb => hrd.below hb
  have HP : Hid (∀ W, Below w.heap.size w W → Pow W) := fun W hb => Oc.Pow.below hpw hb (Nat.le_refl _)
  have hk2 : (⟨#[45, 45]⟩ : ByteArray).size = 2 := rfl
  have hs0 : ¬ (9223372036854775807 < (⟨#[45, 45]⟩ : ByteArray).size + (str bd).size) := by omega
  obtain ⟨a, c, rfl, _⟩ := hrd
  clear hml hpw hk2
  cases hb1 : bndR bd with
  | false =>
    have HQ : Hid (partsR bd md body t = ([], 92)) := (by unfold partsR; rw [if_pos hb1] : partsR bd md body t = _)
    rw [hb1] at HIb
    go_enter Tryz.func9, Tryz.ntmps9
    go_wp2_with fail
    refine HIb.out.mono ?_
    rintro e w1 ⟨rfl, hb⟩
    have HB1 : Hid (Below w.heap.size w w1) := hb
    clear hb
    go_wp2
    go_ret2
    rw [HQ.out]
    exact ⟨rfl, HB1.out⟩
  | true =>
    rw [hb1] at HIb
    cases hb2 : Lib.contains body ([45, 45] ++ bd) with
    | true =>
      have HQ : Hid (partsR bd md body t = ([], 92)) := (by unfold partsR; rw [if_neg (by rw [hb1]; simp), if_pos hb2] : partsR bd md body t = _)
      rw [hb2] at HCo
      go_enter Tryz.func9, Tryz.ntmps9
      go_wp2_with fail
      refine HIb.out.mono ?_
      rintro e w1 ⟨rfl, hb⟩
      have HB1 : Hid (Below w.heap.size w w1) := hb
      clear hb
      go_wp2_with fail
      refine (HCo.out _ HB1.out).mono ?_
      rintro e w2 ⟨rfl, rfl⟩
      go_wp2
      go_ret2
      rw [HQ.out]
      exact ⟨rfl, HB1.out⟩
    | false =>
      rw [hb2] at HCo
      cases hb3 : isFld md with
      | false =>
        have HQ : Hid (partsR bd md body t = ([], 1)) := (by unfold partsR; rw [if_neg (by rw [hb1]; simp), if_neg (by rw [hb2]; simp), if_pos hb3] : partsR bd md body t = _)
        rw [hb3] at HIf
        go_enter Tryz.func9, Tryz.ntmps9
        go_wp2_with fail
        refine HIb.out.mono ?_
        rintro e w1 ⟨rfl, hb⟩
        have HB1 : Hid (Below w.heap.size w w1) := hb
        clear hb
        go_wp2_with fail
        refine (HCo.out _ HB1.out).mono ?_
        rintro e w2 ⟨rfl, hw2⟩
        rw [hw2]
        clear hw2
        go_wp2_with fail
        refine (HIf.out _).mono ?_
        rintro e w3 ⟨rfl, hb⟩
        have HB3 : Hid (Below w.heap.size w w3) := bel_trans HB1.out hb
        clear hb
        go_wp2
        go_ret2
        rw [HQ.out]
        exact ⟨rfl, HB3.out⟩
      | true =>
        rw [hb3] at HIf
        by_cases h0 : t.length = 0
        · have HQ : Hid (partsR bd md body t = ([], 91)) := (by unfold partsR; rw [if_neg (by rw [hb1]; simp), if_neg (by rw [hb2]; simp), if_neg (by rw [hb3]; simp), if_pos h0] : partsR bd md body t = _)
          have e0 : ((t.length : Int) == 0) = true := by simp [h0]
          clear h0
          go_enter Tryz.func9, Tryz.ntmps9
          go_wp2_with fail
          refine HIb.out.mono ?_
          rintro e w1 ⟨rfl, hb⟩
          have HB1 : Hid (Below w.heap.size w w1) := hb
          clear hb
          go_wp2_with fail
          refine (HCo.out _ HB1.out).mono ?_
          rintro e w2 ⟨rfl, hw2⟩
          rw [hw2]
          clear hw2
          go_wp2_with fail
          refine (HIf.out _).mono ?_
          rintro e w3 ⟨rfl, hb⟩
          have HB3 : Hid (Below w.heap.size w w3) := bel_trans HB1.out hb
          clear hb
          go_wp2
          go_ret2
          rw [HQ.out]
          exact ⟨rfl, HB3.out⟩
        · have e0 : ((t.length : Int) == 0) = false := by rw [beq_eq_false_iff_ne]; omega
          cases hb4 : allSp t body.length with
          | false =>
            have HQ : Hid (partsR bd md body t = ([], 91)) := (by unfold partsR; rw [if_neg (by rw [hb1]; simp), if_neg (by rw [hb2]; simp), if_neg (by rw [hb3]; simp), if_neg h0, if_neg (by rw [hb4]; simp)] : partsR bd md body t = _)
            rw [hb4] at HAs
            rw [← zy] at HAs
            clear h0
            go_enter Tryz.func9, Tryz.ntmps9
            go_wp2_with fail
            refine HIb.out.mono ?_
            rintro e w1 ⟨rfl, hb⟩
            have HB1 : Hid (Below w.heap.size w w1) := hb
            clear hb
            go_wp2_with fail
            refine (HCo.out _ HB1.out).mono ?_
            rintro e w2 ⟨rfl, hw2⟩
            rw [hw2]
            clear hw2
            go_wp2_with fail
            refine (HIf.out _).mono ?_
            rintro e w3 ⟨rfl, hb⟩
            have HB3 : Hid (Below w.heap.size w w3) := bel_trans HB1.out hb
            clear hb
            rw [zy] at HAs
            go_wp2_with fail
            refine (HAs.out _ HB3.out).mono ?_
            rintro e w4 ⟨rfl, hb⟩
            have HB4 : Hid (Below w.heap.size w w4) := bel_trans HB3.out hb
            clear hb
            go_wp2
            go_ret2
            rw [HQ.out]
            exact ⟨rfl, HB4.out⟩
          | true =>
            have hall : ∀ x ∈ t, isSp x body.length = true := List.all_eq_true.1 hb4
            have hin : ∀ k, k < t.length → 0 ≤ (nthN t k).1 ∧ (nthN t k).1 < (nthN t k).2 ∧ (nthN t k).2 ≤ (body.length : Int) := fun k hk => of_decide_eq_true (hall _ (by rw [nthN_mem' hk]; exact List.getElem_mem hk))
            have HQ : Hid (partsR bd md body t = (prtsB bd md body t ++ clB bd, 0)) := (by unfold partsR; rw [if_neg (by rw [hb1]; simp), if_neg (by rw [hb2]; simp), if_neg (by rw [hb3]; simp), if_neg h0, if_pos hb4] : partsR bd md body t = _)
            rw [hb4] at HAs
            have HTe : Hid (∀ k, k < t.length → ∀ W, Pow W → Calls Tryz.prog 32 #[.agg #[.int .i64 (nthN t k).1, .int .i64 (nthN t k).2], .int .i64 (body.length : Int)] W fun e w' => e = .returned (.tuple #[.string (str (telR (nthN t k) body.length).1), .int .i64 (telR (nthN t k) body.length).2]) ∧ Below (World.heap W).size W w') := fun k hk W hp => by
              have hh := hin k hk
              exact (Tell_gr (nthN t k).1 (nthN t k).2 body.length (by omega) (by omega) (by omega) (by omega) (by omega) (by omega) W hp).mono (fun e w' ⟨h1, h2⟩ => ⟨h1, Grew.below h2⟩)
            have HLn : Hid (∀ k, k ≤ t.length → (prtsB bd md body (t.take k)).length ≤ 4398046511104) := fun k hk => by
              have := prts_len h1 h2 h3 (t.take k) (fun x hx => hall x (List.mem_of_mem_take hx))
              rw [List.length_take] at this
              omega
            have HTk : Hid (∀ k, k < t.length → prtsB bd md body (t.take (k + 1)) = prtsB bd md body (t.take k) ++ partB bd md body (nthN t k)) := fun k hk => prts_take bd md body t k hk
            have HTl : Hid (∀ k, k < t.length → (telR (nthN t k) body.length).1.length ≤ 80) := fun k hk => by
              have hx : isSp (nthN t k) body.length = true := hall _ (by rw [nthN_mem' hk]; exact List.getElem_mem hk)
              have hh := hin k hk
              unfold telR
              rw [if_pos hx]
              have e1 := extR_len (nthN t k) (by omega) (by omega) (by omega) (by omega)
              have e2 := Lib.itoa_length_le (body.length : Int) (by omega) (by omega)
              simp only [List.length_append, List.length_cons, List.length_nil]
              omega
            have HIn : Hid (∀ k, k < t.length → 0 ≤ (nthN t k).1 ∧ (nthN t k).1 < (nthN t k).2 ∧ (nthN t k).2 ≤ (body.length : Int)) := hin
            have hop : (opB bd).length ≤ 1048582 := by unfold opB; simp; omega
            have hmd : (mdB md).length ≤ 1048592 := by unfold mdB; simp; omega
            have hcl : (clB bd).length ≤ 1048584 := by unfold clB; simp; omega
            have HEm : Hid (⟨#[67, 111, 110, 116, 101, 110, 116, 45, 84, 121, 112, 101, 58, 32]⟩ ++ str md ++ ⟨#[13, 10]⟩ = str (mdB md)) := (by unfold mdB; rw [← add_str, ← add_str]; rfl : _ = _)
            clear h0 hall hin
            go_enter Tryz.func9, Tryz.ntmps9
            go_wp2_with fail
            refine HIb.out.mono ?_
            rintro e w1 ⟨rfl, hb⟩
            have HB1 : Hid (Below w.heap.size w w1) := hb
            clear hb
            go_wp2_with fail
            refine (HCo.out _ HB1.out).mono ?_
            rintro e w2 ⟨rfl, hw2⟩
            rw [hw2]
            clear hw2
            go_wp2_with fail
            refine (HIf.out _).mono ?_
            rintro e w3 ⟨rfl, hb⟩
            have HB3 : Hid (Below w.heap.size w w3) := bel_trans HB1.out hb
            clear hb
            go_wp2_with fail
            refine (HAs.out _ HB3.out).mono ?_
            rintro e w4 ⟨rfl, hb⟩
            have HB4 : Hid (Below w.heap.size w w4) := bel_trans HB3.out hb
            have HN4 : Hid (w.heap.size ≤ w4.heap.size) := HB4.out.size
            clear hb HIb HCo HIf HAs
            have HBd0 : Hid (Bd w4.heap.size w4.heap.size (Lib.byteCells (prtsB bd md body (t.take 0))) (w4.alloc (.cells #[.pointer none, .slice none 0 0] 70))) := Bd.new w4 w4.heap.size
            have HB5 : Hid (Below w.heap.size w (w4.alloc (.cells #[.pointer none, .slice none 0 0] 70))) := HB4.out.alloc HB4.out.size _
            go_wp2
            go_loopw [42] (fun i wr => ∃ k : Nat, k ≤ t.length ∧ i = .int .i64 k ∧ Hid (Bd w4.heap.size w4.heap.size (Lib.byteCells (prtsB bd md body (t.take k))) wr) ∧ Hid (Below w.heap.size w wr)) (fun i _ => t.length - (intOf i).toNat)
            case atStart => exact ⟨0, Nat.zero_le _, rfl, HBd0, HB5⟩
            case round =>
              obtain ⟨k, hk, rfl, hBd, hbl⟩ := hrel
              have HLk : Hid ((prtsB bd md body (t.take k)).length ≤ 4398046511104) := HLn.out k hk
              by_cases hlt : k < t.length
              · obtain ⟨a', c', e', hcs⟩ := HR.out _ hbl.out
                injection e' with q1 _ q2
                subst q1 q2
                rcases hcs with h | ⟨g, o, rfl, hlc, hcell⟩
                · rw [h] at hlt; simp at hlt
                obtain ⟨p0, p1⟩ := hcell k hlt
                obtain ⟨i0, i1, i2⟩ := HIn.out k hlt
                have htl := HTl.out k hlt
                have HTek : Hid (∀ W, Pow W → _) := fun W hp => HTe.out k hlt W hp
                have HTkk : Hid (prtsB bd md body (t.take (k + 1)) = prtsB bd md body (t.take k) ++ partB bd md body (nthN t k)) := HTk.out k hlt
                have HPk : Hid (partB bd md body (nthN t k) = opB bd ++ mdB md ++ rgB (telR (nthN t k) body.length).1 ++ [13, 10] ++ (body.drop (nthN t k).1.toNat).take ((nthN t k).2.toNat - (nthN t k).1.toNat)) := rfl
                have HEr : Hid (⟨#[67, 111, 110, 116, 101, 110, 116, 45, 82, 97, 110, 103, 101, 58, 32]⟩ ++ str (telR (nthN t k) body.length).1 ++ ⟨#[13, 10]⟩ = str (rgB (telR (nthN t k) body.length).1)) := (by unfold rgB; rw [← add_str, ← add_str]; rfl : _ = _)
                have hrg : (rgB (telR (nthN t k) body.length).1).length ≤ 200 := by unfold rgB; simp; omega
                have ztl : (str (telR (nthN t k) body.length).1).size ≤ 80 := by rw [str_size]; exact htl
                clear hcell htl
                generalize (telR (nthN t k) body.length).2 = tz at *
                generalize (telR (nthN t k) body.length).1 = tl at *
                obtain ⟨x, hx⟩ : ∃ x : Nat, (nthN t k).1 = (x : Int) := ⟨(nthN t k).1.toNat, by omega⟩
                obtain ⟨y, hy⟩ : ∃ y : Nat, (nthN t k).2 = (y : Int) := ⟨(nthN t k).2.toNat, by omega⟩
                rw [hx] at p0 i0 i1 HTek HPk
                rw [hy] at p1 i1 i2 HTek HPk
                rw [Int.toNat_natCast, Int.toNat_natCast] at HPk
                have hsl : ((body.drop x).take (y - x)).length ≤ 1048576 := by rw [List.length_take, List.length_drop]; omega
                have HSb : Hid ((str body).extract x y = str ((body.drop x).take (y - x))) := sub_str body x y
                generalize partB bd md body (nthN t k) = PK at *
                clear hx hy
                obtain ⟨wx, hwx⟩ : ∃ wx, wx = wr.alloc (.cells #[.int .i64 (x : Int), .int .i64 (y : Int)] 38) := ⟨_, rfl⟩
                have hbx : Below wr.heap.size wr wx := by rw [hwx]; exact (Below.refl _ wr).alloc (Nat.le_refl _) _
                have HPx : Hid (wx.heap[wr.heap.size]? = some (.cells #[.int .i64 (x : Int), .int .i64 (y : Int)] 38 (0, 0))) := (by rw [hwx]; exact heap_alloc_new wr _ : _ = _)
                have HBx : Hid (Below w.heap.size w wx) := bel_trans hbl.out hbx
                have HDx : Hid (Bd w4.heap.size w4.heap.size (Lib.byteCells (prtsB bd md body (t.take k))) wx) := hBd.out.below hbx
                have HNe : Hid (wr.heap.size ≠ w4.heap.size) := (by have := hBd.out.lt; omega : _ ≠ _)
                generalize prtsB bd md body (t.take k) = L0 at *
                clear hbx
                go_wp2_with fail
                rw [← hwx]
                clear hwx
                refine (HOp.out _).mono ?_
                rintro e w6 ⟨rfl, hw6⟩
                rw [hw6]
                clear hw6
                have HW10 : Hid (Calls _ _ _ wx _) := write_l w4.heap.size (L0) (opB bd) wx HDx.out (by have := HLk.out; (try simp only [List.length_append, List.length_cons, List.length_nil]); omega)
                go_wp2_with fail
                refine HW10.out.mono ?_
                rintro e w10 ⟨rfl, hd, hf, hkt⟩
                have HD10 : Hid (Bd w4.heap.size w4.heap.size (Lib.byteCells (L0 ++ (opB bd))) w10) := hd
                have HB10 : Hid (Below w.heap.size w w10) := HBx.out.trans (hf.below HN4.out HN4.out)
                have HP10 : Hid (w10.heap[wr.heap.size]? = some (.cells #[.int .i64 (x : Int), .int .i64 (y : Int)] 38 (0, 0))) := hkt _ _ _ _ HNe.out (by decide) HPx.out
                clear hd hf hkt HW10 HDx
                have HW11 : Hid (Calls _ _ _ w10 _) := write_l w4.heap.size ((L0 ++ (opB bd))) (mdB md) w10 HD10.out (by have := HLk.out; (try simp only [List.length_append, List.length_cons, List.length_nil]); omega)
                rw [← HEm.out] at HW11
                have hm1 : ¬ (9223372036854775807 < (⟨#[67, 111, 110, 116, 101, 110, 116, 45, 84, 121, 112, 101, 58, 32]⟩ : ByteArray).size + (str md).size) := by have : (⟨#[67, 111, 110, 116, 101, 110, 116, 45, 84, 121, 112, 101, 58, 32]⟩ : ByteArray).size = 14 := rfl; omega
                have hm2 : ¬ (9223372036854775807 < (⟨#[67, 111, 110, 116, 101, 110, 116, 45, 84, 121, 112, 101, 58, 32]⟩ : ByteArray).size + (str md).size + (⟨#[13, 10]⟩ : ByteArray).size) := by have : (⟨#[67, 111, 110, 116, 101, 110, 116, 45, 84, 121, 112, 101, 58, 32]⟩ : ByteArray).size = 14 := rfl; have : (⟨#[13, 10]⟩ : ByteArray).size = 2 := rfl; omega
                go_wp2_with fail
                refine HW11.out.mono ?_
                rintro e w11 ⟨rfl, hd, hf, hkt⟩
                have HD11 : Hid (Bd w4.heap.size w4.heap.size (Lib.byteCells ((L0 ++ (opB bd)) ++ (mdB md))) w11) := hd
                have HB11 : Hid (Below w.heap.size w w11) := HB10.out.trans (hf.below HN4.out HN4.out)
                have HP11 : Hid (w11.heap[wr.heap.size]? = some (.cells #[.int .i64 (x : Int), .int .i64 (y : Int)] 38 (0, 0))) := hkt _ _ _ _ HNe.out (by decide) HP10.out
                clear hd hf hkt HW11 HD10
                have HC12 : Hid (Calls _ _ _ w11 _) := HTek.out w11 (HP.out _ HB11.out)
                have c0 := Lib.cell_of_heap HP11.out 0
                have c1 := Lib.cell_of_heap HP11.out 1
                simp at c0 c1
                go_wp2_with fail
                refine HC12.out.mono ?_
                rintro e w12 ⟨rfl, hb12⟩
                have HB12 : Hid (Below w.heap.size w w12) := bel_trans HB11.out hb12
                have HD12 : Hid (Bd w4.heap.size w4.heap.size (Lib.byteCells (((L0 ++ (opB bd)) ++ (mdB md)))) w12) := HD11.out.below hb12
                have HP12 : Hid (w12.heap[wr.heap.size]? = some (.cells #[.int .i64 (x : Int), .int .i64 (y : Int)] 38 (0, 0))) := (hb12.block _ (Array.getElem?_eq_some_iff.1 HP11.out).1).trans HP11.out
                clear hb12 HC12 c0 c1 HD11
                have HW13 : Hid (Calls _ _ _ w12 _) := write_l w4.heap.size (((L0 ++ (opB bd)) ++ (mdB md))) (rgB tl) w12 HD12.out (by have := HLk.out; (try simp only [List.length_append, List.length_cons, List.length_nil]); omega)
                rw [← HEr.out] at HW13
                have hr1 : ¬ (9223372036854775807 < (⟨#[67, 111, 110, 116, 101, 110, 116, 45, 82, 97, 110, 103, 101, 58, 32]⟩ : ByteArray).size + (str tl).size) := by have : (⟨#[67, 111, 110, 116, 101, 110, 116, 45, 82, 97, 110, 103, 101, 58, 32]⟩ : ByteArray).size = 15 := rfl; omega
                have hr2 : ¬ (9223372036854775807 < (⟨#[67, 111, 110, 116, 101, 110, 116, 45, 82, 97, 110, 103, 101, 58, 32]⟩ : ByteArray).size + (str tl).size + (⟨#[13, 10]⟩ : ByteArray).size) := by have : (⟨#[67, 111, 110, 116, 101, 110, 116, 45, 82, 97, 110, 103, 101, 58, 32]⟩ : ByteArray).size = 15 := rfl; have : (⟨#[13, 10]⟩ : ByteArray).size = 2 := rfl; omega
                go_wp2_with fail
                refine HW13.out.mono ?_
                rintro e w13 ⟨rfl, hd, hf, hkt⟩
                have HD13 : Hid (Bd w4.heap.size w4.heap.size (Lib.byteCells (((L0 ++ (opB bd)) ++ (mdB md)) ++ (rgB tl))) w13) := hd
                have HB13 : Hid (Below w.heap.size w w13) := HB12.out.trans (hf.below HN4.out HN4.out)
                have HP13 : Hid (w13.heap[wr.heap.size]? = some (.cells #[.int .i64 (x : Int), .int .i64 (y : Int)] 38 (0, 0))) := hkt _ _ _ _ HNe.out (by decide) HP12.out
                clear hd hf hkt HW13 HD12
                have HW14 : Hid (Calls _ _ _ w13 _) := write_l w4.heap.size ((((L0 ++ (opB bd)) ++ (mdB md)) ++ (rgB tl))) ([13, 10]) w13 HD13.out (by have := HLk.out; (try simp only [List.length_append, List.length_cons, List.length_nil]); omega)
                go_wp2_with fail
                refine HW14.out.mono ?_
                rintro e w14 ⟨rfl, hd, hf, hkt⟩
                have HD14 : Hid (Bd w4.heap.size w4.heap.size (Lib.byteCells ((((L0 ++ (opB bd)) ++ (mdB md)) ++ (rgB tl)) ++ ([13, 10]))) w14) := hd
                have HB14 : Hid (Below w.heap.size w w14) := HB13.out.trans (hf.below HN4.out HN4.out)
                have HP14 : Hid (w14.heap[wr.heap.size]? = some (.cells #[.int .i64 (x : Int), .int .i64 (y : Int)] 38 (0, 0))) := hkt _ _ _ _ HNe.out (by decide) HP13.out
                clear hd hf hkt HW14 HD13
                have c0 := Lib.cell_of_heap HP14.out 0
                have c1 := Lib.cell_of_heap HP14.out 1
                simp at c0 c1
                have HW15 : Hid (Calls _ _ _ w14 _) := write_l w4.heap.size (((((L0 ++ (opB bd)) ++ (mdB md)) ++ (rgB tl)) ++ ([13, 10]))) ((body.drop x).take (y - x)) w14 HD14.out (by have := HLk.out; (try simp only [List.length_append, List.length_cons, List.length_nil]); omega)
                rw [← HSb.out] at HW15
                go_wp2_with fail
                refine HW15.out.mono ?_
                rintro e w15 ⟨rfl, hd, hf, hkt⟩
                have HD15 : Hid (Bd w4.heap.size w4.heap.size (Lib.byteCells (((((L0 ++ (opB bd)) ++ (mdB md)) ++ (rgB tl)) ++ ([13, 10])) ++ ((body.drop x).take (y - x)))) w15) := hd
                have HB15 : Hid (Below w.heap.size w w15) := HB14.out.trans (hf.below HN4.out HN4.out)
                have HP15 : Hid (w15.heap[wr.heap.size]? = some (.cells #[.int .i64 (x : Int), .int .i64 (y : Int)] 38 (0, 0))) := hkt _ _ _ _ HNe.out (by decide) HP14.out
                clear hd hf hkt HW15 HD14
                have HDn : Hid (Bd w4.heap.size w4.heap.size (Lib.byteCells (prtsB bd md body (t.take (k + 1)))) w15) := (by rw [HTkk.out, HPk.out]; simpa only [List.append_assoc] using HD15.out : Bd _ _ _ _)
                go_wp2
                go_roundw
                case rel => exact ⟨k + 1, by omega, by go_num, HDn, HB15⟩
                case measure => simp [intOf]; omega
              · obtain rfl : k = t.length := by omega
                rw [List.take_length] at hBd HLk
                have HWc : Hid (Calls _ _ _ wr _) := write_l w4.heap.size (prtsB bd md body t) (clB bd) wr hBd.out (by have := HLk.out; omega)
                go_wp2_with fail
                refine (HCl.out _).mono ?_
                rintro e w6 ⟨rfl, hw6⟩
                rw [hw6]
                clear hw6
                go_wp2_with fail
                refine HWc.out.mono ?_
                rintro e w7 ⟨rfl, hd7, hf7, _⟩
                have HB7 : Hid (Below w.heap.size w w7) := hbl.out.trans (hf7.below HN4.out HN4.out)
                have HSt : Hid (Calls _ _ _ w7 _) := String_bd w4.heap.size w4.heap.size (prtsB bd md body t ++ clB bd) w7 hd7 (Nat.le_of_lt hd7.lt)
                clear hd7 hf7
                go_wp2_with fail
                refine HSt.out.mono ?_
                rintro e w8 ⟨rfl, hb8, _⟩
                have HB8 : Hid (Below w.heap.size w w8) := HB7.out.trans (hb8.mono (by rw [Nat.min_self]; exact HN4.out))
                clear hb8
                go_wp2
                go_ret2
                rw [HQ.out]
                exact ⟨rfl, HB8.out⟩

end Sn
end Go.Proofs.YthdfgepnadgkjaaGreatDoor
