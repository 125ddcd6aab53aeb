/-
  SpanBack.
-/
import Derived.Test.YthdfgepnadgkjaaGreatDoorPbQ
import Derived.Test.YthdfgepnadgkjaaGreatDoorSnY
import Derived.Test.YthdfgepnadgkjaaGreatDoorZzX
import Derived.Deep.QuietTactic
set_option linter.unusedVariables false
set_option linter.unusedSimpArgs false
namespace Go.Proofs.YthdfgepnadgkjaaGreatDoor
open Go.RowKit Go.Shelf
namespace Sn
open Oc Tg Ac Mk

theorem neN9b (a b c d : Int) (w : World) : (binOp .neq 38 (.agg #[.int .i64 a, .int .i64 b]) (.agg #[.int .i64 c, .int .i64 d])).run Tryz.prog w = .ok (.bool (!(a == c && b == d))) w := by
  have u3 := Tryz.underlying3
  have a3 := Tryz.isAgg3
  have z3 := Tryz.sizeOf3
  have hS : Tryz.prog.underlying 38 = some (.struct (Tryz.prog.fieldsOf 38)) := by kernel_rfl
  have hp : Tryz.prog.stoodInHeld 38 = false := by kernel_rfl
  rw [run_neq_struct, show (10000 : Nat) = 9999 + 1 from rfl, run_equalIn_agg w 9999 38 _ _ hS hp]
  simp only [Program.fieldsOf, Tryz.underlying38]
  go_simp
  by_cases h1 : a = c <;> by_cases h2 : b = d <;> simp [h1, h2]
/-- Does a span lie in another? -/
def lies (y x : Sp) : Bool := decide (x.1 ≤ y.1) && decide (y.2 ≤ x.2)
theorem any_take {t : List Sp} {y : Sp} {k : Nat} (h : k < t.length) : (t.take (k + 1)).any (lies y) = ((t.take k).any (lies y) || lies y (nthN t k)) := by
  rw [take_nthN t k h, List.any_append]
  simp

set_option maxRecDepth 100000 in
set_option maxHeartbeats 8000000 in
theorem walk_SpanBack (S : ByteArray) (hS : S.size ≤ 1048576) (Y : ByteArray) (hY : Y.size ≤ 1048576) (w : World) (hw : ML w ∧ Pow w) :
    Calls Tryz.prog 3 #[.string S, .string Y] w fun e w' => e = .returned (.bool true) ∧ Below w.heap.size w w' := by
  obtain ⟨body, rfl⟩ : ∃ s, Y = str s := ⟨Y.data.toList, (str_self Y).symm⟩
  have hYz := hY
  rw [str_size] at hY
  obtain ⟨hml, hpw⟩ := hw
  have hsl : S.data.toList.length = S.size := size_list S
  have hps := par_sp S.data.toList (body.length : Int) (by omega)
  have HPa : Hid (∀ W, Below w.heap.size w W → Calls _ _ _ W _) := fun W hb => Parse_any S hS (body.length : Int) (by omega) (by omega) W (hml.below hb)
  have HrP : Hid (∀ W, Calls _ _ _ W _) := fun W => rParse_any S hS (body.length : Int) (by omega) (by omega) W
  have HA : Hid (∀ W, Below w.heap.size w W → Calls Tryz.prog 6 #[] W fun e w' => e = .returned (.bool true) ∧ Below (World.heap W).size W w') := fun W hb => awake_any W (hml.below hb)
  rw [hsl] at hps
  generalize parR S.data.toList (body.length : Int) = P at *
  obtain ⟨t, er⟩ := P
  dsimp only at hps HPa HrP
  have zY : (str body).size = body.length := str_size _
  have HB0 : Hid (Below w.heap.size w w) := Below.refl _ _
  by_cases her : er = 0
  · subst her
    obtain ⟨hsp, hne, hlen⟩ := hps rfl
    have htl : t.length ≤ 1048576 := by omega
    obtain ⟨N, hN, hfree, hall⟩ := first_free body
    obtain ⟨hmk, hmkl⟩ := mark_ok N (by omega)
    have HBo : Hid (∀ W, Below w.heap.size w W → Calls Tryz.prog 8 #[.string (str body)] W fun e w' => e = .returned (.string (str (partL ++ D N))) ∧ Below (World.heap W).size W w') := fun W bl => Boundary_any body hY N hN hfree hall W (hml.below bl) (hpw.below bl (Nat.le_refl _))
    have hfr := mark_free hfree
    have HMg : Hid (∀ v W, RdN v t W → Calls Tryz.prog 7 #[v] W fun e w' => ∃ u m, e = .returned u ∧ RdN u m w' ∧ MrgOf t m ∧ Below (World.heap W).size W w') := fun v W h => Merge_any v t htl W h
    generalize partL ++ D N = bd at *
    have hmd : isFld [97, 47, 98] = true := by decide
    have HPt : Hid (∀ (m : List Sp), MrgOf t m → ∀ v W, Below w.heap.size w W → RdN v m W → Calls Tryz.prog 9 #[.string (str bd), .string ⟨#[97, 47, 98]⟩, .string (str body), v] W fun e w' => e = .returned (.tuple #[.string (str (prtsB bd [97, 47, 98] body m ++ clB bd)), .int .i64 0]) ∧ Below (World.heap W).size W w') := fun m hm v W hb hr => by
      have h := Parts_any bd [97, 47, 98] body v m (by omega) (by simp) hY (by have := hm.2.2; omega) W hr (hml.below hb) (hpw.below hb (Nat.le_refl _))
      have hal : allSp m body.length = true := by unfold allSp; exact List.all_eq_true.2 (mrg_sp hm hsp)
      have hm0 : ¬ (m.length = 0) := fun e => mrg_ne hm hsp hne (List.length_eq_zero_iff.1 e)
      have hpr : partsR bd [97, 47, 98] body m = (prtsB bd [97, 47, 98] body m ++ clB bd, 0) := by
        unfold partsR
        rw [if_neg (by rw [hmk]; decide), if_neg (by rw [hfr]; decide), if_neg (by rw [hmd]; decide), if_neg hm0, if_pos hal]
      rw [hpr] at h
      exact h
    have HPc : Hid (∀ (m : List Sp), MrgOf t m → ∀ W, Below w.heap.size w W → Calls Tryz.prog 10 #[.string (str bd), .string (str (prtsB bd [97, 47, 98] body m ++ clB bd))] W fun e w' => ∃ lv, e = .returned (.tuple #[lv, .int .i64 0, .int .i64 0]) ∧ OwnC 40 (World.heap W).size lv (m.map (pcOf [97, 47, 98] body)) w' ∧ Below (World.heap W).size W w') := fun m hm W hb => by
      have hsm := prts_small (bd := bd) (md := [97, 47, 98]) (body := body) hmkl (by simp) hY m 0 hm.1 (fun x hx => ⟨mrg_sp hm hsp x hx, by have := mrg_sp hm hsp x hx; unfold isSp at this; simp at this; omega⟩) (by omega)
      have hml' := hm.2.2
      have h := Pieces_any bd (by omega) (str (prtsB bd [97, 47, 98] body m ++ clB bd)) (by rw [str_size, List.length_append]; unfold clB; simp only [List.length_append, List.length_cons, List.length_nil]; omega) w hml hpw W hb
      rw [str_list, parts_back hmk hmd (by omega) (mrg_sp hm hsp) (mrg_ne hm hsp hne)] at h
      exact h
    have HTo : Hid (∀ (m : List Sp) v W, m.length ≤ 1048576 → RdN v m W → Calls Tryz.prog 11 #[v] W fun e w' => e = .returned (.int .i64 (totL m)) ∧ Below (World.heap W).size W w') := fun m v W hm hr => Total_any v m W hr (by omega)
    clear hps HrP hfr hfree hall hmk hmkl hN hml hpw hmd
    generalize str bd = BD at *
    go_enter Tryz.func3, Tryz.ntmps3
    go_wp2_with fail
    refine (HPa.out _ HB0.out).mono ?_
    rintro e w1 ⟨lv, rfl, ho1, hb1⟩
    have HL1 : Hid (RdN lv t w1) := ho1.rd
    have H1 : Hid (Below w.heap.size w w1) := hb1
    obtain ⟨la, lc, rfl⟩ := ho1.form
    clear ho1 hb1
    go_wp2_with fail
    refine (HMg.out _ _ HL1.out).mono ?_
    rintro e w2 ⟨mv, m, rfl, hr2, hmg, hb2⟩
    have HL2 : Hid (RdN (.slice la t.length lc) t w2) := HL1.out.below hb2
    have HM2 : Hid (RdN mv m w2) := hr2
    have HG : Hid (MrgOf t m) := hmg
    have H2 : Hid (Below w.heap.size w w2) := bel_trans H1.out hb2
    obtain ⟨ma, mc, rfl, _⟩ := hr2
    clear hmg hb2 HMg
    go_wp2_with fail
    refine (HBo.out _ H2.out).mono ?_
    rintro e w3 ⟨rfl, hb3⟩
    have HL3 : Hid (RdN (.slice la t.length lc) t w3) := HL2.out.below hb3
    have HM3 : Hid (RdN (.slice ma m.length mc) m w3) := HM2.out.below hb3
    have H3 : Hid (Below w.heap.size w w3) := bel_trans H2.out hb3
    clear hb3
    have HPt' : Hid (∀ v W, Below w.heap.size w W → RdN v m W → Calls _ _ _ W _) := HPt.out m HG.out
    have HPc' : Hid (∀ W, Below w.heap.size w W → Calls _ _ _ W _) := HPc.out m HG.out
    clear HPt HPc HBo HPa
    generalize str (prtsB bd [97, 47, 98] body m ++ clB bd) = PS at *
    go_wp2_with fail
    refine (HPt'.out _ _ H3.out HM3.out).mono ?_
    rintro e w4 ⟨rfl, hb4⟩
    have HL4 : Hid (RdN (.slice la t.length lc) t w4) := HL3.out.below hb4
    have HM4 : Hid (RdN (.slice ma m.length mc) m w4) := HM3.out.below hb4
    have H4 : Hid (Below w.heap.size w w4) := bel_trans H3.out hb4
    clear hb4
    go_wp2_with fail
    refine (HPc'.out _ H4.out).mono ?_
    rintro e w5 ⟨pv, rfl, ho5, hb5⟩
    have HL5 : Hid (RdN (.slice la t.length lc) t w5) := HL4.out.below hb5
    have HM5 : Hid (RdN (.slice ma m.length mc) m w5) := HM4.out.below hb5
    have HC5 : Hid (RdC9 pv (m.map (pcOf [97, 47, 98] body)) w5) := ho5.rd9
    have H5 : Hid (Below w.heap.size w w5) := bel_trans H4.out hb5
    obtain ⟨pa, pc, rfl⟩ := ho5.form
    clear ho5 hb5 HL1 HL2 HL3 HL4 HM2 HM3 HM4 H1 H2 H3 H4 HPt' HPc'
    rw [List.length_map] at *
    have hmt : m.length ≤ t.length := HG.out.2.2
    have hmn : ((m.length : Int) != (m.length : Int)) = false := by simp
    have hm0 : ¬ ((m.length : Int) = 0) := fun e => mrg_ne HG.out hsp hne (List.length_eq_zero_iff.1 (by omega))
    have hm0' : ((m.length : Int) == 0) = false := by simpa using hm0
    have HSP : Hid (∀ x ∈ m, isSp x (body.length : Int) = true) := mrg_sp HG.out hsp
    have HST : Hid (∀ x ∈ t, isSp x (body.length : Int) = true) := hsp
    clear hsp
    have hpp : (⟨#[97, 47, 98]⟩ : ByteArray) = str [97, 47, 98] := rfl
    go_wp2_with fail
    go_loopw [16, 17] (fun nv i wr => ∃ (k n : Nat), k ≤ m.length ∧ n ≤ k * 1048576 ∧ nv = .int .i64 (n : Int) ∧ Hid ((n : Int) = totL (m.take k)) ∧ i = .int .i64 (k : Int) ∧ Hid (Below w5.heap.size w5 wr)) (fun _ i _ => m.length - (intOf i).toNat)
    case atStart => exact ⟨0, 0, Nat.zero_le _, by omega, rfl, (rfl : (0 : Int) = totL []), rfl, Below.refl _ _⟩
    case round =>
      obtain ⟨k, n, hk, hn, rfl, HT, rfl, HBr⟩ := hrel
      by_cases hlt : k < m.length
      · obtain ⟨pa', pc', e1, hcs1⟩ := HC5.out.below HBr.out
        injection e1 with e11 e13 e12
        clear e13
        subst e11 e12
        rw [List.length_map] at hcs1
        rcases hcs1 with h | ⟨g1, rfl, hlc1, hcell1⟩
        · rw [List.map_eq_nil_iff] at h; rw [h] at hlt; simp at hlt
        obtain ⟨ma', mc', e2, hcs2⟩ := HM5.out.below HBr.out
        injection e2 with e21 _ e22
        subst e21 e22
        rcases hcs2 with h | ⟨g2, o2, rfl, hlc2, hcell2⟩
        · rw [h] at hlt; simp at hlt
        obtain ⟨p0, p1, p2, p3, p4⟩ := hcell1 k hlt
        obtain ⟨q0, q1⟩ := hcell2 k hlt
        rw [map_nth _ _ _ _ hlt] at p0 p1 p2 p3 p4
        have hmem : nthN m k ∈ m := by rw [nthN_mem' hlt]; exact List.getElem_mem _
        have hx := HSP.out _ hmem
        have HT2 : Hid (totL (m.take (k + 1)) = totS (n : Int) (nthN m k)) := (by rw [take_nthN m k hlt, totL_snoc, HT.out] : totL (m.take (k + 1)) = totS (n : Int) (nthN m k))
        have hg1 : g1 < wr.heap.size := World.block_lt_of_cell? wr _ p0
        have hg2 : g2 < wr.heap.size := World.block_lt_of_cell? wr _ q0
        clear hcell1 hcell2 HT
        unfold pcOf at p0 p1 p2 p3 p4
        dsimp only at p0 p1 p2 p3 p4
        generalize nthN m k = X at *
        obtain ⟨x1, x2⟩ := X
        have hh : 0 ≤ x1 ∧ x1 < x2 ∧ x2 ≤ (body.length : Int) := of_decide_eq_true hx
        obtain ⟨a, rfl⟩ : ∃ a : Nat, x1 = (a : Int) := ⟨x1.toNat, by omega⟩
        obtain ⟨b, rfl⟩ : ∃ b : Nat, x2 = (b : Int) := ⟨x2.toNat, by omega⟩
        dsimp only at p0 p1 p2 p3 p4 q0 q1
        rw [Int.toNat_natCast, Int.toNat_natCast] at p4
        have hbl : ((body.drop a).take (b - a)).length = b - a := by rw [List.length_take, List.length_drop]; omega
        have hxs := sub_str body a b
        obtain ⟨BY, hBY⟩ : ∃ BY, BY = str ((body.drop a).take (b - a)) := ⟨_, rfl⟩
        have hbz : BY.size = b - a := by rw [hBY, str_size, hbl]
        rw [← hBY] at p4 hxs
        have HT3 : Hid (((n + (b - a) : Nat) : Int) = totL (m.take (k + 1))) := (by
          rw [HT2.out]
          unfold totS emp wrap64
          rw [if_neg (by simp; omega)]
          dsimp only
          omega : _ = _)
        clear hBY HT2 hbl hx hmem
        have hb1 : (a : Int) < (b : Int) := hh.2.1
        have hb2 : (b : Int) ≤ (body.length : Int) := hh.2.2
        have hb3 : b ≤ body.length := by omega
        have hb4 : a < b := by omega
        have hb5 : (a : Int) ≤ (b : Int) := by omega
        have hb6 : a ≤ b := by omega
        have nM : ((str [97, 47, 98]).toList == (str [97, 47, 98]).toList) = true := by simp
        clear hh
        obtain ⟨w6, hw6⟩ : ∃ w6, w6 = wr.alloc (.cells #[.int .i64 (a : Int), .int .i64 (b : Int)] 38) := ⟨_, rfl⟩
        have HP6 : Hid (PB 38 w6 wr.heap.size ((a : Int), (b : Int))) := (by rw [hw6]; exact PB.new _ wr ((a : Int), (b : Int)) : PB _ _ _ _)
        have HB6 : Hid (Below wr.heap.size wr w6) := (by rw [hw6]; exact (Below.refl _ wr).alloc (Nat.le_refl _) _ : Below _ _ _)
        have HB7 : Hid (Below w5.heap.size w5 w6) := bel_trans HBr.out HB6.out
        have r0 := HP6.out.c0
        have r1 := HP6.out.c1
        have s0 := (HB6.out.cell (p := ⟨g1, k * 5, none⟩) hg1).trans p0
        have s1 := (HB6.out.cell (p := ⟨g1, k * 5 + 1, none⟩) hg1).trans p1
        have s2 := (HB6.out.cell (p := ⟨g1, k * 5 + 2, none⟩) hg1).trans p2
        have s3 := (HB6.out.cell (p := ⟨g1, k * 5 + 3, none⟩) hg1).trans p3
        have s4 := (HB6.out.cell (p := ⟨g1, k * 5 + 4, none⟩) hg1).trans p4
        have t0 := (HB6.out.cell (p := ⟨g2, o2 + k * 2, none⟩) hg2).trans q0
        have t1 := (HB6.out.cell (p := ⟨g2, o2 + k * 2 + 1, none⟩) hg2).trans q1
        have hneq : ∀ W, (binOp .neq 38 (.agg #[.int .i64 (a : Int), .int .i64 (b : Int)]) (.agg #[.int .i64 (a : Int), .int .i64 (b : Int)])).run Tryz.prog W = .ok (.bool false) W := fun W => by rw [neN9b]; simp
        have nB : (BY.toList == BY.toList) = true := by simp
        have nL : ((body.length : Int) != (body.length : Int)) = false := by simp
        go_wp2_with fail
        rw [← hw6]
        clear hw6 p0 p1 p2 p3 p4 q0 q1
        go_wp2_with fail
        go_quiet (fail)
        go_wp2
        go_roundw
        case rel => exact ⟨k + 1, n + (b - a), by omega, by omega, by go_num, HT3, by go_num, bel_drewN HB7.out _⟩
        case measure => simp [intOf]; omega
      · obtain rfl : k = m.length := by omega
        rw [List.take_length] at HT
        have HB6 : Hid (Below w.heap.size w wr) := bel_trans H5.out HBr.out
        have HL6 : Hid (RdN (.slice la t.length lc) t wr) := HL5.out.below HBr.out
        have HM6 : Hid (RdN (.slice ma m.length mc) m wr) := HM5.out.below HBr.out
        have HF : Hid (∀ y ∈ t, m.any (lies y) = true) := (fun y hy => by
          have hy2 : 0 ≤ y.1 ∧ y.1 < y.2 ∧ y.2 ≤ (body.length : Int) := of_decide_eq_true (HST.out y hy)
          obtain ⟨x, hx, h1, h2⟩ := mrg_in HG.out hy hy2.2.1
          exact List.any_eq_true.2 ⟨x, hx, by unfold lies; rw [decide_eq_true h1, decide_eq_true h2]; rfl⟩ : ∀ y ∈ t, _)
        have hnn : ((n : Int) == (n : Int)) = true := by simp
        clear HBr HL5 HM5 HC5 H5 HST HSP HG hm0 hm0' hmn hne
        go_wp2_with fail
        obtain ⟨wz, rfl⟩ : ∃ z, z = wr := ⟨_, rfl⟩
        go_loopw [19] (fun i w2r => ∃ (k2 : Nat), k2 ≤ t.length ∧ i = .int .i64 (k2 : Int) ∧ Hid (Below wz.heap.size wz w2r)) (fun i _ => t.length - (intOf i).toNat)
        case atStart => exact ⟨0, Nat.zero_le _, rfl, Below.refl _ _⟩
        case round =>
          obtain ⟨wq, rfl⟩ : ∃ z, z = wr := ⟨_, rfl⟩
          obtain ⟨i2, hi2, rfl, HBq⟩ := hrel
          by_cases hit : i2 < t.length
          · have HMq : Hid (RdN (.slice ma m.length mc) m wq) := HM6.out.below HBq.out
            obtain ⟨la', lc', e1, hcs1⟩ := HL6.out.below HBq.out
            injection e1 with e11 e13 e12
            clear e13
            subst e11 e12
            rcases hcs1 with h | ⟨g1, o1, rfl, hlc1, hcell1⟩
            · rw [h] at hit; simp at hit
            obtain ⟨p0, p1⟩ := hcell1 i2 hit
            have hmem : nthN t i2 ∈ t := by rw [nthN_mem' hit]; exact List.getElem_mem _
            have HFi : Hid (m.any (lies (nthN t i2)) = true) := HF.out _ hmem
            have hg1 : g1 < wq.heap.size := World.block_lt_of_cell? wq _ p0
            clear hcell1 hmem
            generalize nthN t i2 = Y at *
            obtain ⟨y1, y2⟩ := Y
            dsimp only at p0 p1
            have HC1 : Hid (∀ W, Below wq.heap.size wq W → W.cell? ⟨g1, o1 + i2 * 2, none⟩ = some (.int .i64 y1) ∧ W.cell? ⟨g1, o1 + i2 * 2 + 1, none⟩ = some (.int .i64 y2)) := fun W hb => ⟨(hb.cell (p := ⟨g1, o1 + i2 * 2, none⟩) hg1).trans p0, (hb.cell (p := ⟨g1, o1 + i2 * 2 + 1, none⟩) hg1).trans p1⟩
            clear p0 p1
            go_wp2_with fail
            go_loopw [20, 21] (fun fv i w3r => ∃ (k3 : Nat), k3 ≤ m.length ∧ fv = .bool ((m.take k3).any (lies (y1, y2))) ∧ i = .int .i64 (k3 : Int) ∧ Hid (Below wq.heap.size wq w3r)) (fun _ i _ => m.length - (intOf i).toNat)
            case atStart => exact ⟨0, Nat.zero_le _, by simp, rfl, Below.refl _ _⟩
            case round =>
              obtain ⟨wp, rfl⟩ : ∃ z, z = wr := ⟨_, rfl⟩
              obtain ⟨i3, hi3, rfl, rfl, HBp⟩ := hrel
              by_cases hjt : i3 < m.length
              · obtain ⟨ma', mc', e2, hcs2⟩ := HMq.out.below HBp.out
                injection e2 with e21 e23 e22
                clear e23
                subst e21 e22
                rcases hcs2 with h | ⟨g2, o2, rfl, hlc2, hcell2⟩
                · rw [h] at hjt; simp at hjt
                obtain ⟨q0, q1⟩ := hcell2 i3 hjt
                obtain ⟨p0, p1⟩ := HC1.out _ HBp.out
                have HN : Hid ((m.take (i3 + 1)).any (lies (y1, y2)) = ((m.take i3).any (lies (y1, y2)) || lies (y1, y2) (nthN m i3))) := any_take hjt
                clear hcell2
                generalize nthN m i3 = X at *
                obtain ⟨x1, x2⟩ := X
                dsimp only at q0 q1
                rw [show lies (y1, y2) (x1, x2) = (decide (x1 ≤ y1) && decide (y2 ≤ x2)) from rfl] at HN
                generalize List.any (m.take i3) (lies (y1, y2)) = fb at *
                cases fb with
                | true =>
                  go_wp2_with fail
                  go_quiet (fail)
                  go_wp2
                  go_roundw
                  case rel => exact ⟨i3 + 1, by omega, by rw [HN.out]; rfl, by go_num, bel_drewN HBp.out _⟩
                  case measure => simp [intOf]; omega
                | false =>
                  by_cases c1 : x1 ≤ y1
                  · by_cases c2 : y2 ≤ x2
                    · have d1 : decide (x1 ≤ y1) = true := decide_eq_true c1
                      have d2 : decide (y2 ≤ x2) = true := decide_eq_true c2
                      go_wp2_with fail
                      go_quiet (fail)
                      go_wp2
                      go_roundw
                      case rel => exact ⟨i3 + 1, by omega, by rw [HN.out, d1, d2]; rfl, by go_num, bel_drewN HBp.out _⟩
                      case measure => simp [intOf]; omega
                    · have d1 : decide (x1 ≤ y1) = true := decide_eq_true c1
                      have d2 : decide (y2 ≤ x2) = false := decide_eq_false c2
                      go_wp2_with fail
                      go_quiet (fail)
                      go_wp2
                      go_roundw
                      case rel => exact ⟨i3 + 1, by omega, by rw [HN.out, d1, d2]; rfl, by go_num, bel_drewN HBp.out _⟩
                      case measure => simp [intOf]; omega
                  · have d1 : decide (x1 ≤ y1) = false := decide_eq_false c1
                    go_wp2_with fail
                    go_quiet (fail)
                    go_wp2
                    go_roundw
                    case rel => exact ⟨i3 + 1, by omega, by rw [HN.out, d1]; rfl, by go_num, bel_drewN HBp.out _⟩
                    case measure => simp [intOf]; omega
              · obtain rfl : i3 = m.length := by omega
                rw [List.take_length, HFi.out]
                have HBz : Hid (Below wz.heap.size wz wp) := bel_trans HBq.out HBp.out
                go_wp2
                go_roundw
                case rel => exact ⟨i2 + 1, by omega, by go_num, HBz⟩
                case measure => simp [intOf]; omega
          · have HBq2 : Hid (Below w.heap.size w wq) := bel_trans HB6.out HBq.out
            have HMq : Hid (RdN (.slice ma m.length mc) m wq) := HM6.out.below HBq.out
            have HTm : Hid (∀ v W, RdN v m W → Calls _ _ _ W _) := fun v W h => HTo.out m v W (by omega) h
            rw [← HT.out] at HTm
            clear HT
            go_wp2_with fail
            refine (HA.out _ HBq2.out).mono ?_
            rintro e w8 ⟨rfl, hb8⟩
            have H8 : Hid (Below w.heap.size w w8) := bel_trans HBq2.out hb8
            have HM8 : Hid (RdN (.slice ma m.length mc) m w8) := HMq.out.below hb8
            clear hb8
            go_wp2_with fail
            refine (HTm.out _ _ HM8.out).mono ?_
            rintro e w9 ⟨rfl, hb9⟩
            have H9 : Hid (Below w.heap.size w w9) := bel_trans H8.out hb9
            clear hb9
            go_wp2
            go_ret
            exact ⟨rfl, H9.out⟩
  · have hne : (er != 0) = true := by simpa using her
    clear hps
    go_enter Tryz.func3, Tryz.ntmps3
    go_wp2_with fail
    refine (HPa.out _ HB0.out).mono ?_
    rintro e w1 ⟨lv, rfl, ho1, hb1⟩
    have H1 : Hid (Below w.heap.size w w1) := hb1
    obtain ⟨la, lc, rfl⟩ := ho1.form
    clear ho1 hb1
    go_wp2_with fail
    refine (HrP.out _).mono ?_
    rintro e w2 ⟨dv, rfl, ho2, hb2⟩
    have H2 : Hid (Below w.heap.size w w2) := bel_trans H1.out hb2
    obtain ⟨da, dc, rfl⟩ := ho2.form
    clear ho2 hb2
    go_wp2_with fail
    refine (HA.out _ H2.out).mono ?_
    rintro e w3 ⟨rfl, hb3⟩
    have H3 : Hid (Below w.heap.size w w3) := bel_trans H2.out hb3
    clear hb3
    go_wp2
    go_ret
    exact ⟨rfl, H3.out⟩

end Sn
end Go.Proofs.YthdfgepnadgkjaaGreatDoor
