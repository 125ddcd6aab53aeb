/-
  The law SheetBack, walked.
-/
import Derived.Test.YtndglpjkmgcdpaaGreatDoorMgA1
import Derived.Test.YtndglpjkmgcdpaaGreatDoorWrD
import Derived.Test.YtndglpjkmgcdpaaGreatDoorMgY
set_option linter.unusedVariables false
set_option linter.unusedSimpArgs false
namespace Go.Proofs.YtndglpjkmgcdpaaGreatDoor
open Go.RowKit Go.Shelf
namespace Sr
open Oc Tg Mf

theorem par_zero {b l : List UInt8} (h : bndR b = true) : parR b l 0 = ([], 0, 1) := by
  unfold parR
  rw [if_neg (by rw [h]; decide), if_pos (by decide)]
theorem par_less1 {b : List UInt8} {t : List Pt.P5} (h : Good b t) : (parR b (bodyS b t) ((t.length : Int) - 1)).1 = [] ∧ ((parR b (bodyS b t) ((t.length : Int) - 1)).2.2 = 153 ∧ 1 < t.length ∨ (parR b (bodyS b t) ((t.length : Int) - 1)).2.2 = 1 ∧ t.length = 1) := by
  have hpos : 0 < t.length := List.length_pos_iff.2 h.ne
  by_cases h1 : t.length = 1
  · rw [show (t.length : Int) - 1 = 0 by omega, par_zero h.bnd]
    exact ⟨rfl, .inr ⟨rfl, h1⟩⟩
  · have := par_less h (t.length - 1) (by omega) (by omega)
    rw [show ((t.length - 1 : Nat) : Int) = (t.length : Int) - 1 by omega] at this
    exact ⟨this.1, .inl ⟨this.2, by omega⟩⟩
theorem cat4 (A S Z : List UInt8) : str A ++ ⟨#[13, 10]⟩ ++ str S ++ str Z = str (A ++ ([13, 10] ++ (S ++ Z))) := by
  apply eq_list
  simp [ByteArray.data_append, str]
theorem cat5 (b : List UInt8) : (⟨#[45, 45]⟩ : ByteArray) ++ str b = str (45 :: 45 :: b) := by
  apply eq_list
  simp [ByteArray.data_append, str]

set_option maxRecDepth 100000 in
set_option maxHeartbeats 4000000 in
theorem walk_SheetBack (v : Value) (t : List Pt.P5) (hb : t.length + Pt.sumT t ≤ 1048576) (xa xz : ByteArray) (hxa : xa.size ≤ 1048576) (hxz : xz.size ≤ 1048576) (w : World) (hr : Pt.RdT v t w) (htb : Tab w) (hm : ML w) (hp : Pow w) (hg : Er.Gw w) (hw1 : 1 + 1 ≤ w.heap.size) :
    Calls Tryz.prog 3 #[v, .string xa, .string xz] w fun e w' => e = .returned (.bool true) ∧ Below w.heap.size w w' := by
  obtain ⟨N, hN, hfree, hall⟩ := first_freeL (txs t)
  rw [txs_sum] at hN
  have HBd : Hid (∀ W, Below w.heap.size w W → Calls _ _ _ W _) := fun W bl => Boundary_any v t hb N hN hfree hall W (hr.below bl) (hm.below bl) (hp.below bl (Nat.le_refl _)) (Nat.le_trans hw1 bl.size)
  have HRb : Hid (∀ u W, Pt.RdT u t W → Calls _ _ _ W _) := fun u W h => rBoundary_any u t hb N hN hfree hall W h
  have hbl := form_len N (by omega)
  clear hfree hall
  generalize Mf.formL ++ D N = b at *
  have HG : Hid (Calls _ _ _ w _) := Pt.given15_any v t w hr (by omega)
  have HPr : Hid (∀ W, Below w.heap.size w W → Calls _ _ _ W _) := fun W bl => Wr.Print15_any b v t (by omega) hb W (hr.below bl) (hm.below bl) (htb.below bl (Nat.le_refl _))
  have HRp : Hid (∀ u W, Pt.RdT u t W → Calls _ _ _ W _) := fun u W h => Wr.rPrint15_any b u t (by omega) hb W h
  have HA : Hid (∀ W, Below w.heap.size w W → Calls _ _ _ W _) := fun W bl => awake15_any W (hm.below bl)
  have HS : Hid (∀ v1 v2 W, Pt.RdT v1 t W → Pt.RdT v2 t W → Calls _ _ _ W _) := fun v1 v2 W h1 h2 => Wr.parts15_any v1 v2 t W h1 h2 (by omega)
  have HRd : Hid (Pt.RdT v t w) := hr
  have hsl := bodyS_len b t hbl hb
  have HPa : Hid (∀ (l : List UInt8) (n : Int) W, l.length ≤ 300000000 → n ≤ 4000000 → Below w.heap.size w W → Calls Tryz.prog 12 #[.string (str b), .string (str l), .int .i64 n] W fun e w' => ∃ lv, e = .returned (.tuple #[lv, .int .i64 (parR b l n).2.1, .int .i64 (parR b l n).2.2]) ∧ Pt.OwnT 41 W.heap.size lv (parR b l n).1 w' ∧ Below W.heap.size W w') := fun l n W hl hn bl => by
    have := Parse_any (str b) (str l) n (by rw [str_size]; omega) (by rw [str_size]; omega) (by omega) W (htb.below bl (Nat.le_refl _)) (hm.below bl) ⟨htb.below bl (Nat.le_refl _), hm.below bl⟩ (hg.below bl)
    rw [str_list, str_list] at this
    exact this
  obtain ⟨va, vc, rfl, _⟩ := hr
  clear hm htb hg hp hw1
  rcases full_cases b t with ⟨hF, hG⟩ | ⟨hF2, hF1⟩
  · have hpos : 0 < t.length := List.length_pos_iff.2 hG.ne
    obtain ⟨A, rfl⟩ : ∃ A, xa = str A := ⟨xa.data.toList, (str_self xa).symm⟩
    obtain ⟨Z, rfl⟩ : ∃ Z, xz = str Z := ⟨xz.data.toList, (str_self xz).symm⟩
    rw [str_size] at hxa hxz
    have HOw : Hid (∀ W, Below w.heap.size w W → Calls _ _ _ W _) := fun W bl => HPa.out (bodyS b t) (t.length : Int) W (by omega) (by omega) bl
    have HLs : Hid (∀ W, Below w.heap.size w W → Calls _ _ _ W _) := fun W bl => HPa.out (bodyS b t) ((t.length : Int) - 1) W (by omega) (by omega) bl
    have hless := par_less1 hG
    rw [par_own hG] at HOw
    have HMo : Hid (Lib.contains A (45 :: 45 :: b) = false → ∀ W, Below w.heap.size w W → Calls Tryz.prog 12 #[.string (str b), .string (str A ++ ⟨#[13, 10]⟩ ++ str (bodyS b t) ++ str Z), .int .i64 ((t.length : Int) + 3)] W fun e w' => ∃ lv, e = .returned (.tuple #[lv, .int .i64 0, .int .i64 0]) ∧ Pt.OwnT 41 W.heap.size lv t w' ∧ Below W.heap.size W w') := fun hc W bl => by
      have := HPa.out (A ++ ([13, 10] ++ (bodyS b t ++ Z))) (((t.length + 3 : Nat)) : Int) W (by simp only [List.length_append, List.length_cons, List.length_nil]; omega) (by omega) bl
      rw [par_more hG A Z (free_of (by simp) hc), ← cat4, show (((t.length + 3 : Nat)) : Int) = (t.length : Int) + 3 by push_cast; rfl] at this
      exact this
    have HSt : Hid (∀ W, Calls Tryz.prog 14 #[.string (str A), .string (⟨#[45, 45]⟩ ++ str b)] W fun e w' => e = .returned (.bool (Lib.contains A (45 :: 45 :: b))) ∧ w' = W) := fun W => by
      have := Mf.Stands_any (str A) (str (45 :: 45 :: b)) (by rw [str_size]; omega) (by rw [str_size]; simp) (by rw [str_size]; simp; omega) W
      rw [str_list, str_list, ← cat5] at this
      exact this
    rw [hF] at HPr
    dsimp only at HPr HOw
    generalize Lib.contains A (45 :: 45 :: b) = CN at *
    generalize parR b (bodyS b t) ((t.length : Int) - 1) = R at *
    obtain ⟨R1, R2, R3⟩ := R
    dsimp only at hless HLs
    obtain ⟨hR1, hless⟩ := hless
    subst hR1
    have hzS : (str (bodyS b t)).size = (bodyS b t).length := str_size _
    have hzA : (str A).size = A.length := str_size _
    have hzZ : (str Z).size = Z.length := str_size _
    have hzb : (str b).size = b.length := str_size _
    clear HPa HRb HRp hF hG
    generalize bodyS b t = S at *
    obtain ⟨zs, hzs⟩ : ∃ z, S.length = z := ⟨_, rfl⟩
    obtain ⟨za, hza⟩ : ∃ z, A.length = z := ⟨_, rfl⟩
    obtain ⟨zz, hzz⟩ : ∃ z, Z.length = z := ⟨_, rfl⟩
    obtain ⟨zb, hzbb⟩ : ∃ z, b.length = z := ⟨_, rfl⟩
    rw [hzs] at hzS hsl
    rw [hza] at hzA hxa
    rw [hzz] at hzZ hxz
    rw [hzbb] at hzb hbl
    clear hzs hza hzz hzbb
    generalize str S = SS at *
    generalize str A = SA at *
    generalize str Z = SZ at *
    generalize str b = SB at *
    have a1 : ¬ (9223372036854775807 < za + 2) := by omega
    have a2 : ¬ (9223372036854775807 < za + 2 + zs) := by omega
    have a3 : ¬ (9223372036854775807 < za + 2 + zs + zz) := by omega
    have a4 : ¬ (9223372036854775807 < 2 + zb) := by omega
    go_enter Tryz.func3, Tryz.ntmps3
    go_wp2_with fail
    refine HG.out.mono ?_
    rintro e w1 ⟨u, rfl, o1, hb1⟩
    have HB1 : Hid (Below w.heap.size w w1) := hb1
    have HU1 : Hid (Pt.RdT u t w1) := o1.rd
    clear hb1 o1
    go_wp2_with fail
    refine (HBd.out _ HB1.out).mono ?_
    rintro e w2 ⟨rfl, hb2⟩
    have HB2 : Hid (Below w.heap.size w w2) := bel_trans HB1.out hb2
    have HU2 : Hid (Pt.RdT u t w2) := HU1.out.below hb2
    clear hb2
    go_wp2_with fail
    refine (HPr.out _ HB2.out).mono ?_
    rintro e w3 ⟨rfl, hb3⟩
    have HB3 : Hid (Below w.heap.size w w3) := bel_trans HB2.out hb3
    have HU3 : Hid (Pt.RdT u t w3) := HU2.out.below hb3
    clear hb3
    go_wp2_with fail
    refine (HOw.out _ HB3.out).mono ?_
    rintro e w4 ⟨l4, rfl, o4, hb4⟩
    have HB4 : Hid (Below w.heap.size w w4) := bel_trans HB3.out hb4
    have HU4 : Hid (Pt.RdT u t w4) := HU3.out.below hb4
    have HL4 : Hid (Pt.RdT l4 t w4) := o4.rd
    clear hb4 o4
    go_wp2_with fail
    refine (HS.out _ _ _ HL4.out HU4.out).mono ?_
    rintro e w5 ⟨rfl, q5, hq5⟩
    have HB5 : Hid (Below w.heap.size w w5) := (by rw [hq5]; exact below_drewN HB4.out _ : Below _ _ _)
    have HU5 : Hid (Pt.RdT u t w5) := (by rw [hq5]; exact HU4.out.below (below_drewN (Below.refl _ _) _) : Pt.RdT _ _ _)
    clear hq5
    go_wp2_with fail
    refine (HLs.out _ HB5.out).mono ?_
    rintro e w6 ⟨l6, rfl, o6, hb6⟩
    have HB6 : Hid (Below w.heap.size w w6) := bel_trans HB5.out hb6
    have HU6 : Hid (Pt.RdT u t w6) := HU5.out.below hb6
    obtain ⟨a6, c6, rfl, _⟩ := o6.rd
    clear hb6 o6 HLs HOw
    rcases hless with ⟨rfl, hl1⟩ | ⟨rfl, hl1⟩
    · have k1 : decide ((1 : Int) < (t.length : Int)) = true := by simp; omega
      have k2 : ((t.length : Int) == 1) = false := by simp; omega
      go_wp2_with fail
      refine (HSt.out _).mono ?_
      rintro e w7 ⟨rfl, hw7⟩
      rw [hw7]
      clear hw7
      cases hc : CN with
      | true =>
        go_wp2_with fail
        refine (HA.out _ HB6.out).mono ?_
        rintro e w8 ⟨rfl, hb8⟩
        have HB8 : Hid (Below w.heap.size w w8) := bel_trans HB6.out hb8
        clear hb8
        go_wp2
        go_ret
        exact ⟨rfl, HB8.out⟩
      | false =>
        have HPm : Hid (∀ W, Below w.heap.size w W → Calls _ _ _ W _) := HMo.out hc
        go_wp2_with fail
        refine (HPm.out _ HB6.out).mono ?_
        rintro e w8 ⟨l8, rfl, o8, hb8⟩
        have HB8 : Hid (Below w.heap.size w w8) := bel_trans HB6.out hb8
        have HU8 : Hid (Pt.RdT u t w8) := HU6.out.below hb8
        have HL8 : Hid (Pt.RdT l8 t w8) := o8.rd
        clear hb8 o8
        go_wp2_with fail
        refine (HA.out _ HB8.out).mono ?_
        rintro e w9 ⟨rfl, hb9⟩
        have HB9 : Hid (Below w.heap.size w w9) := bel_trans HB8.out hb9
        have HU9 : Hid (Pt.RdT u t w9) := HU8.out.below hb9
        have HL9 : Hid (Pt.RdT l8 t w9) := HL8.out.below hb9
        clear hb9
        go_wp2_with fail
        refine (HS.out _ _ _ HL9.out HU9.out).mono ?_
        rintro e w10 ⟨rfl, q10, hq10⟩
        have HB10 : Hid (Below w.heap.size w w10) := (by rw [hq10]; exact below_drewN HB9.out _ : Below _ _ _)
        clear hq10
        go_wp2
        go_ret
        exact ⟨rfl, HB10.out⟩
    · have k1 : decide ((1 : Int) < (t.length : Int)) = false := by simp; omega
      have k2 : ((t.length : Int) == 1) = true := by simp; omega
      clear hl1
      go_wp2_with fail
      refine (HSt.out _).mono ?_
      rintro e w7 ⟨rfl, hw7⟩
      rw [hw7]
      clear hw7
      cases hc : CN with
      | true =>
        go_wp2_with fail
        refine (HA.out _ HB6.out).mono ?_
        rintro e w8 ⟨rfl, hb8⟩
        have HB8 : Hid (Below w.heap.size w w8) := bel_trans HB6.out hb8
        clear hb8
        go_wp2
        go_ret
        exact ⟨rfl, HB8.out⟩
      | false =>
        have HPm : Hid (∀ W, Below w.heap.size w W → Calls _ _ _ W _) := HMo.out hc
        go_wp2_with fail
        refine (HPm.out _ HB6.out).mono ?_
        rintro e w8 ⟨l8, rfl, o8, hb8⟩
        have HB8 : Hid (Below w.heap.size w w8) := bel_trans HB6.out hb8
        have HU8 : Hid (Pt.RdT u t w8) := HU6.out.below hb8
        have HL8 : Hid (Pt.RdT l8 t w8) := o8.rd
        clear hb8 o8
        go_wp2_with fail
        refine (HA.out _ HB8.out).mono ?_
        rintro e w9 ⟨rfl, hb9⟩
        have HB9 : Hid (Below w.heap.size w w9) := bel_trans HB8.out hb9
        have HU9 : Hid (Pt.RdT u t w9) := HU8.out.below hb9
        have HL9 : Hid (Pt.RdT l8 t w9) := HL8.out.below hb9
        clear hb9
        go_wp2_with fail
        refine (HS.out _ _ _ HL9.out HU9.out).mono ?_
        rintro e w10 ⟨rfl, q10, hq10⟩
        have HB10 : Hid (Below w.heap.size w w10) := (by rw [hq10]; exact below_drewN HB9.out _ : Below _ _ _)
        clear hq10
        go_wp2
        go_ret
        exact ⟨rfl, HB10.out⟩
  · generalize Wr.fullR b t = FR at *
    obtain ⟨F1, F2⟩ := FR
    dsimp only at HPr HRp hF1 hF2
    subst hF1
    have q0 : (F2 != 0) = true := by simp [hF2]
    have q1 : (str []).toList.isEmpty = true := Fd.empty_str rfl
    clear HPa HS
    go_enter Tryz.func3, Tryz.ntmps3
    go_wp2_with fail
    refine HG.out.mono ?_
    rintro e w1 ⟨u, rfl, o1, hb1⟩
    have HB1 : Hid (Below w.heap.size w w1) := hb1
    have HU1 : Hid (Pt.RdT u t w1) := o1.rd
    clear hb1 o1
    go_wp2_with fail
    refine (HBd.out _ HB1.out).mono ?_
    rintro e w2 ⟨rfl, hb2⟩
    have HB2 : Hid (Below w.heap.size w w2) := bel_trans HB1.out hb2
    have HU2 : Hid (Pt.RdT u t w2) := HU1.out.below hb2
    clear hb2
    go_wp2_with fail
    refine (HPr.out _ HB2.out).mono ?_
    rintro e w3 ⟨rfl, hb3⟩
    have HB3 : Hid (Below w.heap.size w w3) := bel_trans HB2.out hb3
    have HU3 : Hid (Pt.RdT u t w3) := HU2.out.below hb3
    clear hb3
    go_wp2_with fail
    refine (HRb.out _ _ HU3.out).mono ?_
    rintro e w4 ⟨rfl, hb4⟩
    have HB4 : Hid (Below w.heap.size w w4) := bel_trans HB3.out hb4
    have HU4 : Hid (Pt.RdT u t w4) := HU3.out.below hb4
    clear hb4
    go_wp2_with fail
    refine (HRp.out _ _ HU4.out).mono ?_
    rintro e w5 ⟨rfl, hb5⟩
    have HB5 : Hid (Below w.heap.size w w5) := bel_trans HB4.out hb5
    clear hb5
    go_wp2_with fail
    refine (HA.out _ HB5.out).mono ?_
    rintro e w6 ⟨rfl, hb6⟩
    have HB6 : Hid (Below w.heap.size w w6) := bel_trans HB5.out hb6
    clear hb6
    go_wp2
    go_ret
    exact ⟨rfl, HB6.out⟩

end Sr
end Go.Proofs.YtndglpjkmgcdpaaGreatDoor
