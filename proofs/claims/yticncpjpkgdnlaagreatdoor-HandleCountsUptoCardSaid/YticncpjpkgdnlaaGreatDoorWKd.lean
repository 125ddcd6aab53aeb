/-
  HandleCounts: the walk (written by mkkow.py).
-/
import Derived.Test.YticncpjpkgdnlaaGreatDoorWKc
import Derived.Test.YticncpjpkgdnlaaGreatDoorHnI
set_option linter.unusedVariables false
set_option linter.unusedSimpArgs false
set_option maxRecDepth 100000
namespace Go.Proofs.YticncpjpkgdnlaaGreatDoor
open Go.RowKit Go.Shelf
namespace Ko
open Oc Tg _root_.Go.Proofs.YticncpjpkgdnlaaGreatDoor.Fd _root_.Go.Proofs.YticncpjpkgdnlaaGreatDoor.Ck _root_.Go.Proofs.YticncpjpkgdnlaaGreatDoor.Ms _root_.Go.Proofs.YticncpjpkgdnlaaGreatDoor.Hn

set_option maxHeartbeats 8000000 in
theorem walk_HandleCounts (nm : ByteArray) (hs : nm.size ≤ 1048576) (f m : Int) (hf : i64 f) (w : World) (ml : Tg.ML w) (tb : Tab w) (hp : Pow w) (sw : SW w)
    (hSt : ∀ W, Below w.heap.size w W → Calls Tryz.prog 100 #[.int .i64 0] W fun e w' => ∃ (x : ByteArray) (E : Int), e = .returned (.tuple #[.string x, .int .i64 E]) ∧ x.size ≤ 100 ∧ Below W.heap.size W w') :
    Calls Tryz.prog 3 #[.string nm, .int .i64 f, .int .i64 m] w fun e w' => e = .returned (.bool true) ∧ Below w.heap.size w w' := by
  have HA : Hid (∀ W, Calls Tryz.prog 4 #[] W fun e w' => e = .returned (.bool true) ∧ Below W.heap.size W w') := fun W => awake_any W
  have HTk : Hid (∀ W, Calls Tryz.prog 5 #[.string nm] W fun e w' => e = .returned (.bool (isTok nm.data.toList)) ∧ w' = W) := fun W => rIsToken_any nm (by unfold maxLen; omega) W
  have HDg : Hid (∀ (n : Int) W, 0 ≤ n → n ≤ 1000000001 → Calls Tryz.prog 6 #[.int .i64 n] W fun e w' => e = .returned (.string (str (Lib.itoa n))) ∧ Below W.heap.size W w') := fun n W h0 h1 => rDigits_any n (by omega) (by omega) W
  obtain ⟨N, hN⟩ : ∃ N : List UInt8, N = nm.data.toList := ⟨_, rfl⟩
  have en : nm = str N := by rw [hN]; cases nm; simp [str]
  have hz : nm.size = N.length := by rw [hN, Array.length_toList]; rfl
  rw [← hN] at HTk
  have HAn : Hid (isTok N = true → N.length ≤ 4000 → ∀ (s : Int), 0 ≤ s → s ≤ 1000000000 → ∀ (av : Option Addr) (cv : Nat) (W : World), Below w.heap.size w W → InF (.slice av 1 cv) [(ckN, cookV N s)] W → Calls Tryz.prog 7 #[.agg #[.int .i64 8, .string nm, .string ⟨#[]⟩, .string ⟨#[]⟩, .int .i64 0, .int .i64 0], .agg #[.string ⟨#[71, 69, 84]⟩, .string ⟨#[47]⟩, .int .i64 0, .int .i64 0, .slice av 1 cv, .string ⟨#[]⟩, .slice none 0 0, .int .i64 0, .string ⟨#[]⟩, .int .i64 0, .string ⟨#[]⟩, .string ⟨#[]⟩, .bool false, .slice none 0 0, .int .i64 0], .pointer none] W fun e w' => ∃ a c2, e = .returned (.agg #[.int .i64 200, .string ⟨#[]⟩, .slice a 2 c2, .string (str (Lib.itoa (cc s + 1)) ++ ⟨#[10]⟩)]) ∧ OwnF 26 W.heap.size (.slice a 2 c2) [(nCT, plT), (scN, setL N (Lib.itoa (cc s + 1)))] w' ∧ Below W.heap.size W w') := fun ht hl s h0 h1 av cv W hb hI => ans_any nm N en hl ht w ml tb hp sw hSt s h0 h1 av cv W hb hI
  have HEn : Hid (nm = str N) := en
  obtain ⟨r0, r1, r2⟩ := rem20 m
  obtain ⟨S, hS⟩ : ∃ S : Nat, (S : Int) = (m.tmod 20 + 20).tmod 20 := ⟨((m.tmod 20 + 20).tmod 20).toNat, Int.toNat_of_nonneg r0⟩
  have HN : Hid ((wrap64 (m.tmod 20 + 20)).tmod 20 = (S : Int)) := (by rw [r2, hS] : _ = _)
  have hS19 : S ≤ 19 := by omega
  have HZ : Hid (nm.size = N.length) := hz
  clear r0 r1 r2 hS hN en hz ml tb hp sw hSt
  go_enter Tryz.func3, Tryz.ntmps3
  go_wp2_with fail
  refine (HA.out _).mono ?_
  rintro e w1 ⟨rfl, hb1⟩
  have HB1 : Hid (Below w.heap.size w w1) := hb1
  clear hb1 HA
  go_wp2_with fail
  refine (HTk.out _).mono ?_
  rintro e w2 ⟨rfl, hw2⟩
  rw [hw2]
  clear hw2 HTk
  generalize hT : isTok N = T at *
  have HT : Hid (isTok N = T) := hT
  clear hT
  cases T with
  | false =>
    clear HAn HN
    go_wp2
    refine bodyPost_ret (v := .bool true) (by simp [results, Tryz.results3, go_sem]) rfl ⟨rfl, HB1.out⟩
  | true =>
    by_cases hl : nm.size ≤ 4000
    · have hl' : ¬ (4000 : Int) < (nm.size : Int) := by omega
      by_cases h0 : f < 0
      · clear HAn HN
        go_wp2
        refine bodyPost_ret (v := .bool true) (by simp [results, Tryz.results3, go_sem]) rfl ⟨rfl, HB1.out⟩
      · by_cases h9 : 999999999 < f
        · clear HAn HN
          go_wp2
          refine bodyPost_ret (v := .bool true) (by simp [results, Tryz.results3, go_sem]) rfl ⟨rfl, HB1.out⟩
        · have HAs : Hid (∀ (s : Int), 0 ≤ s → s ≤ 1000000000 → _) := HAn.out rfl (by have := HZ.out; omega)
          have hq1 : ¬ 9223372036854775807 < nm.size + 1 := by omega
          clear HAn
          go_wp2_with fail
          rw [HN.out]
          refine (HDg.out f w1 (by omega) (by omega)).mono ?_
          rintro e w2 ⟨rfl, hb2⟩
          have HB2 : Hid (Below w.heap.size w w2) := bel_tr HB1.out hb2 HB1.out.size
          have hD0 := itoa_l (n := f) (by omega) (by omega)
          have hds : (str (Lib.itoa f)).size ≤ 10 := by rw [str_size]; exact hD0
          have hq2 : ¬ 9223372036854775807 < nm.size + 1 + (str (Lib.itoa f)).size := by omega
          have HX0 : Hid (nm ++ ⟨#[61]⟩ ++ str (Lib.itoa f) = str (N ++ 61 :: Lib.itoa (f + ((0 : Nat) : Int)))) := (by
            rw [HEn.out, show (⟨#[61]⟩ : ByteArray) = str [61] from rfl, cat_str, cat_str, str_list, str_list, Int.natCast_zero, Int.add_zero]; simp : _ = _)
          have hwS : IntKind.i64.wrap ((S : Int) + 1) = (S : Int) + 1 := by rw [IntKind.wrap_i64]; omega
          clear hb2 HB1 HN
          go_wp2
          go_loopw [7, 42] (fun ck i wr => ∃ (k : Nat) (X : ByteArray), k ≤ S + 1 ∧ i = .int .i64 k ∧ ck = .string X ∧ Hid (X = str (N ++ 61 :: Lib.itoa (f + k))) ∧ Hid (f + (k : Int) ≤ 1000000000) ∧ Hid (Below w.heap.size w wr)) (fun _ i _ => S + 1 - (intOf i).toNat)
          case atStart => exact ⟨0, _, Nat.zero_le _, rfl, rfl, HX0.out, (by omega : f + ((0 : Nat) : Int) ≤ 1000000000), HB2⟩
          case round =>
            obtain ⟨k, X, hk, rfl, rfl, hX, hle, hbl⟩ := hrel
            by_cases hlt : k < S + 1
            · have hlt' : (k : Int) < (S : Int) + 1 := by omega
              obtain ⟨s, hsq⟩ : ∃ s : Int, s = f + (k : Int) := ⟨_, rfl⟩
              have hle' : s ≤ 1000000000 := by rw [hsq]; exact hle.out
              have hs0 : 0 ≤ s := by omega
              rw [← hsq] at hX
              have hil := itoa_l hs0 (by omega : s ≤ 9999999999)
              have hX7 : ¬ 9223372036854775807 < 7 + X.size := by
                have := HZ.out
                rw [hX.out, str_size]
                simp only [List.length_append, List.length_cons]
                omega
              have HV : Hid (⟨#[111, 116, 104, 101, 114, 59, 32]⟩ ++ X = str (cookV N s)) := (by
                rw [hX.out, show (⟨#[111, 116, 104, 101, 114, 59, 32]⟩ : ByteArray) = str [111, 116, 104, 101, 114, 59, 32] from rfl, cat_str, str_list]
                unfold cookV; simp : _ = _)
              obtain ⟨CV, hCV⟩ : ∃ CV, CV = ⟨#[111, 116, 104, 101, 114, 59, 32]⟩ ++ X := ⟨_, rfl⟩
              have HCV : Hid (⟨#[111, 116, 104, 101, 114, 59, 32]⟩ ++ X = CV) := hCV.symm
              have HV2 : Hid (CV = str (cookV N s)) := (by rw [hCV]; exact HV.out : _ = _)
              obtain ⟨w4, hw4⟩ : ∃ w4, w4 = wr.alloc (.cells #[.string ⟨#[67, 111, 111, 107, 105, 101]⟩, .string (⟨#[111, 116, 104, 101, 114, 59, 32]⟩ ++ X)] 26) := ⟨_, rfl⟩
              have hb4 : Below wr.heap.size wr w4 := by rw [hw4]; exact (Below.refl _ wr).alloc (Nat.le_refl _) _
              obtain ⟨g, hg⟩ : ∃ g, g = wr.heap.size := ⟨_, rfl⟩
              have HI4 : Hid (InF (.slice (some ⟨g, 0, none⟩) 1 1) [(ckN, cookV N s)] w4) := (by
                rw [hw4, HV.out, hg]
                exact ⟨rd_oneF wr 26 (ckN, cookV N s), fun e => by cases e⟩ : InF _ _ _)
              obtain ⟨w5, hw5⟩ : ∃ w5, w5 = w4.alloc (.cells #[.string ⟨#[71, 69, 84]⟩, .string ⟨#[47]⟩, .int .i64 0, .int .i64 0, .slice (some ⟨g, 0, none⟩) 1 1, .string ⟨#[]⟩, .slice none 0 0, .int .i64 0, .string ⟨#[]⟩, .int .i64 0, .string ⟨#[]⟩, .string ⟨#[]⟩, .bool false, .slice none 0 0, .int .i64 0] 34) := ⟨_, rfl⟩
              have hb5 : Below w4.heap.size w4 w5 := by rw [hw5]; exact (Below.refl _ w4).alloc (Nat.le_refl _) _
              have HZ5 : Hid (Blk 34 w5 w4.heap.size [.string ⟨#[71, 69, 84]⟩, .string ⟨#[47]⟩, .int .i64 0, .int .i64 0, .slice (some ⟨g, 0, none⟩) 1 1, .string ⟨#[]⟩, .slice none 0 0, .int .i64 0, .string ⟨#[]⟩, .int .i64 0, .string ⟨#[]⟩, .string ⟨#[]⟩, .bool false, .slice none 0 0, .int .i64 0]) := (by rw [hw5]; exact heap_alloc_new w4 _ : Blk _ _ _ _)
              have HI5 : Hid (InF (.slice (some ⟨g, 0, none⟩) 1 1) [(ckN, cookV N s)] w5) := HI4.out.below hb5
              have HB5 : Hid (Below w.heap.size w w5) := bel_tr (bel_tr hbl.out hb4 hbl.out.size) hb5 (bel_tr hbl.out hb4 hbl.out.size).size
              have HW4 : Hid (wr.alloc (.cells #[.string ⟨#[67, 111, 111, 107, 105, 101]⟩, .string (⟨#[111, 116, 104, 101, 114, 59, 32]⟩ ++ X)] 26) = w4) := hw4.symm
              have HW5 : Hid (w4.alloc (.cells #[.string ⟨#[71, 69, 84]⟩, .string ⟨#[47]⟩, .int .i64 0, .int .i64 0, .slice (some ⟨g, 0, none⟩) 1 1, .string ⟨#[]⟩, .slice none 0 0, .int .i64 0, .string ⟨#[]⟩, .int .i64 0, .string ⟨#[]⟩, .string ⟨#[]⟩, .bool false, .slice none 0 0, .int .i64 0] 34) = w5) := hw5.symm
              have HG : Hid (wr.heap.size = g) := hg.symm
              have z0 := HZ5.out.cell 0 rfl
              have z1 := HZ5.out.cell 1 rfl
              have z2 := HZ5.out.cell 2 rfl
              have z3 := HZ5.out.cell 3 rfl
              have z4 := HZ5.out.cell 4 rfl
              have z5 := HZ5.out.cell 5 rfl
              have z6 := HZ5.out.cell 6 rfl
              have z7 := HZ5.out.cell 7 rfl
              have z8 := HZ5.out.cell 8 rfl
              have z9 := HZ5.out.cell 9 rfl
              have z10 := HZ5.out.cell 10 rfl
              have z11 := HZ5.out.cell 11 rfl
              have z12 := HZ5.out.cell 12 rfl
              have z13 := HZ5.out.cell 13 rfl
              have z14 := HZ5.out.cell 14 rfl
              have hwa : IntKind.i64.wrap (f + (k : Int)) = s := by rw [IntKind.wrap_i64]; omega
              have hwb : IntKind.i64.wrap (s + 1) = s + 1 := by rw [IntKind.wrap_i64]; omega
              have HS1 : Hid (f + ((k + 1 : Nat) : Int) = s + 1) := (by omega : _ = _)
              clear hw4 hw5 hb4 hb5 hg hCV HV HI4 hle hsq
              go_wp2_with (first | rw [HW4.out] | rw [HW5.out] | fail)
              rw [HG.out]
              rw [HW5.out]
              refine (HAs.out s hs0 hle' (some ⟨g, 0, none⟩) 1 w5 HB5.out HI5.out).mono ?_
              rintro e w6 ⟨a, c2, rfl, ho, hb6⟩
              have HB6 : Hid (Below w.heap.size w w6) := bel_tr HB5.out hb6 HB5.out.size
              clear z0 z1 z2 z3 z4 z5 z6 z7 z8 z9 z10 z11 z12 z13 z14 HB5 HZ5 HI5 HW4 HW5 HG hb6
              by_cases h10 : 1000000000 < s + 1
              · obtain ⟨w7, hw7⟩ : ∃ w7, w7 = w6.alloc (.cells #[.int .i64 200, .string ⟨#[]⟩, .slice a 2 c2, .string (str (Lib.itoa (cc s + 1)) ++ ⟨#[10]⟩)] 36) := ⟨_, rfl⟩
                have hb7 : Below w6.heap.size w6 w7 := by rw [hw7]; exact (Below.refl _ w6).alloc (Nat.le_refl _) _
                have HB7 : Hid (Below w.heap.size w w7) := bel_tr HB6.out hb7 HB6.out.size
                have HW7 : Hid (w6.alloc (.cells #[.int .i64 200, .string ⟨#[]⟩, .slice a 2 c2, .string (str (Lib.itoa (cc s + 1)) ++ ⟨#[10]⟩)] 36) = w7) := hw7.symm
                clear hw7 hb7 ho
                go_wp2_with (first | rw [HW7.out] | fail)
                try rw [HW7.out]
                refine bodyPost_ret (v := .bool true) (by simp [results, Tryz.results3, go_sem]) rfl ⟨rfl, HB7.out⟩
              · have hcc : cc s = s := by unfold cc; rw [if_pos (by omega)]
                rw [hcc] at ho ⊢
                have hdl := itoa_l (n := s + 1) (by omega) (by omega)
                have HDs : Hid (∀ W, Calls Tryz.prog 6 #[.int .i64 (s + 1)] W fun e w' => e = .returned (.string (str (Lib.itoa (s + 1)))) ∧ Below W.heap.size W w') := fun W => HDg.out (s + 1) W (by omega) (by omega)
                have HSL : Hid (str (setL N (Lib.itoa (s + 1))) = nm ++ ⟨#[61]⟩ ++ str (Lib.itoa (s + 1)) ++ ⟨#[59, 32, 80, 97, 116, 104, 61, 47]⟩) := (by
                  rw [HEn.out, show (⟨#[61]⟩ : ByteArray) = str [61] from rfl, show (⟨#[59, 32, 80, 97, 116, 104, 61, 47]⟩ : ByteArray) = str [59, 32, 80, 97, 116, 104, 61, 47] from rfl, cat_str, cat_str, cat_str, str_list, str_list, str_list]
                  unfold setL; simp : _ = _)
                have HNX : Hid (nm ++ ⟨#[61]⟩ ++ str (Lib.itoa (s + 1)) = str (N ++ 61 :: Lib.itoa (f + ((k + 1 : Nat) : Int)))) := (by
                  rw [HEn.out, show (⟨#[61]⟩ : ByteArray) = str [61] from rfl, cat_str, cat_str, str_list, str_list, HS1.out]; simp : _ = _)
                have hdz : (str (Lib.itoa (s + 1))).size ≤ 10 := by rw [str_size]; exact hdl
                clear hdl hcc
                generalize str (Lib.itoa (s + 1)) = DG at *
                have ka : ¬ 9223372036854775807 < DG.size + 1 := by omega
                have kb : ¬ 9223372036854775807 < nm.size + 1 + DG.size := by omega
                have kc : ¬ 9223372036854775807 < nm.size + 1 + DG.size + 8 := by omega
                obtain ⟨w7, hw7⟩ : ∃ w7, w7 = w6.alloc (.cells #[.int .i64 200, .string ⟨#[]⟩, .slice a 2 c2, .string (DG ++ ⟨#[10]⟩)] 36) := ⟨_, rfl⟩
                have hb7 : Below w6.heap.size w6 w7 := by rw [hw7]; exact (Below.refl _ w6).alloc (Nat.le_refl _) _
                have HB7 : Hid (Below w.heap.size w w7) := bel_tr HB6.out hb7 HB6.out.size
                have HW7 : Hid (w6.alloc (.cells #[.int .i64 200, .string ⟨#[]⟩, .slice a 2 c2, .string (DG ++ ⟨#[10]⟩)] 36) = w7) := hw7.symm
                have HO7 : Hid (OwnF 26 w5.heap.size (.slice a 2 c2) [(nCT, plT), (scN, setL N (Lib.itoa (s + 1)))] w7) := (ho.below hb7 : OwnF _ _ _ _ _)
                have HR7 : Hid (Blk 36 w7 w6.heap.size [.int .i64 200, .string ⟨#[]⟩, .slice a 2 c2, .string (DG ++ ⟨#[10]⟩)]) := (by rw [hw7]; exact heap_alloc_new w6 _ : Blk _ _ _ _)
                clear hw7 hb7 ho
                go_wp2_with (first | rw [HW7.out] | fail)
                try rw [HW7.out]
                refine (HDs.out _).mono ?_
                rintro e w8 ⟨rfl, hb8⟩
                have HB8 : Hid (Below w.heap.size w w8) := bel_tr HB7.out hb8 HB7.out.size
                have HR8 : Hid (Blk 36 w8 w6.heap.size [.int .i64 200, .string ⟨#[]⟩, .slice a 2 c2, .string (DG ++ ⟨#[10]⟩)]) := HR7.out.below hb8
                obtain ⟨a', c', e', hcs⟩ := (OwnF.rd (HO7.out.below hb8) : RdF _ _ _)
                injection e' with e1 e0 e2
                clear e0
                subst e1 e2
                rcases hcs with h | ⟨g5, o5, rfl, hlc, hcell⟩
                · cases h
                obtain ⟨p0, px⟩ := hcell 1 (by simp)
                have p1 : w8.cell? ⟨g5, o5 + 3, none⟩ = some (.string (nm ++ ⟨#[61]⟩ ++ DG ++ ⟨#[59, 32, 80, 97, 116, 104, 61, 47]⟩)) := by rw [← HSL.out]; exact px
                have r0 := HR8.out.cell 0 rfl
                have r2 := HR8.out.cell 2 rfl
                have r3 := HR8.out.cell 3 rfl
                clear px p0 hcell hlc hb8 HR7 HO7 HW7 HDs HSL
                go_wp2
                go_roundw
                case rel => exact ⟨k + 1, _, by omega, by go_num, rfl, HNX.out, (by have := HS1.out; show f + ((k + 1 : Nat) : Int) ≤ 1000000000; omega : f + ((k + 1 : Nat) : Int) ≤ 1000000000), HB8⟩
                case measure => simp [intOf]; omega
            · have hlt' : ¬ (k : Int) < (S : Int) + 1 := by omega
              have HBe : Hid (Below w.heap.size w wr) := hbl
              go_wp2
              refine bodyPost_ret (v := .bool true) (by simp [results, Tryz.results3, go_sem]) rfl ⟨rfl, HBe.out⟩
    · have hl' : (4000 : Int) < (nm.size : Int) := by omega
      clear HAn HN
      go_wp2
      refine bodyPost_ret (v := .bool true) (by simp [results, Tryz.results3, go_sem]) rfl ⟨rfl, HB1.out⟩

end Ko
end Go.Proofs.YticncpjpkgdnlaaGreatDoor
