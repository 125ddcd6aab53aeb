/-
  The walk of BaseParts, from the contract of the reference Sha1.
-/
import Derived.Test.YtcnjnlmjgbmjnabOpenPc
import Derived.Test.YtcnjnlmjgbmjnabBAwake
set_option linter.unusedVariables false
set_option linter.unusedSimpArgs false
namespace Go.Proofs.Ytcnjnlmjgbmjnab
open Go.RowKit
namespace Bs

theorem cat_str (a b : List UInt8) : str a ++ str b = str (a ++ b) := by
  apply eq_list
  rw [ByteArray.data_append]
  simp [str]
theorem SumOf.lt {w : World} {b : Nat} {l : List UInt8} (h : SumOf w b l) : b < w.heap.size := by
  obtain ⟨pc, _, _, h⟩ := h
  exact h.lt
theorem SumOf.alloc {w : World} {b : Nat} {l : List UInt8} (h : SumOf w b l) (o : Obj) : SumOf (w.alloc o) b l := by
  obtain ⟨pc, h1, h2, h⟩ := h
  exact ⟨pc, h1, h2, h.alloc o⟩

attribute [local go_sem ↓] Go.wp_at_zero Go.wp_at_succ
set_option maxRecDepth 100000 in
set_option maxHeartbeats 4000000 in
theorem walk_BaseParts' (CS : Hid (∀ (l : List UInt8) (hl : l.length ≤ 140737488355000) (w : World), Calls Try.prog 10 #[.string (str l)] w fun e w' => e = .returned (.string (str (shaR l))) ∧ Below w.heap.size w w')) (v : Value) (t : List Pc) (hb : sumc t ≤ 1048576) (htl : t.length ≤ 9223372036854775807) (w : World) (R : RdPc v t w) :
    Calls Try.prog 5 #[v] w fun e w' => e = .returned (.bool true) ∧ Below w.heap.size w w' := by
  obtain ⟨a, c, rfl, h⟩ := R
  have HR : Hid (t = [] ∨ ∃ g o, a = some ⟨g, o, none⟩ ∧ t.length ≤ c ∧ ∀ j, j < t.length → w.cell? ⟨g, o + j * 3, none⟩ = some (.bool (nthc t j).1) ∧ w.cell? ⟨g, o + j * 3 + 1, none⟩ = some (.bool (nthc t j).2.1) ∧ w.cell? ⟨g, o + j * 3 + 2, none⟩ = some (.string (str (nthc t j).2.2))) := h
  clear h
  go_enter Try.func5, Try.ntmps5
  go_wp2_with fail
  refine (New_any w).mono ?_
  rintro e w2 ⟨rfl, hS2, hb2⟩
  have hx2 := hS2.lt
  go_wp2_with fail
  refine (New_any w2).mono ?_
  rintro e w3 ⟨rfl, hS3, hb3⟩
  have HSx : Hid (SumOf w3 w.heap.size []) := hS2.below hb3
  have HSy : Hid (SumOf w3 w2.heap.size []) := hS3
  have HB3 : Hid (Below w.heap.size w w3) := bel_trans' hb2 hb3
  clear hS2 hS3 hb2 hb3
  obtain ⟨X, hX⟩ : ∃ X, w.heap.size = X := ⟨_, rfl⟩
  obtain ⟨Y, hY⟩ : ∃ Y, w2.heap.size = Y := ⟨_, rfl⟩
  rw [hX] at hx2 HSx
  rw [hY] at hx2 HSy
  rw [show (⟨w.heap.size, 0, none⟩ : Addr) = ⟨X, 0, none⟩ by rw [hX], show (⟨w2.heap.size, 0, none⟩ : Addr) = ⟨Y, 0, none⟩ by rw [hY]]
  have HX : Hid (w.heap.size = X) := hX
  clear hX hY w2
  go_wp2
  go_loopw [5, 6, 7] (fun sa sb i wr => ∃ (k : Nat) (xa xb : List UInt8), k ≤ t.length ∧ i = .int .i64 (k : Int) ∧ sa = .string (str xa) ∧ sb = .string (str xb) ∧ Hid (xa.length + xb.length ≤ sumc (t.take k)) ∧ Hid (SumOf wr X xa) ∧ Hid (SumOf wr Y xb) ∧ Hid (Below w.heap.size w wr)) (fun _ _ i _ => t.length - (intOf i).toNat)
  case atStart => exact ⟨0, [], [], by omega, rfl, rfl, rfl, Nat.zero_le _, HSx.out, HSy.out, HB3.out⟩
  case round =>
    obtain ⟨k, xa, xb, hk, rfl, rfl, rfl, HL, HSa, HSb, HB⟩ := hrel
    clear HSx HSy HB3
    by_cases hlt : k < t.length
    · have hki : ((k : Nat) : Int) < (t.length : Int) := by omega
      rcases HR.out with h | ⟨g, o, rfl, hc, hcell⟩
      · rw [h] at hlt; simp at hlt
      obtain ⟨c0, c1, c2⟩ := hcell k hlt
      have hg : g < w.heap.size := World.block_lt_of_cell? w _ c0
      have d0 : wr.cell? ⟨g, o + k * 3, none⟩ = some (.bool (nthc t k).1) := (HB.out.cell (p := ⟨g, o + k * 3, none⟩) hg).trans c0
      have d1 : wr.cell? ⟨g, o + k * 3 + 1, none⟩ = some (.bool (nthc t k).2.1) := (HB.out.cell (p := ⟨g, o + k * 3 + 1, none⟩) hg).trans c1
      have d2 : wr.cell? ⟨g, o + k * 3 + 2, none⟩ = some (.string (str (nthc t k).2.2)) := (HB.out.cell (p := ⟨g, o + k * 3 + 2, none⟩) hg).trans c2
      clear hcell c0 c1 c2
      have HL2 : Hid (sumc (t.take (k + 1)) = sumc (t.take k) + (nthc t k).2.2.length) := sumc_take t k hlt
      have HL3 : Hid (sumc (t.take (k + 1)) ≤ 1048576) := Nat.le_trans (sumc_le t (k + 1)) hb
      generalize nthc t k = pc at *
      obtain ⟨two, done, x⟩ := pc
      dsimp only at d0 d1 d2 HL2
      have hXl := HSa.out.lt
      have hYl := HSb.out.lt
      have HSa' : Hid (∀ o, SumOf (wr.alloc o) X xa) := fun o => HSa.out.alloc o
      have HSb' : Hid (∀ o, SumOf (wr.alloc o) Y xb) := fun o => HSb.out.alloc o
      have HP : Hid (∀ t, Blk (wr.alloc (.cells #[.bool two, .bool done, .string (str x)] t)) wr.heap.size [.bool two, .bool done, .string (str x)]) := fun t => Blk.new wr [.bool two, .bool done, .string (str x)] t
      have HBa : Hid (∀ o, Below w.heap.size w (wr.alloc o)) := fun o => HB.out.alloc HB.out.size o
      have hxl : xa.length + xb.length + x.length ≤ 1048576 := by have := HL.out; have := HL2.out; have := HL3.out; omega
      have sxa : (str xa).size = xa.length := str_size xa
      have sxb : (str xb).size = xb.length := str_size xb
      have sx : (str x).size = x.length := str_size x
      cases two with
      | true =>
        go_wp2_with fail
        refine (Write_any Y xb x (by omega) _ (HSb'.out _)).mono ?_
        rintro e w4 ⟨rfl, hS4, hbt4⟩
        have HW4 : Hid (SumOf w4 Y (xb ++ x)) := hS4
        have HO4 : Hid (SumOf w4 X xa) := (HSa'.out _).but hbt4 (by simp; omega)
        have HPk : Hid (Blk w4 wr.heap.size [.bool true, .bool done, .string (str x)]) := (HP.out _).but hbt4 (by simp; omega)
        have HB4 : Hid (Below w.heap.size w w4) := (HBa.out _).trans (hbt4.below (by have := HB.out.size; simp; omega) (by simp; have := HX.out; omega))
        have p1 := HPk.out.cell 1 (.bool done) rfl
        have p2 := HPk.out.cell 2 (.string (str x)) rfl
        have CT : Hid (str xb ++ str x = str (xb ++ x)) := cat_str xb x
        have hyl : (xb ++ x).length = xb.length + x.length := List.length_append
        have sy : (str (xb ++ x)).size = (xb ++ x).length := str_size _
        clear hS4 hbt4 HP HBa HSa' HSb' HSa HSb d0 d1 d2 HB HPk hXl hYl
        generalize xb ++ x = y at *
        have HE : Hid (xa.length + y.length ≤ sumc (t.take (k + 1))) := (by have := HL.out; have := HL2.out; omega : xa.length + y.length ≤ sumc (t.take (k + 1)))
        have hy2 : y.length ≤ 1048576 := by omega
        clear HL HL2 HL3
        generalize wr.heap.size = P at *
        clear wr
        cases done with
        | true =>
          go_wp2_with fail
          rw [CT.out]
          refine (Done_any X xa (by omega) w4 HO4.out).mono ?_
          rintro e w5 ⟨rfl, hb5⟩
          have HB5 : Hid (Below w4.heap.size w4 w5) := hb5
          clear hb5
          go_wp2_with fail
          refine (CS.out xa (by omega) w5).mono ?_
          rintro e w6 ⟨rfl, hb6⟩
          have HB6 : Hid (Below w4.heap.size w4 w6) := bel_trans' HB5.out hb6
          clear hb6
          go_wp2_with fail
          refine (Done_any Y y (by omega) w6 (HW4.out.below HB6.out)).mono ?_
          rintro e w7 ⟨rfl, hb7⟩
          have HB7 : Hid (Below w4.heap.size w4 w7) := bel_trans' HB6.out hb7
          clear hb7
          go_wp2_with fail
          refine (CS.out y (by omega) w7).mono ?_
          rintro e w8 ⟨rfl, hb8⟩
          have HB8 : Hid (Below w4.heap.size w4 w8) := bel_trans' HB7.out hb8
          clear hb8
          go_wp2_with fail
          refine (Len_any X xa w8 (HO4.out.below HB8.out)).mono ?_
          rintro e w9 ⟨rfl, rfl⟩
          go_wp2_with fail
          refine (Len_any Y y w9 (HW4.out.below HB8.out)).mono ?_
          rintro e w10 ⟨rfl, rfl⟩
          go_wp2
          go_roundw
          case rel => exact ⟨k + 1, xa, y, by omega, by go_num, rfl, rfl, HE.out, HO4.out.below HB8.out, HW4.out.below HB8.out, bel_trans' HB4.out HB8.out⟩
          case measure => simp [intOf]; omega
        | false =>
          go_wp2_with fail
          rw [CT.out]
          refine (Len_any X xa w4 HO4.out).mono ?_
          rintro e w9 ⟨rfl, rfl⟩
          go_wp2_with fail
          refine (Len_any Y y w9 HW4.out).mono ?_
          rintro e w10 ⟨rfl, rfl⟩
          go_wp2
          go_roundw
          case rel => exact ⟨k + 1, xa, y, by omega, by go_num, rfl, rfl, HE.out, HO4.out, HW4.out, HB4.out⟩
          case measure => simp [intOf]; omega
      | false =>
        go_wp2_with fail
        refine (Write_any X xa x (by omega) _ (HSa'.out _)).mono ?_
        rintro e w4 ⟨rfl, hS4, hbt4⟩
        have HW4 : Hid (SumOf w4 X (xa ++ x)) := hS4
        have HO4 : Hid (SumOf w4 Y xb) := (HSb'.out _).but hbt4 (by simp; omega)
        have HPk : Hid (Blk w4 wr.heap.size [.bool false, .bool done, .string (str x)]) := (HP.out _).but hbt4 (by simp; omega)
        have HB4 : Hid (Below w.heap.size w w4) := (HBa.out _).trans (hbt4.below (by have := HB.out.size; simp; omega) (by simp; have := HX.out; omega))
        have p1 := HPk.out.cell 1 (.bool done) rfl
        have p2 := HPk.out.cell 2 (.string (str x)) rfl
        have CT : Hid (str xa ++ str x = str (xa ++ x)) := cat_str xa x
        have hyl : (xa ++ x).length = xa.length + x.length := List.length_append
        have sy : (str (xa ++ x)).size = (xa ++ x).length := str_size _
        clear hS4 hbt4 HP HBa HSa' HSb' HSa HSb d0 d1 d2 HB HPk hXl hYl
        generalize xa ++ x = y at *
        have HE : Hid (y.length + xb.length ≤ sumc (t.take (k + 1))) := (by have := HL.out; have := HL2.out; omega : y.length + xb.length ≤ sumc (t.take (k + 1)))
        have hy2 : y.length ≤ 1048576 := by omega
        clear HL HL2 HL3
        generalize wr.heap.size = P at *
        clear wr
        cases done with
        | true =>
          go_wp2_with fail
          rw [CT.out]
          refine (Done_any X y (by omega) w4 HW4.out).mono ?_
          rintro e w5 ⟨rfl, hb5⟩
          have HB5 : Hid (Below w4.heap.size w4 w5) := hb5
          clear hb5
          go_wp2_with fail
          refine (CS.out y (by omega) w5).mono ?_
          rintro e w6 ⟨rfl, hb6⟩
          have HB6 : Hid (Below w4.heap.size w4 w6) := bel_trans' HB5.out hb6
          clear hb6
          go_wp2_with fail
          refine (Done_any Y xb (by omega) w6 (HO4.out.below HB6.out)).mono ?_
          rintro e w7 ⟨rfl, hb7⟩
          have HB7 : Hid (Below w4.heap.size w4 w7) := bel_trans' HB6.out hb7
          clear hb7
          go_wp2_with fail
          refine (CS.out xb (by omega) w7).mono ?_
          rintro e w8 ⟨rfl, hb8⟩
          have HB8 : Hid (Below w4.heap.size w4 w8) := bel_trans' HB7.out hb8
          clear hb8
          go_wp2_with fail
          refine (Len_any X y w8 (HW4.out.below HB8.out)).mono ?_
          rintro e w9 ⟨rfl, rfl⟩
          go_wp2_with fail
          refine (Len_any Y xb w9 (HO4.out.below HB8.out)).mono ?_
          rintro e w10 ⟨rfl, rfl⟩
          go_wp2
          go_roundw
          case rel => exact ⟨k + 1, y, xb, by omega, by go_num, rfl, rfl, HE.out, HW4.out.below HB8.out, HO4.out.below HB8.out, bel_trans' HB4.out HB8.out⟩
          case measure => simp [intOf]; omega
        | false =>
          go_wp2_with fail
          rw [CT.out]
          refine (Len_any X y w4 HW4.out).mono ?_
          rintro e w9 ⟨rfl, rfl⟩
          go_wp2_with fail
          refine (Len_any Y xb w9 HO4.out).mono ?_
          rintro e w10 ⟨rfl, rfl⟩
          go_wp2
          go_roundw
          case rel => exact ⟨k + 1, y, xb, by omega, by go_num, rfl, rfl, HE.out, HW4.out, HO4.out, HB4.out⟩
          case measure => simp [intOf]; omega
    · obtain rfl : k = t.length := by omega
      have hlk : ¬ ((t.length : Nat) : Int) < (t.length : Int) := by omega
      have hxl : xa.length + xb.length ≤ 1048576 := by have := HL.out; have := sumc_le t t.length; omega
      clear HR
      go_wp2_with fail
      refine (awake_any wr).mono ?_
      rintro e w4 ⟨rfl, hb4⟩
      have HB4 : Hid (Below wr.heap.size wr w4) := hb4
      clear hb4
      go_wp2_with fail
      refine (Done_any X xa (by omega) w4 (HSa.out.below HB4.out)).mono ?_
      rintro e w5 ⟨rfl, hbn⟩
      have HB5 : Hid (Below wr.heap.size wr w5) := bel_trans' HB4.out hbn
      clear hbn
      go_wp2_with fail
      refine (CS.out xa (by omega) w5).mono ?_
      rintro e w6 ⟨rfl, hbn⟩
      have HB6 : Hid (Below wr.heap.size wr w6) := bel_trans' HB5.out hbn
      clear hbn
      go_wp2_with fail
      refine (Done_any X xa (by omega) w6 (HSa.out.below HB6.out)).mono ?_
      rintro e w7 ⟨rfl, hbn⟩
      have HB7 : Hid (Below wr.heap.size wr w7) := bel_trans' HB6.out hbn
      clear hbn
      go_wp2_with fail
      refine (CS.out xa (by omega) w7).mono ?_
      rintro e w8 ⟨rfl, hbn⟩
      have HB8 : Hid (Below wr.heap.size wr w8) := bel_trans' HB7.out hbn
      clear hbn
      go_wp2_with fail
      refine (Done_any Y xb (by omega) w8 (HSb.out.below HB8.out)).mono ?_
      rintro e w9 ⟨rfl, hbn⟩
      have HB9 : Hid (Below wr.heap.size wr w9) := bel_trans' HB8.out hbn
      clear hbn
      go_wp2_with fail
      refine (CS.out xb (by omega) w9).mono ?_
      rintro e w10 ⟨rfl, hbn⟩
      have HB10 : Hid (Below wr.heap.size wr w10) := bel_trans' HB9.out hbn
      clear hbn
      go_wp2
      go_ret
      exact ⟨rfl, bel_trans' HB.out HB10.out⟩

end Bs
end Go.Proofs.Ytcnjnlmjgbmjnab
