/-
  tag: Make.
-/
import Derived.Test.YtheeloaebilgiabGreatDoorTPr
import Derived.Test.YtheeloaebilgiabGreatDoorMgA
set_option linter.unusedVariables false
set_option linter.unusedSimpArgs false
namespace Go.Proofs.YtheeloaebilgiabGreatDoor
open Go.RowKit Go.Shelf
namespace Tt
open Oc

def byteAt (F k : Nat) : UInt8 := UInt8.ofNat (F / 2 ^ (8 * k) % 256)
def b8 (F : Nat) : List UInt8 := [byteAt F 7, byteAt F 6, byteAt F 5, byteAt F 4, byteAt F 3, byteAt F 2, byteAt F 1, byteAt F 0]
theorem byteAt_int (F k : Nat) (P : Int) (hP : P = ((2 ^ (8 * k) : Nat) : Int)) : ((byteAt F k).toNat : Int) = (F : Int) / P % 256 := by
  subst hP
  unfold byteAt
  generalize 2 ^ (8 * k) = Q
  rw [UInt8.toNat_ofNat']
  have h1 : F / Q % 256 % 2 ^ 8 = F / Q % 256 := by
    rw [show 2 ^ 8 = 256 from rfl, Nat.mod_mod]
  rw [h1]
  omega
theorem b8_get (F j : Nat) (h : j < 8) : (b8 F).getD j 0 = byteAt F (7 - j) := by
  rcases (show j = 0 ∨ j = 1 ∨ j = 2 ∨ j = 3 ∨ j = 4 ∨ j = 5 ∨ j = 6 ∨ j = 7 by omega) with rfl | rfl | rfl | rfl | rfl | rfl | rfl | rfl <;> rfl
/-- The text of a body's tag. -/
def makeL (l : List UInt8) : List UInt8 := Bs.hexL (b8 (Bs.fnvR l)) ++ [45] ++ Lib.itoa (l.length : Int)

set_option maxRecDepth 100000 in
set_option maxHeartbeats 4000000 in
theorem Make_any (s : ByteArray) (hs : s.size ≤ 1048576) (wk : Bool) (w : World) (hp : Pow w) :
    Calls Tryz.prog 12 #[.string s, .bool wk] w fun e w' => e = .returned (.agg #[.bool wk, .string (str (makeL s.data.toList))]) ∧ Below w.heap.size w w' := by
  obtain ⟨w1, hw1⟩ : ∃ w1, w1 = w.alloc (.cells #[.bool false, .string ⟨#[]⟩] 27) := ⟨_, rfl⟩
  have z1 : w1.heap.size = w.heap.size + 1 := by rw [hw1]; simp
  have HF : Hid (∀ W, Calls Tryz.prog 19 #[.string s] W fun e w' => e = .returned (.int .u64 ((Bs.fnvR s.data.toList : Nat) : Int)) ∧ w' = W) := fun W => by
    have h := Bs.Fnv_any s.data.toList (by rw [size_list]; omega) W
    rw [show Bs.str s.data.toList = s from str_self s] at h
    exact h
  have hF := Bs.fnvR_lt s.data.toList
  generalize hFF : Bs.fnvR s.data.toList = F at *
  have HFF : Hid (Bs.fnvR s.data.toList = F) := hFF
  clear hFF
  go_enter Tryz.func12, Tryz.ntmps12
  go_wp2_with fail
  rw [← hw1]
  refine (HF.out _).mono ?_
  rintro e w' ⟨rfl, rfl⟩
  have hab : TB 27 w' w.heap.size (false, []) := by rw [hw1]; exact heap_alloc_new w _
  have hrow0 : Row (w'.alloc (.cells #[.int .u8 0, .int .u8 0, .int .u8 0, .int .u8 0, .int .u8 0, .int .u8 0, .int .u8 0, .int .u8 0] 61)) (w.heap.size + 1) 8 (fun j => if 7 - j < 0 then ((byteAt F (7 - j)).toNat : Int) else 0) := by
    rw [← z1]
    have hh : (w'.alloc (.cells #[.int .u8 0, .int .u8 0, .int .u8 0, .int .u8 0, .int .u8 0, .int .u8 0, .int .u8 0, .int .u8 0] 61)).heap[w'.heap.size]? = some (.cells #[.int .u8 0, .int .u8 0, .int .u8 0, .int .u8 0, .int .u8 0, .int .u8 0, .int .u8 0, .int .u8 0] 61 (0, 0)) := heap_alloc_new w' _
    refine ⟨fun j hj => ?_, fun j hj => Lib.frozen_of_heap hh j⟩
    have := Lib.cell_of_heap hh j
    rw [this]
    rcases (show j = 0 ∨ j = 1 ∨ j = 2 ∨ j = 3 ∨ j = 4 ∨ j = 5 ∨ j = 6 ∨ j = 7 by omega) with rfl | rfl | rfl | rfl | rfl | rfl | rfl | rfl <;> rfl
  have HR0 : Hid (Row _ _ _ _) := hrow0
  have HA0 : Hid (TB 27 _ w.heap.size (false, [])) := hab.alloc (.cells #[.int .u8 0, .int .u8 0, .int .u8 0, .int .u8 0, .int .u8 0, .int .u8 0, .int .u8 0, .int .u8 0] 61)
  have HB0 : Hid (Below w.heap.size w (w'.alloc (.cells #[.int .u8 0, .int .u8 0, .int .u8 0, .int .u8 0, .int .u8 0, .int .u8 0, .int .u8 0, .int .u8 0] 61))) := (by rw [hw1]; exact ((Below.refl _ w).alloc (Nat.le_refl _) _).alloc (by simp) _ : Below _ _ _)
  have HX : Hid (∀ W, Calls Tryz.prog 20 #[.string (str (b8 F))] W fun e w' => e = .returned (.string (str (Bs.hexL (b8 F)))) ∧ Below W.heap.size W w') := fun W => Bs.Hex_any (b8 F) (by show 2 * 8 ≤ _; omega) W
  have HD : Hid (∀ W, Below w.heap.size w W → Calls Tryz.prog 21 #[.int .i64 (s.size : Nat)] W fun e w' => e = .returned (.string (str (Lib.itoa (s.size : Nat)))) ∧ Below W.heap.size W w') := fun W hb => Digits_any _ (by omega) (by omega) W (hp.below hb (Nat.le_refl _))
  have HM : Hid (str (makeL s.data.toList) = str (Bs.hexL (b8 F)) ++ ⟨#[45]⟩ ++ str (Lib.itoa (s.size : Nat))) := by
    apply str_of
    unfold makeL
    rw [HFF.out, size_list]
    simp [ByteArray.data_append, str_list]
  have hex16 : (str (Bs.hexL (b8 F))).size = 16 := by rw [str_size, Bs.hexL_length]; rfl
  have hdl : (str (Lib.itoa (s.size : Nat))).size ≤ 21 := by
    rw [str_size]
    by_cases hz : s.size = 0
    · rw [hz, show ((0 : Nat) : Int) = 0 from rfl, itoa_zero]; decide
    · rw [itoa_decD _ (by omega), if_neg (by omega)]
      have := decD_len (s.size : Int) (by omega) (by omega)
      simpa using this
  generalize str (Bs.hexL (b8 F)) = HXS at *
  generalize str (Lib.itoa (s.size : Nat)) = DGS at *
  clear hab hrow0 hp
  go_wp2
  rw [← hw1]
  clear hw1 z1
  go_loopw [10] (fun i wr => ∃ k : Nat, k ≤ 8 ∧ i = .int .i64 k ∧ Hid (Row wr (w.heap.size + 1) 8 (fun j => if 7 - j < k then ((byteAt F (7 - j)).toNat : Int) else 0)) ∧ Hid (TB 27 wr w.heap.size (false, [])) ∧ Hid (Below w.heap.size w wr)) (fun i _ => 8 - (intOf i).toNat)
  case atStart => exact ⟨0, by omega, rfl, HR0, HA0, HB0⟩
  case round =>
    obtain ⟨k, hk, rfl, hrow, ha, hb⟩ := hrel
    clear HR0 HA0 HB0
    by_cases hlt : k < 8
    · rcases (show k = 0 ∨ k = 1 ∨ k = 2 ∨ k = 3 ∨ k = 4 ∨ k = 5 ∨ k = 6 ∨ k = 7 by omega) with rfl | rfl | rfl | rfl | rfl | rfl | rfl | rfl
      · have c0 := hrow.out.cell 7 (by omega)
        have f0 := hrow.out.free 7 (by omega)
        clear HX HD
        go_wp2
        go_roundw
        case rel => exact ⟨1, by omega, by go_num, hrow.out.set 7 (by omega) _ _ (fun j hj => by
          by_cases e : j = 7
          · subst e
            rw [if_pos (by omega), if_pos rfl, byteAt_int F 0 1 (by decide)] <;> (try simp) <;> (try omega)
          · rw [if_neg e]
            by_cases h : 7 - j < 0
            · rw [if_pos (by omega), if_pos h]
            · rw [if_neg (by omega), if_neg h]), ha.out.other (p := ⟨w.heap.size + 1, 7, none⟩) (by simp) _, hb.out.setCell (p := ⟨w.heap.size + 1, 7, none⟩) (by simp) _⟩
        case measure => simp [intOf]
      · have c1 := hrow.out.cell 6 (by omega)
        have f1 := hrow.out.free 6 (by omega)
        clear HX HD
        go_wp2
        go_roundw
        case rel => exact ⟨2, by omega, by go_num, hrow.out.set 6 (by omega) _ _ (fun j hj => by
          by_cases e : j = 6
          · subst e
            rw [if_pos (by omega), if_pos rfl, byteAt_int F 1 256 (by decide)] <;> (try simp) <;> (try omega)
          · rw [if_neg e]
            by_cases h : 7 - j < 1
            · rw [if_pos (by omega), if_pos h]
            · rw [if_neg (by omega), if_neg h]), ha.out.other (p := ⟨w.heap.size + 1, 6, none⟩) (by simp) _, hb.out.setCell (p := ⟨w.heap.size + 1, 6, none⟩) (by simp) _⟩
        case measure => simp [intOf]
      · have c2 := hrow.out.cell 5 (by omega)
        have f2 := hrow.out.free 5 (by omega)
        clear HX HD
        go_wp2
        go_roundw
        case rel => exact ⟨3, by omega, by go_num, hrow.out.set 5 (by omega) _ _ (fun j hj => by
          by_cases e : j = 5
          · subst e
            rw [if_pos (by omega), if_pos rfl, byteAt_int F 2 65536 (by decide)] <;> (try simp) <;> (try omega)
          · rw [if_neg e]
            by_cases h : 7 - j < 2
            · rw [if_pos (by omega), if_pos h]
            · rw [if_neg (by omega), if_neg h]), ha.out.other (p := ⟨w.heap.size + 1, 5, none⟩) (by simp) _, hb.out.setCell (p := ⟨w.heap.size + 1, 5, none⟩) (by simp) _⟩
        case measure => simp [intOf]
      · have c3 := hrow.out.cell 4 (by omega)
        have f3 := hrow.out.free 4 (by omega)
        clear HX HD
        go_wp2
        go_roundw
        case rel => exact ⟨4, by omega, by go_num, hrow.out.set 4 (by omega) _ _ (fun j hj => by
          by_cases e : j = 4
          · subst e
            rw [if_pos (by omega), if_pos rfl, byteAt_int F 3 16777216 (by decide)] <;> (try simp) <;> (try omega)
          · rw [if_neg e]
            by_cases h : 7 - j < 3
            · rw [if_pos (by omega), if_pos h]
            · rw [if_neg (by omega), if_neg h]), ha.out.other (p := ⟨w.heap.size + 1, 4, none⟩) (by simp) _, hb.out.setCell (p := ⟨w.heap.size + 1, 4, none⟩) (by simp) _⟩
        case measure => simp [intOf]
      · have c4 := hrow.out.cell 3 (by omega)
        have f4 := hrow.out.free 3 (by omega)
        clear HX HD
        go_wp2
        go_roundw
        case rel => exact ⟨5, by omega, by go_num, hrow.out.set 3 (by omega) _ _ (fun j hj => by
          by_cases e : j = 3
          · subst e
            rw [if_pos (by omega), if_pos rfl, byteAt_int F 4 4294967296 (by decide)] <;> (try simp) <;> (try omega)
          · rw [if_neg e]
            by_cases h : 7 - j < 4
            · rw [if_pos (by omega), if_pos h]
            · rw [if_neg (by omega), if_neg h]), ha.out.other (p := ⟨w.heap.size + 1, 3, none⟩) (by simp) _, hb.out.setCell (p := ⟨w.heap.size + 1, 3, none⟩) (by simp) _⟩
        case measure => simp [intOf]
      · have c5 := hrow.out.cell 2 (by omega)
        have f5 := hrow.out.free 2 (by omega)
        clear HX HD
        go_wp2
        go_roundw
        case rel => exact ⟨6, by omega, by go_num, hrow.out.set 2 (by omega) _ _ (fun j hj => by
          by_cases e : j = 2
          · subst e
            rw [if_pos (by omega), if_pos rfl, byteAt_int F 5 1099511627776 (by decide)] <;> (try simp) <;> (try omega)
          · rw [if_neg e]
            by_cases h : 7 - j < 5
            · rw [if_pos (by omega), if_pos h]
            · rw [if_neg (by omega), if_neg h]), ha.out.other (p := ⟨w.heap.size + 1, 2, none⟩) (by simp) _, hb.out.setCell (p := ⟨w.heap.size + 1, 2, none⟩) (by simp) _⟩
        case measure => simp [intOf]
      · have c6 := hrow.out.cell 1 (by omega)
        have f6 := hrow.out.free 1 (by omega)
        clear HX HD
        go_wp2
        go_roundw
        case rel => exact ⟨7, by omega, by go_num, hrow.out.set 1 (by omega) _ _ (fun j hj => by
          by_cases e : j = 1
          · subst e
            rw [if_pos (by omega), if_pos rfl, byteAt_int F 6 281474976710656 (by decide)] <;> (try simp) <;> (try omega)
          · rw [if_neg e]
            by_cases h : 7 - j < 6
            · rw [if_pos (by omega), if_pos h]
            · rw [if_neg (by omega), if_neg h]), ha.out.other (p := ⟨w.heap.size + 1, 1, none⟩) (by simp) _, hb.out.setCell (p := ⟨w.heap.size + 1, 1, none⟩) (by simp) _⟩
        case measure => simp [intOf]
      · have c7 := hrow.out.cell 0 (by omega)
        have f7 := hrow.out.free 0 (by omega)
        clear HX HD
        go_wp2
        go_roundw
        case rel => exact ⟨8, by omega, by go_num, hrow.out.set 0 (by omega) _ _ (fun j hj => by
          by_cases e : j = 0
          · subst e
            rw [if_pos (by omega), if_pos rfl, byteAt_int F 7 72057594037927936 (by decide)] <;> (try simp) <;> (try omega)
          · rw [if_neg e]
            by_cases h : 7 - j < 7
            · rw [if_pos (by omega), if_pos h]
            · rw [if_neg (by omega), if_neg h]), ha.out.other (p := ⟨w.heap.size + 1, 0, none⟩) (by simp) _, hb.out.setCell (p := ⟨w.heap.size + 1, 0, none⟩) (by simp) _⟩
        case measure => simp [intOf]
    · obtain rfl : k = 8 := by omega
      have hbk := back wr (w.heap.size + 1) 8 8 _ (b8 F) hrow.out rfl (fun j hj => by rw [if_pos (by omega), b8_get F j hj])
      clear hrow
      go_wp2_with fail
      refine (HX.out _).mono ?_
      rintro e w4 ⟨rfl, hb4⟩
      have HB4 : Hid (Below w.heap.size w w4) := bel_trans hb.out hb4
      have HA4 : Hid (TB 27 w4 w.heap.size (false, [])) := ha.out.below hb4
      clear hb4 hbk
      go_wp2_with fail
      refine (HD.out _ HB4.out).mono ?_
      rintro e w5 ⟨rfl, hb5⟩
      have HB5 : Hid (Below w.heap.size w w5) := bel_trans HB4.out hb5
      have ha5 := HA4.out.below hb5
      have a0 := ha5.c0
      have a1 := ha5.c1
      have g0 := ha5.f 0
      have g1 := ha5.f 1
      clear hb5 ha5
      have s1 : HXS.size + (⟨#[45]⟩ : ByteArray).size ≤ 9223372036854775807 := by rw [hex16]; decide
      have s2 : (HXS ++ ⟨#[45]⟩).size + DGS.size ≤ 9223372036854775807 := by rw [ByteArray.size_append, hex16]; show 16 + 1 + DGS.size ≤ _; omega
      go_wp2
      refine bodyPost_ret (v := .agg #[.bool wk, .string (HXS ++ ⟨#[45]⟩ ++ DGS)]) (by simp [results, Tryz.results12, go_sem, a0, a1]) rfl ?_
      rw [HM.out]
      refine ⟨rfl, ?_⟩
      repeat (first | exact HB5.out | refine Below.setCell ?_ (by simp) _)

end Tt
end Go.Proofs.YtheeloaebilgiabGreatDoor
