/-
  octet.Quote.
-/
import Derived.Test.YtifhbjkgdnemjaaGreatDoorBld
import Derived.Test.YtifhbjkgdnemjaaGreatDoorQPlain
import Derived.Test.YtifhbjkgdnemjaaGreatDoorShelf
set_option linter.unusedVariables false
set_option linter.unusedSimpArgs false
namespace Go.Proofs.YtifhbjkgdnemjaaGreatDoor
open Go.RowKit Go.Shelf
namespace Oc

abbrev BldU (B b : Nat) (l : List UInt8) (w : World) : Prop := Lib.BuilderAt 74 5 B b (.pointer (some ⟨b, 0, none⟩)) (Lib.byteCells l) w

theorem cells_snoc (l : List UInt8) (c : UInt8) : Lib.byteCells l ++ [.int .u8 (c.toNat : Int)] = Lib.byteCells (l ++ [c]) := by simp [Lib.byteCells]
theorem cells_len (l : List UInt8) : (Lib.byteCells l).length = l.length := by simp [Lib.byteCells]

/-- A builder of no bytes, new. -/
theorem bld_new (w : World) : Lib.BuilderAt 74 5 w.heap.size w.heap.size (.pointer none) (Lib.byteCells []) (w.alloc (.cells #[.pointer none, .slice none 0 0] 74)) := by
  refine ⟨Nat.le_refl _, .slice none 0 0, heap_alloc_new w _, World.ownsRow_nil _ _ _ _, by simp [Value.ownBlock]⟩

theorem grown_bytes (w : World) (s : ByteArray) : w.grownBy (Lib.bytesWorld w 5 s) none :=
  ⟨(below_bytes w 5 s).os, (below_bytes w 5 s).tape, (below_bytes w 5 s).output, (below_bytes w 5 s).size, fun k hk _ => Lib.bytesWorld_at_old w 5 s k hk⟩
theorem bld_bytes {B b : Nat} {p : Value} {bs : List Value} {w : World} (h : Lib.BuilderAt 74 5 B b p bs w) (s : ByteArray) : Lib.BuilderAt 74 5 B b p bs (Lib.bytesWorld w 5 s) := by
  have hlt := h.lt
  obtain ⟨hB, v, hb, hown, hne⟩ := h
  refine ⟨hB, v, by rw [Lib.bytesWorld_at_old w 5 s b hlt]; exact hb, hown.kept (grown_bytes w s) ?_, hne⟩
  cases hv : v.ownBlock with
  | none => exact .inl rfl
  | some k => exact .inr (by simp)

/-- The row of a conversion, as it was laid. -/
def RowAt (w2 : World) (s : ByteArray) (w : World) : Prop := w.heap[w2.heap.size]? = (Lib.bytesWorld w2 5 s).heap[w2.heap.size]?
theorem RowAt.cell {w2 w : World} {s : ByteArray} (h : RowAt w2 s w) (j : Nat) (hj : j < s.size) : w.cell? ⟨w2.heap.size, j, none⟩ = some (.int .u8 (byt s j)) := by
  rw [World.cell?_of_block (w := Lib.bytesWorld w2 5 s) (a := ⟨w2.heap.size, j, none⟩) h]
  exact bytes_cell w2 5 s j hj
theorem RowAt.marked {w2 w w' : World} {s : ByteArray} (h : RowAt w2 s w) (m : Marked w w') : RowAt w2 s w' := by
  have h1 := h
  unfold RowAt at h1
  rw [Lib.bytesWorld_at_new] at h1
  unfold RowAt
  rw [m _ _ _ _ h1 (by simp)]
  exact h

set_option maxRecDepth 100000 in
set_option maxHeartbeats 1000000 in
theorem Quote_any (s : ByteArray) (hs : s.size ≤ 16777216) (w : World) :
    Calls Tryz.prog 55 #[.string s] w fun e w' => e = .returned (.tuple #[.string (str (quoteR s.data.toList).1), .int .i64 (quoteR s.data.toList).2]) ∧ Below w.heap.size w w' := by
  have HS : Hid (s.size ≤ maxLen) := (by unfold maxLen; omega : s.size ≤ maxLen)
  cases hf : isFld s.data.toList with
  | false =>
    have HQ : Hid (quoteR s.data.toList = ([], 13)) := (by unfold quoteR; rw [hf]; rfl : quoteR s.data.toList = ([], 13))
    go_enter Tryz.func55, Tryz.ntmps55
    go_wp2_with fail
    refine (IsField_any s HS.out _).mono ?_
    rintro e w1 ⟨rfl, hb1⟩
    rw [hf]
    go_wp2
    go_ret2
    rw [HQ.out]
    exact ⟨rfl, hb1⟩
  | true =>
    have HQ : Hid (quoteR s.data.toList = (qText s.data.toList, 0)) := (by unfold quoteR; rw [hf]; rfl : quoteR s.data.toList = (qText s.data.toList, 0))
    have hcv := fun w => Lib.run_convert_string_bytes (P := Tryz.prog) w 9 72 5 s Tryz.underlying9 Tryz.underlying72 Tryz.underlying5
    go_enter Tryz.func55, Tryz.ntmps55
    go_wp2_with fail
    refine (IsField_any s HS.out _).mono ?_
    rintro e w1 ⟨rfl, hb1⟩
    rw [hf]
    have HB1 : Hid (Below w.heap.size w w1) := hb1
    clear hb1
    go_wp2_with fail
    refine (WriteByte_any w1.heap.size w1.heap.size (Lib.byteCells []) 34 _ (.inl (bld_new w1)) (by simp [Lib.byteCells]) (by simp)).mono ?_
    rintro e w2 ⟨rfl, hbd, hbl, hmk⟩
    have HD : Hid (BldU w1.heap.size w1.heap.size [34] w2) := hbd
    have hlt : w1.heap.size < w2.heap.size := hbd.lt
    have HL : Hid (Below w1.heap.size w1 w2) := ((Below.refl _ w1).alloc (Nat.le_refl _) _).trans hbl
    clear hbd hbl hmk
    go_wp2
    go_loopw [14] (fun i wr => ∃ k : Nat, k ≤ s.size ∧ i = .int .i64 k ∧ Hid (BldU w1.heap.size w1.heap.size (34 :: qBody (s.data.toList.take k)) wr) ∧ Hid (RowAt w2 s wr) ∧ Hid (Below w1.heap.size w1 wr)) (fun i _ => s.size - (intOf i).toNat)
    case atStart => exact ⟨0, Nat.zero_le _, rfl, bld_bytes HD.out s, (rfl : RowAt w2 s _), HL.out.trans ((below_bytes w2 5 s).mono (by omega))⟩
    case round =>
      obtain ⟨k, hk, rfl, hbd, hrow, hbl⟩ := hrel
      clear hcv
      have hsz := hbl.out.size
      have hlen : ∀ j, j ≤ s.size → (Lib.byteCells (34 :: qBody (s.data.toList.take j))).length ≤ 33554434 := by
        intro j hj
        rw [cells_len]
        have := qBody_le (s.data.toList.take j)
        have := List.length_take_le j s.data.toList
        simp
        omega
      have HLen : Hid (∀ j, j ≤ s.size → (Lib.byteCells (34 :: qBody (s.data.toList.take j))).length ≤ 33554434) := hlen
      clear hlen
      by_cases hlt : k < s.size
      · have hck := hrow.out.cell k hlt
        obtain ⟨b0, b1⟩ := byt_bd s k
        have HN : Hid (34 :: qBody (s.data.toList.take (k + 1)) = 34 :: qBody (s.data.toList.take k) ++ qByte (s.data.toList.getD k 0)) := by
          show _ = _
          rw [take_snoc s k hlt, qBody_snoc]
          rfl
        have HC : Hid (byt s k = ((s.data.toList.getD k 0).toNat : Int)) := rfl
        by_cases hq : byt s k = 34 ∨ byt s k = 92
        · have HQ2 : Hid (qByte (s.data.toList.getD k 0) = [92, s.data.toList.getD k 0]) := by
            show qByte _ = _
            unfold qByte
            rw [if_pos]
            have := HC.out
            rcases hq with h | h
            · exact .inl (UInt8.toNat_inj.1 (by show _ = 34; omega))
            · exact .inr (UInt8.toNat_inj.1 (by show _ = 92; omega))
          have hq' : (byt s k == 34) = true ∨ (byt s k == 34) = false ∧ (byt s k == 92) = true := by
            by_cases h : byt s k = 34
            · left; simp [h]
            · right; exact ⟨by simp [h], by simp; omega⟩
          clear hq
          rcases hq' with hq | ⟨hq, hq2⟩
          all_goals
            go_wp2_with fail
            refine (WriteByte_any w1.heap.size w1.heap.size _ 92 _ (.inr hbd.out) (by have := HLen.out k hk; omega) (by omega)).mono ?_
            rintro e w3 ⟨rfl, hbd3, hbl3, hmk3⟩
            have HD3 : Hid (BldU w1.heap.size w1.heap.size (34 :: qBody (s.data.toList.take k) ++ [92]) w3) := (by rw [← cells_snoc]; exact hbd3 : Lib.BuilderAt _ _ _ _ _ _ w3)
            have HR3 : Hid (RowAt w2 s w3) := hrow.out.marked hmk3
            have HB3 : Hid (Below w1.heap.size w1 w3) := hbl.out.trans hbl3
            have hsz3 := HB3.out.size
            clear hbd3 hbl3 hmk3
            go_wp2_with fail
            refine (WriteByte_any w1.heap.size w1.heap.size _ (byt s k) _ (.inr HD3.out) (by have := HLen.out k hk; rw [cells_len] at this; rw [cells_len, List.length_append]; simp at this ⊢; omega) (by omega)).mono ?_
            rintro e w4 ⟨rfl, hbd4, hbl4, hmk4⟩
            have HD4 : Hid (BldU w1.heap.size w1.heap.size (34 :: qBody (s.data.toList.take (k + 1))) w4) := (by
              have h := hbd4
              rw [HC.out, cells_snoc] at h
              rw [HN.out, HQ2.out]
              simpa using h : Lib.BuilderAt _ _ _ _ _ _ w4)
            have HR4 : Hid (RowAt w2 s w4) := HR3.out.marked hmk4
            have HB4 : Hid (Below w1.heap.size w1 w4) := HB3.out.trans hbl4
            clear hbd4 hbl4 hmk4
            go_wp2
            go_roundw
            case rel => exact ⟨k + 1, by omega, by go_num, HD4, HR4, HB4⟩
            case measure => simp [intOf]; omega
        · have HQ1 : Hid (qByte (s.data.toList.getD k 0) = [s.data.toList.getD k 0]) := by
            show qByte _ = _
            unfold qByte
            rw [if_neg]
            have := HC.out
            rintro (h | h)
            · rw [h] at this; exact hq (.inl this)
            · rw [h] at this; exact hq (.inr this)
          have hq1 : (byt s k == 34) = false := by simp; omega
          have hq2 : (byt s k == 92) = false := by simp; omega
          clear hq
          go_wp2_with fail
          refine (WriteByte_any w1.heap.size w1.heap.size _ (byt s k) _ (.inr hbd.out) (by have := HLen.out k hk; omega) (by omega)).mono ?_
          rintro e w4 ⟨rfl, hbd4, hbl4, hmk4⟩
          have HD4 : Hid (BldU w1.heap.size w1.heap.size (34 :: qBody (s.data.toList.take (k + 1))) w4) := (by
            have h := hbd4
            rw [HC.out, cells_snoc] at h
            rw [HN.out, HQ1.out]
            exact h : Lib.BuilderAt _ _ _ _ _ _ w4)
          have HR4 : Hid (RowAt w2 s w4) := hrow.out.marked hmk4
          have HB4 : Hid (Below w1.heap.size w1 w4) := hbl.out.trans hbl4
          clear hbd4 hbl4 hmk4
          go_wp2
          go_roundw
          case rel => exact ⟨k + 1, by omega, by go_num, HD4, HR4, HB4⟩
          case measure => simp [intOf]; omega
      · obtain rfl : k = s.size := by omega
        go_wp2_with fail
        refine (WriteByte_any w1.heap.size w1.heap.size _ 34 _ (.inr hbd.out) (by have := HLen.out _ hk; omega) (by omega)).mono ?_
        rintro e w3 ⟨rfl, hbd3, hbl3, hmk3⟩
        have HD3 : Hid (BldU w1.heap.size w1.heap.size (qText s.data.toList) w3) := (by
          have h := hbd3
          rw [show (34 : Int) = ((34 : UInt8).toNat : Int) from rfl, cells_snoc, List.take_of_length_le (by simp)] at h
          exact h : Lib.BuilderAt _ _ _ _ _ _ w3)
        have HB3 : Hid (Below w1.heap.size w1 w3) := hbl.out.trans hbl3
        have hsz3 := HB3.out.size
        clear hbd3 hbl3 hmk3
        go_wp2_with fail
        refine (Tryz.Builder_String_any w1.heap.size w1.heap.size (qText s.data.toList) _ (.inr HD3.out) (by omega)).mono ?_
        rintro e w4 ⟨rfl, hbl4⟩
        go_wp2
        go_ret2
        rw [HQ.out]
        exact ⟨rfl, HB1.out.trans ((HB3.out.trans hbl4).mono HB1.out.size)⟩

end Oc
end Go.Proofs.YtifhbjkgdnemjaaGreatDoor
