/- Several texts as one. -/
import Derived.Test.YthfckgdaencagaaGreatDoorRows
import Derived.Test.YthfckgdaencagaaGreatDoorMgK
import Derived.OpenShut
import Derived.SliceStrings
import Derived.Carry
import Derived.Test.YthfckgdaencagaaGreatDoorMgH
/-
  A slice of texts that came in, read as texts.
-/
set_option linter.unusedVariables false
set_option linter.unusedSimpArgs false
namespace Go.Proofs.YthfckgdaencagaaGreatDoor
open Go.ChangeShapes Go.WideShapes Go.RowKit
namespace Oc

theorem laidOutT : laidOutB Tryz.prog = true := by kernel_rfl

theorem cells9 : Tryz.prog.cellsOf 9 = 1 := by kernel_rfl

theorem bulk_strs {H : Type} : ∀ ss : List ByteArray, Rows.uptoBulkAll (strs (H := H) ss) = sumL (ss.map (·.data.toList)) + ss.length
  | [] => by simp [strs, sumL, Rows.uptoBulkAll]
  | s :: ss => by
    have ih := bulk_strs (H := H) ss
    simp only [strs, sumL, List.map_cons, List.sum_cons, List.length_cons, Rows.uptoBulkAll, Rows.uptoBulk] at ih ⊢
    omega
def bulkstrings (t : List (List UInt8)) : Nat := t.length + sumL t
set_option maxRecDepth 100000 in
theorem open_texts {H : Type} {enc : TypeId × Value → H} {W : World} {base : Nat} {v : Value} {d : DataW H} {ps : List MemPlace} (hval : Value.okWide Tryz.prog W .any base 22 v)
    (h : DataW.Trod enc Tryz.prog W 0 (fun _ => true) true 22 v d ps) : ∃ t : List (List UInt8), RdS v t W ∧ bulkstrings t ≤ Rows.uptoBulk d := by
  unfold bulkstrings
  obtain ⟨a0, len, cap, rfl⟩ := okWide_slice Tryz.underlying22 hval
  obtain ⟨fuel, hf⟩ := h
  rcases open_strings Tryz.underlying22 Tryz.underlying9 cells9 hf with ⟨hcs, hx⟩ | ⟨a, len', cap', ss, hcs, _, hl, hm, hz, hx, hcell, hsz⟩
  · simp [Value.cells] at hcs
    obtain ⟨rfl, rfl, rfl⟩ := hcs
    exact ⟨[], ⟨none, 0, rfl, .inl rfl⟩, by simp [sumL]⟩
  · simp [Value.cells] at hcs
    obtain ⟨rfl, rfl, rfl⟩ := hcs
    simp only [Prod.mk.injEq] at hx
    obtain ⟨rfl, rfl⟩ := hx
    simp only [if_true] at hz
    have htk : (ss.take len).length = len := by simp; omega
    refine ⟨(ss.take len).map (·.data.toList), ⟨some a, cap, by rw [List.length_map, htk], ?_⟩, ?_⟩
    · by_cases hl0 : len = 0
      · left; subst hl0; simp
      · right
        obtain ⟨g, o, spot⟩ := a
        have hspot : spot = none := by simpa [Addr.add] using World.cell?_spot (hcell 0 (by omega))
        subst hspot
        refine ⟨g, o, rfl, by rw [List.length_map, htk]; exact hl, fun j hj => ?_⟩
        rw [List.length_map, htk] at hj
        have hc := hcell j (by omega)
        have ea : Addr.add ⟨g, o, none⟩ j = ⟨g, o + j, none⟩ := by unfold Addr.add; split <;> simp_all
        rw [ea] at hc
        rw [hc]
        have hj2 : j < ss.length := by omega
        have hj3 : j < (ss.take len).length := by omega
        congr 2
        rw [List.getD_eq_getElem?_getD, List.getElem?_eq_getElem hj2, List.getD_eq_getElem?_getD, List.getElem?_map, List.getElem?_eq_getElem hj3]
        simp [str_self]
    · simp only [Rows.uptoBulk, bulk_strs]
      rw [List.length_map]
      omega
theorem rd_one (w : World) (l : List UInt8) : RdS (.slice (some ⟨w.heap.size, 0, none⟩) 1 1) [l] (w.alloc (.cells #[.string (str l)] 9)) :=
  ⟨some ⟨w.heap.size, 0, none⟩, 1, rfl, .inr ⟨w.heap.size, 0, rfl, Nat.le_refl _, fun j hj => by
    have : j = 0 := by simpa using hj
    subst this
    simp⟩⟩
theorem el_le (t : List (List UInt8)) (k : Nat) (h : k < t.length) : (t.getD k []).length ≤ sumL t := by
  have h1 := sumL_succ t k h
  have h2 := sumL_take t (k + 1)
  omega
theorem trim_nil : trim [] = [] := rfl
theorem lst_of_listR {l : List UInt8} {t : List (List UInt8)} (h : listR l = (t, 0)) : lst [] l = some t := by
  unfold listR at h
  cases e : lst [] l with
  | none => rw [e] at h; cases h
  | some u => rw [e] at h; cases h; rfl
/-- Texts that are elements for themselves come back. -/
theorem lst_join : ∀ t : List (List UInt8), (∀ j, j < t.length → listR (t.getD j []) = ([t.getD j []], 0)) → lst [] (joinF t) = some t
  | [], _ => by simp [joinF, lst_nil, addEl, trim_nil]
  | [x], h => by
    have := h 0 (by simp)
    exact lst_of_listR this
  | x :: y :: r, h => by
    have hx := lst_of_listR (h 0 (by simp))
    have ih := lst_join (y :: r) (fun j hj => h (j + 1) (by simpa using hj))
    show lst [] (x ++ 44 :: (32 :: joinF (y :: r))) = _
    rw [lst_split _ x [] _ _ (Nat.le_refl _) hx, lst_on _ _ 32 (by decide) (by decide), List.nil_append, lst_blank _ _ [] (Nat.le_refl _), ih]
    rfl

end Oc
end Go.Proofs.YthfckgdaencagaaGreatDoor

/-
  octet.partsSay, octet.Unquote.
-/
set_option linter.unusedVariables false
set_option linter.unusedSimpArgs false
namespace Go.Proofs.YthfckgdaencagaaGreatDoor
open Go.RowKit Go.Shelf
namespace Oc

theorem say_back (c : UInt8) (l : List UInt8) (h : c = 92) : psay false (c :: l) = psay true l := by rw [psay, if_pos ⟨h, rfl⟩]
theorem say_esc (c : UInt8) (l : List UInt8) : psay true (c :: l) = c :: psay false l := by rw [psay, if_neg (by simp)]
theorem say_on (e : Bool) (c : UInt8) (l : List UInt8) (h : c ≠ 92) : psay e (c :: l) = c :: psay false l := by rw [psay, if_neg (fun x => h x.1)]

set_option maxRecDepth 100000 in
set_option maxHeartbeats 1000000 in
theorem partsSay_any (s : ByteArray) (hs : s.size ≤ 134217728) (w : World) :
    Calls Tryz.prog 108 #[.string s] w fun e w' => e = .returned (.string (str (psay false s.data.toList))) ∧ Below w.heap.size w w' := by
  have hcv := fun (s : ByteArray) w => Lib.run_convert_string_bytes (P := Tryz.prog) w 9 107 5 s Tryz.underlying9 Tryz.underlying107 Tryz.underlying5
  go_enter Tryz.func108, Tryz.ntmps108
  go_wp2
  have HN0 := bld_new w
  have hsz0 : (w.alloc (.cells #[.pointer none, .slice none 0 0] 150)).heap.size = w.heap.size + 1 := by simp
  have HL0 : Hid (Below w.heap.size w (w.alloc (.cells #[.pointer none, .slice none 0 0] 150))) := (Below.refl _ w).alloc (Nat.le_refl _) _
  have HB0 : Hid (Lib.IsBuilder 150 5 w.heap.size w.heap.size (Lib.byteCells []) (Lib.bytesWorld (w.alloc (.cells #[.pointer none, .slice none 0 0] 150)) 5 s)) := .inl (bld_bytes HN0 s)
  clear HN0 hcv
  go_loopw [4, 10] (fun ev i wr => ∃ (k : Nat) (esc : Bool) (out : List UInt8), k ≤ s.size ∧ i = .int .i64 k ∧ ev = .bool esc ∧ out.length ≤ k ∧ Hid (psay false s.data.toList = out ++ psay esc (s.data.toList.drop k)) ∧ Hid (Lib.IsBuilder 150 5 w.heap.size w.heap.size (Lib.byteCells out) wr) ∧ Hid (RowAt (w.alloc (.cells #[.pointer none, .slice none 0 0] 150)) s wr) ∧ Hid (Below w.heap.size w wr)) (fun _ i _ => s.size - (intOf i).toNat)
  case atStart => exact ⟨0, false, [], Nat.zero_le _, rfl, rfl, Nat.le_refl _, (by simp : psay false s.data.toList = [] ++ psay false (s.data.toList.drop 0)), HB0, (rfl : RowAt (w.alloc (.cells #[.pointer none, .slice none 0 0] 150)) s _), HL0.out.trans ((below_bytes (w.alloc (.cells #[.pointer none, .slice none 0 0] 150)) 5 s).mono (by rw [hsz0]; omega))⟩
  case round =>
    obtain ⟨k, esc, out, hk, rfl, rfl, hol, hst, hbd, hrow, hbl⟩ := hrel
    have hsz := hbl.out.size
    by_cases hlt : k < s.size
    · have hck := hrow.out.cell k hlt
      rw [hsz0] at hck
      have HC : Hid (byt s k = ((s.data.toList.getD k 0).toNat : Int)) := rfl
      have HD : Hid (s.data.toList.drop k = s.data.toList.getD k 0 :: s.data.toList.drop (k + 1)) := drop_cons _ k (by rw [size_list]; exact hlt)
      generalize s.data.toList.getD k 0 = u at HC HD
      obtain ⟨b0, b1⟩ := byt_bd s k
      generalize byt s k = c at *
      have wr8 : ∀ w8 : World, Lib.BuilderAt 150 5 w.heap.size w.heap.size (.pointer (some ⟨w.heap.size, 0, none⟩)) (Lib.byteCells out ++ [.int .u8 c]) w8 → Lib.IsBuilder 150 5 w.heap.size w.heap.size (Lib.byteCells (out ++ [u])) w8 := by
        intro w8 h
        rw [HC.out, cells_snoc] at h
        exact .inr h
      have HW8 : Hid (∀ w8 : World, Lib.BuilderAt 150 5 w.heap.size w.heap.size (.pointer (some ⟨w.heap.size, 0, none⟩)) (Lib.byteCells out ++ [.int .u8 c]) w8 → Lib.IsBuilder 150 5 w.heap.size w.heap.size (Lib.byteCells (out ++ [u])) w8) := wr8
      clear wr8
      by_cases h92 : c = 92
      · have h92' : (c == 92) = true := by simp [h92]
        have HU : Hid (u = 92) := UInt8.toNat_inj.1 (by have := HC.out; show u.toNat = 92; omega)
        clear h92
        cases esc with
        | false =>
          have HN : Hid (psay false s.data.toList = out ++ psay true (s.data.toList.drop (k + 1))) := by
            show psay _ _ = _
            rw [hst.out, HD.out, say_back _ _ HU.out]
          go_wp2
          go_roundw
          case rel => exact ⟨k + 1, true, out, by omega, by go_num, rfl, by omega, HN, hbd, hrow, hbl⟩
          case measure => simp [intOf]; omega
        | true =>
          have HN : Hid (psay false s.data.toList = (out ++ [u]) ++ psay false (s.data.toList.drop (k + 1))) := by
            show psay _ _ = _
            rw [hst.out, HD.out, say_esc]
            simp
          go_wp2_with fail
          refine (WriteByte_any w.heap.size w.heap.size _ c _ hbd.out (by rw [cells_len]; omega) (by omega)).mono ?_
          rintro e w4 ⟨rfl, hbd4, hbl4, hmk4⟩
          have HD4 := HW8.out w4 hbd4
          have HR4 : Hid (RowAt (w.alloc (.cells #[.pointer none, .slice none 0 0] 150)) s w4) := hrow.out.marked hmk4
          have HB4 : Hid (Below w.heap.size w w4) := hbl.out.trans hbl4
          have HE4 : Hid (Lib.IsBuilder 150 5 w.heap.size w.heap.size (Lib.byteCells (out ++ [u])) w4) := HD4
          clear hbd4 hbl4 hmk4 HD4
          go_wp2
          go_roundw
          case rel => exact ⟨k + 1, false, out ++ [u], by omega, by go_num, rfl, by simp; omega, HN, HE4, HR4, HB4⟩
          case measure => simp [intOf]; omega
      · have h92' : (c == 92) = false := by simp [h92]
        have HU : Hid (u ≠ 92) := fun e => h92 (by have := HC.out; rw [e] at this; exact this)
        clear h92
        have HN : Hid (psay false s.data.toList = (out ++ [u]) ++ psay false (s.data.toList.drop (k + 1))) := by
          show psay _ _ = _
          rw [hst.out, HD.out, say_on _ _ _ HU.out]
          simp
        go_wp2_with fail
        refine (WriteByte_any w.heap.size w.heap.size _ c _ hbd.out (by rw [cells_len]; omega) (by omega)).mono ?_
        rintro e w4 ⟨rfl, hbd4, hbl4, hmk4⟩
        have HD4 := HW8.out w4 hbd4
        have HR4 : Hid (RowAt (w.alloc (.cells #[.pointer none, .slice none 0 0] 150)) s w4) := hrow.out.marked hmk4
        have HB4 : Hid (Below w.heap.size w w4) := hbl.out.trans hbl4
        have HE4 : Hid (Lib.IsBuilder 150 5 w.heap.size w.heap.size (Lib.byteCells (out ++ [u])) w4) := HD4
        clear hbd4 hbl4 hmk4 HD4
        go_wp2
        go_roundw
        case rel => exact ⟨k + 1, false, out ++ [u], by omega, by go_num, rfl, by simp; omega, HN, HE4, HR4, HB4⟩
        case measure => simp [intOf]; omega
    · have HN : Hid (psay false s.data.toList = out) := by
        show psay _ _ = _
        rw [hst.out, List.drop_of_length_le (by rw [size_list]; omega)]
        cases esc <;> simp [psay]
      go_wp2_with fail
      refine (Tryz.Builder_String_any w.heap.size w.heap.size out _ hbd.out (by omega)).mono ?_
      rintro e w4 ⟨rfl, hbl4⟩
      go_wp2
      go_ret
      exact ⟨ret_string (by rw [HN.out]; rfl), hbl.out.trans hbl4⟩

set_option maxRecDepth 100000 in
set_option maxHeartbeats 1000000 in
theorem Unquote_any (s : ByteArray) (hs : s.size ≤ 134217728) (w : World) :
    Calls Tryz.prog 107 #[.string s] w fun e w' => e = .returned (.tuple #[.string (str (unqR s.data.toList).1), .int .i64 (unqR s.data.toList).2.1, .int .i64 (unqR s.data.toList).2.2]) ∧ Below w.heap.size w w' := by
  have HS : Hid (s.size ≤ maxLen) := (by unfold maxLen; omega : s.size ≤ maxLen)
  have hq := qlen_bd s.data.toList
  rw [size_list] at hq
  obtain ⟨hq1, hq2⟩ := hq
  by_cases hz : qlen s.data.toList = 0
  · have HU : Hid (unqR s.data.toList = ([], 0, 13)) := (by unfold unqR; rw [if_pos hz] : unqR s.data.toList = ([], 0, 13))
    have HZ : Hid (qlen s.data.toList = 0) := hz
    clear hq1 hq2 hz
    go_enter Tryz.func107, Tryz.ntmps107
    go_wp2_with fail
    refine (quotedLength_any s HS.out _).mono ?_
    rintro e w1 ⟨rfl, hb1⟩
    rw [HZ.out]
    go_wp2
    go_ret3
    rw [HU.out]
    exact ⟨rfl, hb1⟩
  · have HU : Hid (unqR s.data.toList = (psay false ((s.data.toList.drop 1).take (qlen s.data.toList - 2)), (qlen s.data.toList : Int), 0)) := (by unfold unqR; rw [if_neg hz] : unqR s.data.toList = _)
    have h2 := hq2 hz
    have HX : Hid ((s.extract 1 (qlen s.data.toList - 1)).data.toList = (s.data.toList.drop 1).take (qlen s.data.toList - 2)) := by
      show (s.extract 1 (qlen s.data.toList - 1)).data.toList = _
      rw [Lib.extract_data, show qlen s.data.toList - 1 - 1 = qlen s.data.toList - 2 by omega]
    clear hq2 hz
    go_enter Tryz.func107, Tryz.ntmps107
    go_wp2_with fail
    refine (quotedLength_any s HS.out _).mono ?_
    rintro e w1 ⟨rfl, hb1⟩
    generalize qlen s.data.toList = n at *
    have hne : ((n : Int) == 0) = false := by simp; omega
    have hcast : ((n : Int) - 1) = ((n - 1 : Nat) : Int) := by omega
    go_wp2_with fail
    refine (partsSay_any (s.extract 1 (n - 1)) (by simp; omega) _).mono ?_
    rintro e w2 ⟨rfl, hb2⟩
    rw [HX.out]
    generalize psay false ((s.data.toList.drop 1).take (n - 2)) = r at *
    go_wp2
    go_ret3
    rw [HU.out]
    exact ⟨rfl, bel_trans hb1 hb2⟩

end Oc
end Go.Proofs.YthfckgdaencagaaGreatDoor
