/- Several texts as one. -/
import Derived.Test.YtejagkpjdfambaaDoorMgD
import Derived.Test.YtejagkpjdfambaaDoorRows
import Derived.Test.YtejagkpjdfambaaDoorMgG
import Derived.OpenShut
import Derived.SliceStrings
import Derived.Carry
import Derived.Test.YtejagkpjdfambaaDoorMgF
/-
  Texts with commas between.
-/
set_option linter.unusedVariables false
namespace Go.Proofs.YtejagkpjdfambaaDoor
namespace Oc

def joinF : List (List UInt8) → List UInt8
  | [] => []
  | [x] => x
  | x :: y :: r => x ++ 44 :: 32 :: joinF (y :: r)
def sumL (t : List (List UInt8)) : Nat := (t.map List.length).sum
def jp (t : List (List UInt8)) (k : Nat) : List UInt8 := joinF (t.take k)
theorem joinF_snoc : ∀ (t : List (List UInt8)) (y : List UInt8), t ≠ [] → joinF (t ++ [y]) = joinF t ++ [44, 32] ++ y
  | [], y, h => absurd rfl h
  | [x], y, _ => by show x ++ 44 :: 32 :: y = x ++ [44, 32] ++ y; simp
  | x :: z :: r, y, _ => by
    have ih := joinF_snoc (z :: r) y (by simp)
    show x ++ 44 :: 32 :: joinF (z :: (r ++ [y])) = (x ++ 44 :: 32 :: joinF (z :: r)) ++ [44, 32] ++ y
    rw [show z :: (r ++ [y]) = (z :: r) ++ [y] from rfl, ih]
    simp
theorem joinF_len : ∀ t : List (List UInt8), (joinF t).length ≤ sumL t + 2 * t.length
  | [] => by simp [joinF]
  | [x] => by simp [joinF, sumL]
  | x :: y :: r => by
    have ih := joinF_len (y :: r)
    show (x ++ 44 :: 32 :: joinF (y :: r)).length ≤ x.length + sumL (y :: r) + 2 * ((y :: r).length + 1)
    rw [List.length_append, List.length_cons, List.length_cons]
    omega
theorem take_succ (t : List (List UInt8)) (k : Nat) (h : k < t.length) : t.take (k + 1) = t.take k ++ [t.getD k []] := by
  rw [List.take_add_one, List.getElem?_eq_getElem h, List.getD_eq_getElem?_getD, List.getElem?_eq_getElem h]; rfl
theorem sumL_append (a b : List (List UInt8)) : sumL (a ++ b) = sumL a + sumL b := by simp [sumL]
theorem sumL_succ (t : List (List UInt8)) (k : Nat) (h : k < t.length) : sumL (t.take (k + 1)) = sumL (t.take k) + (t.getD k []).length := by
  rw [take_succ t k h, sumL_append]; simp [sumL]
theorem sumL_take (t : List (List UInt8)) (k : Nat) : sumL (t.take k) ≤ sumL t := by
  have := sumL_append (t.take k) (t.drop k)
  rw [List.take_append_drop] at this
  omega
theorem jp_len (t : List (List UInt8)) (k : Nat) : (jp t k).length ≤ sumL t + 2 * t.length := by
  have h1 := joinF_len (t.take k)
  have h2 := sumL_take t k
  rw [List.length_take] at h1
  show (joinF (t.take k)).length ≤ _
  omega
theorem jp_one (t : List (List UInt8)) (h : 0 < t.length) : jp t 1 = t.getD 0 [] := by
  cases t with
  | nil => simp at h
  | cons x t => rfl
theorem jp_succ (t : List (List UInt8)) (k : Nat) (h : k < t.length) (h0 : 0 < k) : jp t (k + 1) = jp t k ++ [44, 32] ++ t.getD k [] := by
  unfold jp
  rw [take_succ t k h]
  exact joinF_snoc _ _ (fun e => by
    have := congrArg List.length e
    rw [List.length_take, List.length_nil] at this
    omega)
theorem jp_all (t : List (List UInt8)) : jp t t.length = joinF t := by unfold jp; rw [List.take_length]

end Oc
end Go.Proofs.YtejagkpjdfambaaDoor

/-
  A slice of texts that came in, read as texts.
-/
set_option linter.unusedVariables false
set_option linter.unusedSimpArgs false
namespace Go.Proofs.YtejagkpjdfambaaDoor
open Go.ChangeShapes Go.WideShapes Go.RowKit
namespace Oc

theorem laidOutT : laidOutB Tryd.prog = true := by kernel_rfl

theorem cells9 : Tryd.prog.cellsOf 9 = 1 := by kernel_rfl

end Oc
end Go.Proofs.YtejagkpjdfambaaDoor

/-
  octet.partsSay, octet.Unquote.
-/
set_option linter.unusedVariables false
set_option linter.unusedSimpArgs false
namespace Go.Proofs.YtejagkpjdfambaaDoor
open Go.RowKit Go.Shelf
namespace Oc

theorem say_back (c : UInt8) (l : List UInt8) (h : c = 92) : psay false (c :: l) = psay true l := by rw [psay, if_pos ⟨h, rfl⟩]
theorem say_esc (c : UInt8) (l : List UInt8) : psay true (c :: l) = c :: psay false l := by rw [psay, if_neg (by simp)]
theorem say_on (e : Bool) (c : UInt8) (l : List UInt8) (h : c ≠ 92) : psay e (c :: l) = c :: psay false l := by rw [psay, if_neg (fun x => h x.1)]

set_option maxRecDepth 100000 in
set_option maxHeartbeats 1000000 in
theorem partsSay_any (s : ByteArray) (hs : s.size ≤ 134217728) (w : World) :
    Calls Tryd.prog 88 #[.string s] w fun e w' => e = .returned (.string (str (psay false s.data.toList))) ∧ Below w.heap.size w w' := by
  have hcv := fun (s : ByteArray) w => Lib.run_convert_string_bytes (P := Tryd.prog) w 9 91 5 s Tryd.underlying9 Tryd.underlying91 Tryd.underlying5
  go_enter Tryd.func88, Tryd.ntmps88
  go_wp2
  have HN0 := bld_new w
  have hsz0 : (w.alloc (.cells #[.pointer none, .slice none 0 0] 128)).heap.size = w.heap.size + 1 := by simp
  have HL0 : Hid (Below w.heap.size w (w.alloc (.cells #[.pointer none, .slice none 0 0] 128))) := (Below.refl _ w).alloc (Nat.le_refl _) _
  have HB0 : Hid (Lib.IsBuilder 128 5 w.heap.size w.heap.size (Lib.byteCells []) (Lib.bytesWorld (w.alloc (.cells #[.pointer none, .slice none 0 0] 128)) 5 s)) := .inl (bld_bytes HN0 s)
  clear HN0 hcv
  go_loopw [4, 10] (fun ev i wr => ∃ (k : Nat) (esc : Bool) (out : List UInt8), k ≤ s.size ∧ i = .int .i64 k ∧ ev = .bool esc ∧ out.length ≤ k ∧ Hid (psay false s.data.toList = out ++ psay esc (s.data.toList.drop k)) ∧ Hid (Lib.IsBuilder 128 5 w.heap.size w.heap.size (Lib.byteCells out) wr) ∧ Hid (RowAt (w.alloc (.cells #[.pointer none, .slice none 0 0] 128)) s wr) ∧ Hid (Below w.heap.size w wr)) (fun _ i _ => s.size - (intOf i).toNat)
  case atStart => exact ⟨0, false, [], Nat.zero_le _, rfl, rfl, Nat.le_refl _, (by simp : psay false s.data.toList = [] ++ psay false (s.data.toList.drop 0)), HB0, (rfl : RowAt (w.alloc (.cells #[.pointer none, .slice none 0 0] 128)) s _), HL0.out.trans ((below_bytes (w.alloc (.cells #[.pointer none, .slice none 0 0] 128)) 5 s).mono (by rw [hsz0]; omega))⟩
  case round =>
    obtain ⟨k, esc, out, hk, rfl, rfl, hol, hst, hbd, hrow, hbl⟩ := hrel
    have hsz := hbl.out.size
    by_cases hlt : k < s.size
    · have hck := hrow.out.cell k hlt
      rw [hsz0] at hck
      have HC : Hid (byt s k = ((s.data.toList.getD k 0).toNat : Int)) := rfl
      have HD : Hid (s.data.toList.drop k = s.data.toList.getD k 0 :: s.data.toList.drop (k + 1)) := drop_cons _ k (by rw [size_list]; exact hlt)
      generalize s.data.toList.getD k 0 = u at HC HD
      obtain ⟨b0, b1⟩ := byt_bd s k
      generalize byt s k = c at *
      have wr8 : ∀ w8 : World, Lib.BuilderAt 128 5 w.heap.size w.heap.size (.pointer (some ⟨w.heap.size, 0, none⟩)) (Lib.byteCells out ++ [.int .u8 c]) w8 → Lib.IsBuilder 128 5 w.heap.size w.heap.size (Lib.byteCells (out ++ [u])) w8 := by
        intro w8 h
        rw [HC.out, cells_snoc] at h
        exact .inr h
      have HW8 : Hid (∀ w8 : World, Lib.BuilderAt 128 5 w.heap.size w.heap.size (.pointer (some ⟨w.heap.size, 0, none⟩)) (Lib.byteCells out ++ [.int .u8 c]) w8 → Lib.IsBuilder 128 5 w.heap.size w.heap.size (Lib.byteCells (out ++ [u])) w8) := wr8
      clear wr8
      by_cases h92 : c = 92
      · have h92' : (c == 92) = true := by simp [h92]
        have HU : Hid (u = 92) := UInt8.toNat_inj.1 (by have := HC.out; show u.toNat = 92; omega)
        clear h92
        cases esc with
        | false =>
          have HN : Hid (psay false s.data.toList = out ++ psay true (s.data.toList.drop (k + 1))) := by
            show psay _ _ = _
            rw [hst.out, HD.out, say_back _ _ HU.out]
          go_wp2
          go_roundw
          case rel => exact ⟨k + 1, true, out, by omega, by go_num, rfl, by omega, HN, hbd, hrow, hbl⟩
          case measure => simp [intOf]; omega
        | true =>
          have HN : Hid (psay false s.data.toList = (out ++ [u]) ++ psay false (s.data.toList.drop (k + 1))) := by
            show psay _ _ = _
            rw [hst.out, HD.out, say_esc]
            simp
          go_wp2_with fail
          refine (WriteByte_any w.heap.size w.heap.size _ c _ hbd.out (by rw [cells_len]; omega) (by omega)).mono ?_
          rintro e w4 ⟨rfl, hbd4, hbl4, hmk4⟩
          have HD4 := HW8.out w4 hbd4
          have HR4 : Hid (RowAt (w.alloc (.cells #[.pointer none, .slice none 0 0] 128)) s w4) := hrow.out.marked hmk4
          have HB4 : Hid (Below w.heap.size w w4) := hbl.out.trans hbl4
          have HE4 : Hid (Lib.IsBuilder 128 5 w.heap.size w.heap.size (Lib.byteCells (out ++ [u])) w4) := HD4
          clear hbd4 hbl4 hmk4 HD4
          go_wp2
          go_roundw
          case rel => exact ⟨k + 1, false, out ++ [u], by omega, by go_num, rfl, by simp; omega, HN, HE4, HR4, HB4⟩
          case measure => simp [intOf]; omega
      · have h92' : (c == 92) = false := by simp [h92]
        have HU : Hid (u ≠ 92) := fun e => h92 (by have := HC.out; rw [e] at this; exact this)
        clear h92
        have HN : Hid (psay false s.data.toList = (out ++ [u]) ++ psay false (s.data.toList.drop (k + 1))) := by
          show psay _ _ = _
          rw [hst.out, HD.out, say_on _ _ _ HU.out]
          simp
        go_wp2_with fail
        refine (WriteByte_any w.heap.size w.heap.size _ c _ hbd.out (by rw [cells_len]; omega) (by omega)).mono ?_
        rintro e w4 ⟨rfl, hbd4, hbl4, hmk4⟩
        have HD4 := HW8.out w4 hbd4
        have HR4 : Hid (RowAt (w.alloc (.cells #[.pointer none, .slice none 0 0] 128)) s w4) := hrow.out.marked hmk4
        have HB4 : Hid (Below w.heap.size w w4) := hbl.out.trans hbl4
        have HE4 : Hid (Lib.IsBuilder 128 5 w.heap.size w.heap.size (Lib.byteCells (out ++ [u])) w4) := HD4
        clear hbd4 hbl4 hmk4 HD4
        go_wp2
        go_roundw
        case rel => exact ⟨k + 1, false, out ++ [u], by omega, by go_num, rfl, by simp; omega, HN, HE4, HR4, HB4⟩
        case measure => simp [intOf]; omega
    · have HN : Hid (psay false s.data.toList = out) := by
        show psay _ _ = _
        rw [hst.out, List.drop_of_length_le (by rw [size_list]; omega)]
        cases esc <;> simp [psay]
      go_wp2_with fail
      refine (Tryd.Builder_String_any w.heap.size w.heap.size out _ hbd.out (by omega)).mono ?_
      rintro e w4 ⟨rfl, hbl4⟩
      go_wp2
      go_ret
      exact ⟨ret_string (by rw [HN.out]; rfl), hbl.out.trans hbl4⟩

set_option maxRecDepth 100000 in
set_option maxHeartbeats 1000000 in
theorem Unquote_any (s : ByteArray) (hs : s.size ≤ 134217728) (w : World) :
    Calls Tryd.prog 86 #[.string s] w fun e w' => e = .returned (.tuple #[.string (str (unqR s.data.toList).1), .int .i64 (unqR s.data.toList).2.1, .int .i64 (unqR s.data.toList).2.2]) ∧ Below w.heap.size w w' := by
  have HS : Hid (s.size ≤ maxLen) := (by unfold maxLen; omega : s.size ≤ maxLen)
  have hq := qlen_bd s.data.toList
  rw [size_list] at hq
  obtain ⟨hq1, hq2⟩ := hq
  by_cases hz : qlen s.data.toList = 0
  · have HU : Hid (unqR s.data.toList = ([], 0, 13)) := (by unfold unqR; rw [if_pos hz] : unqR s.data.toList = ([], 0, 13))
    have HZ : Hid (qlen s.data.toList = 0) := hz
    clear hq1 hq2 hz
    go_enter Tryd.func86, Tryd.ntmps86
    go_wp2_with fail
    refine (quotedLength_any s HS.out _).mono ?_
    rintro e w1 ⟨rfl, hb1⟩
    rw [HZ.out]
    go_wp2
    go_ret3
    rw [HU.out]
    exact ⟨rfl, hb1⟩
  · have HU : Hid (unqR s.data.toList = (psay false ((s.data.toList.drop 1).take (qlen s.data.toList - 2)), (qlen s.data.toList : Int), 0)) := (by unfold unqR; rw [if_neg hz] : unqR s.data.toList = _)
    have h2 := hq2 hz
    have HX : Hid ((s.extract 1 (qlen s.data.toList - 1)).data.toList = (s.data.toList.drop 1).take (qlen s.data.toList - 2)) := by
      show (s.extract 1 (qlen s.data.toList - 1)).data.toList = _
      rw [Lib.extract_data, show qlen s.data.toList - 1 - 1 = qlen s.data.toList - 2 by omega]
    clear hq2 hz
    go_enter Tryd.func86, Tryd.ntmps86
    go_wp2_with fail
    refine (quotedLength_any s HS.out _).mono ?_
    rintro e w1 ⟨rfl, hb1⟩
    generalize qlen s.data.toList = n at *
    have hne : ((n : Int) == 0) = false := by simp; omega
    have hcast : ((n : Int) - 1) = ((n - 1 : Nat) : Int) := by omega
    go_wp2_with fail
    refine (partsSay_any (s.extract 1 (n - 1)) (by simp; omega) _).mono ?_
    rintro e w2 ⟨rfl, hb2⟩
    rw [HX.out]
    generalize psay false ((s.data.toList.drop 1).take (n - 2)) = r at *
    go_wp2
    go_ret3
    rw [HU.out]
    exact ⟨rfl, bel_trans hb1 hb2⟩

end Oc
end Go.Proofs.YtejagkpjdfambaaDoor
