/- Several texts as one. -/
import Derived.Test.YthdfgepnadgkjaaGreatDoorZzO
import Derived.Lib.IndexLaws
import Derived.BigQuiet
/-
  Boundaries: isMark, isBoundary; the document's Stands.
-/
set_option linter.unusedVariables false
set_option linter.unusedSimpArgs false
namespace Go.Proofs.YthdfgepnadgkjaaGreatDoor
open Go.RowKit Go.Shelf
namespace Sn
open Oc Tg Ac

def noM : List UInt8 := [39, 40, 41, 43, 95, 44, 45, 46, 47, 58, 61, 63]
def markI (c : Int) (h : Bool) : Bool := (decide (48 ≤ c) && decide (c ≤ 57)) || ((decide (65 ≤ c) && decide (c ≤ 90)) || ((decide (97 ≤ c) && decide (c ≤ 122)) || h))
/-- May a byte stand in a boundary? -/
def markB (c : UInt8) : Bool := markI (c.toNat : Int) (noM.contains c)
def bndR (l : List UInt8) : Bool := l.all markB && (decide (l ≠ []) && decide (l.length ≤ 70))

set_option maxRecDepth 100000 in
set_option maxHeartbeats 1000000 in
theorem isMark_any (c : UInt8) (w : World) :
    Calls Tryz.prog 51 #[.int .u8 (c.toNat : Int)] w fun e w' => e = .returned (.bool (markB c)) ∧ w' = w := by
  have HI : Hid (∀ W, Calls Tryz.prog 79 #[.string ⟨#[39, 40, 41, 43, 95, 44, 45, 46, 47, 58, 61, 63]⟩, .int .u8 (c.toNat : Int)] W fun e w' => e = .returned (.int .i64 (Lib.indexByte noM c)) ∧ w' = W) := fun W => by
    have h := Tryz.strings_IndexByte ⟨#[39, 40, 41, 43, 95, 44, 45, 46, 47, 58, 61, 63]⟩ (c.toNat : Int) W
    rw [show ((c.toNat : Int).toNat.toUInt8) = c by simp] at h
    exact h
  have HC : Hid (noM.contains c = decide (0 ≤ Lib.indexByte noM c)) := Lib.contains_iff_indexByte noM c
  have b0 : (0 : Int) ≤ (c.toNat : Int) := by omega
  have b1 : (c.toNat : Int) ≤ 255 := by have := c.toNat_lt; omega
  unfold markB
  rw [HC.out]
  clear HC
  generalize Lib.indexByte noM c = IX at *
  generalize (c.toNat : Int) = C at *
  unfold markI
  by_cases h1 : 48 ≤ C
  · by_cases h2 : C ≤ 57
    · go_enter Tryz.func51, Tryz.ntmps51
      go_wp2_with go_in
      go_ret
      exact ⟨ret_bool (by first | (rw [Bool.eq_iff_iff]; simp only [Bool.or_eq_true, Bool.and_eq_true, decide_eq_true_eq, true_iff]; omega) | (rw [Bool.eq_iff_iff]; simp only [Bool.or_eq_true, Bool.and_eq_true, decide_eq_true_eq, true_iff]; done) | rfl | simp), rfl⟩
    · by_cases h3 : 65 ≤ C
      · by_cases h4 : C ≤ 90
        · go_enter Tryz.func51, Tryz.ntmps51
          go_wp2_with go_in
          go_ret
          exact ⟨ret_bool (by first | (rw [Bool.eq_iff_iff]; simp only [Bool.or_eq_true, Bool.and_eq_true, decide_eq_true_eq, true_iff]; omega) | (rw [Bool.eq_iff_iff]; simp only [Bool.or_eq_true, Bool.and_eq_true, decide_eq_true_eq, true_iff]; done) | rfl | simp), rfl⟩
        · by_cases h5 : 97 ≤ C
          · by_cases h6 : C ≤ 122
            · go_enter Tryz.func51, Tryz.ntmps51
              go_wp2_with go_in
              go_ret
              exact ⟨ret_bool (by first | (rw [Bool.eq_iff_iff]; simp only [Bool.or_eq_true, Bool.and_eq_true, decide_eq_true_eq, true_iff]; omega) | (rw [Bool.eq_iff_iff]; simp only [Bool.or_eq_true, Bool.and_eq_true, decide_eq_true_eq, true_iff]; done) | rfl | simp), rfl⟩
            · go_enter Tryz.func51, Tryz.ntmps51
              go_wp2_with (first | (go_at_call 79; refine (HI.out _).mono ?_; rintro e w2 ⟨rfl, rfl⟩) | go_in)
              go_ret
              exact ⟨ret_bool (by first | (rw [Bool.eq_iff_iff]; simp only [Bool.or_eq_true, Bool.and_eq_true, decide_eq_true_eq, true_iff]; omega) | (rw [Bool.eq_iff_iff]; simp only [Bool.or_eq_true, Bool.and_eq_true, decide_eq_true_eq, true_iff]; done) | rfl | simp), rfl⟩
          · go_enter Tryz.func51, Tryz.ntmps51
            go_wp2_with (first | (go_at_call 79; refine (HI.out _).mono ?_; rintro e w2 ⟨rfl, rfl⟩) | go_in)
            go_ret
            exact ⟨ret_bool (by first | (rw [Bool.eq_iff_iff]; simp only [Bool.or_eq_true, Bool.and_eq_true, decide_eq_true_eq, true_iff]; omega) | (rw [Bool.eq_iff_iff]; simp only [Bool.or_eq_true, Bool.and_eq_true, decide_eq_true_eq, true_iff]; done) | rfl | simp), rfl⟩
      · have h5 : ¬ 97 ≤ C := by omega
        go_enter Tryz.func51, Tryz.ntmps51
        go_wp2_with (first | (go_at_call 79; refine (HI.out _).mono ?_; rintro e w2 ⟨rfl, rfl⟩) | go_in)
        go_ret
        exact ⟨ret_bool (by first | (rw [Bool.eq_iff_iff]; simp only [Bool.or_eq_true, Bool.and_eq_true, decide_eq_true_eq, true_iff]; omega) | (rw [Bool.eq_iff_iff]; simp only [Bool.or_eq_true, Bool.and_eq_true, decide_eq_true_eq, true_iff]; done) | rfl | simp), rfl⟩
  · have h3 : ¬ 65 ≤ C := by omega
    have h5 : ¬ 97 ≤ C := by omega
    go_enter Tryz.func51, Tryz.ntmps51
    go_wp2_with (first | (go_at_call 79; refine (HI.out _).mono ?_; rintro e w2 ⟨rfl, rfl⟩) | go_in)
    go_ret
    exact ⟨ret_bool (by first | (rw [Bool.eq_iff_iff]; simp only [Bool.or_eq_true, Bool.and_eq_true, decide_eq_true_eq, true_iff]; omega) | (rw [Bool.eq_iff_iff]; simp only [Bool.or_eq_true, Bool.and_eq_true, decide_eq_true_eq, true_iff]; done) | rfl | simp), rfl⟩

theorem bnd_bad {l : List UInt8} {k : Nat} (hk : k < l.length) (h : markB (l.getD k 0) = false) : bndR l = false := by
  unfold bndR
  rw [show l.all markB = false from by
    rw [List.all_eq_false]
    refine ⟨l[k], List.getElem_mem _, ?_⟩
    rw [List.getD_eq_getElem?_getD, List.getElem?_eq_getElem hk] at h
    simp at h
    simp [h]]
  rfl
theorem bnd_ok {l : List UInt8} (h : ∀ j, j < l.length → markB (l.getD j 0) = true) : bndR l = (decide (l ≠ []) && decide (l.length ≤ 70)) := by
  unfold bndR
  rw [show l.all markB = true from by
    rw [List.all_eq_true]
    intro x hx
    obtain ⟨k, hk, rfl⟩ := List.mem_iff_getElem.1 hx
    have := h k hk
    rw [List.getD_eq_getElem?_getD, List.getElem?_eq_getElem hk] at this
    simpa using this]
  rfl

set_option maxRecDepth 100000 in
set_option maxHeartbeats 1000000 in
theorem isBoundary_any (s : ByteArray) (hs : s.size ≤ 16777216) (w : World) :
    Calls Tryz.prog 26 #[.string s] w fun e w' => e = .returned (.bool (bndR s.data.toList)) ∧ Below w.heap.size w w' := by
  have hcv := fun w => Lib.run_convert_string_bytes (P := Tryz.prog) w 9 68 5 s Tryz.underlying9 Tryz.underlying68 Tryz.underlying5
  obtain ⟨w1, hw1⟩ : ∃ w1, w1 = Lib.bytesWorld w 5 s := ⟨_, rfl⟩
  have HB1 : Hid (Below w.heap.size w w1) := by rw [hw1]; exact below_bytes w 5 s
  have HC : Hid (∀ j, j < s.size → w1.cell? ⟨w.heap.size, j, none⟩ = some (.int .u8 (byt s j))) := fun j hj => by rw [hw1]; exact bytes_cell w 5 s j hj
  have HM : Hid (∀ k W, Calls Tryz.prog 51 #[.int .u8 (byt s k)] W fun e w' => e = .returned (.bool (markB (s.data.toList.getD k 0))) ∧ w' = W) := fun k W => isMark_any (s.data.toList.getD k 0) W
  have HY : Hid (∀ k, k < s.size → markB (s.data.toList.getD k 0) = false → bndR s.data.toList = false) := fun k hk h => bnd_bad (by rw [size_list]; exact hk) h
  have HN : Hid ((∀ j, j < s.size → markB (s.data.toList.getD j 0) = true) → bndR s.data.toList = (decide (s.data.toList ≠ []) && decide (s.size ≤ 70))) := fun h => by
    have := bnd_ok (l := s.data.toList) (fun j hj => h j (by rw [size_list] at hj; exact hj))
    rw [size_list] at this
    exact this
  have he : (s.toList != []) = decide (s.data.toList ≠ []) := by
    rw [ByteArray.toList_eq]
    cases s.data.toList <;> simp
  have HE : Hid ((s.toList != []) = decide (s.data.toList ≠ [])) := he
  clear he
  generalize bndR s.data.toList = M at *
  generalize decide (s.data.toList ≠ []) = D at *
  go_enter Tryz.func26, Tryz.ntmps26
  go_wp2
  rw [← hw1]
  clear hw1 hcv
  go_loopw [8] (fun i wr => ∃ k : Nat, k ≤ s.size ∧ i = .int .i64 k ∧ Hid (∀ j, j < k → markB (s.data.toList.getD j 0) = true) ∧ w1 = wr) (fun i _ => s.size - (intOf i).toNat)
  case atStart => exact ⟨0, Nat.zero_le _, rfl, (fun j hj => absurd hj (Nat.not_lt_zero _) : ∀ j, j < 0 → _), rfl⟩
  case round =>
    obtain ⟨k, hk, rfl, hA, rfl⟩ := hrel
    by_cases hlt : k < s.size
    · have c0 := HC.out k hlt
      have HMk : Hid (∀ W, _) := fun W => HM.out k W
      have HYk : Hid (markB (s.data.toList.getD k 0) = false → M = false) := HY.out k hlt
      have HAn : Hid (markB (s.data.toList.getD k 0) = true → ∀ j, j < k + 1 → markB (s.data.toList.getD j 0) = true) := fun h j hj => by
        by_cases e : j = k
        · rw [e]; exact h
        · exact hA.out j (by omega)
      generalize markB (s.data.toList.getD k 0) = b at HMk HYk HAn
      generalize byt s k = C at *
      cases b with
      | false =>
        have hM : Hid (M = false) := HYk.out rfl
        clear HYk HAn
        go_wp2_with fail
        refine (HMk.out _).mono ?_
        rintro e w2 ⟨rfl, rfl⟩
        go_wp2
        go_ret
        rw [hM.out]
        exact ⟨rfl, HB1.out⟩
      | true =>
        have HAk : Hid (∀ j, j < k + 1 → markB (s.data.toList.getD j 0) = true) := HAn.out rfl
        clear HYk HAn
        go_wp2_with fail
        refine (HMk.out _).mono ?_
        rintro e w2 ⟨rfl, hw2⟩
        rw [hw2]
        clear hw2
        go_wp2
        go_roundw
        case rel => exact ⟨k + 1, by omega, by go_num, HAk, by first | rfl | trivial⟩
        case measure => simp [intOf]; omega
    · obtain rfl : k = s.size := by omega
      have hM : Hid (M = (D && decide (s.size ≤ 70))) := HN.out hA.out
      go_wp2
      all_goals
        go_ret
        rw [hM.out]
        refine ⟨ret_bool ?_, HB1.out⟩
        rw [← HE.out]
        have e : decide ((s.size : Int) ≤ 70) = decide (s.size ≤ 70) := decide_eq_decide.2 (by omega)
        first
        | (rw [e]; cases s.toList <;> simp; done)
        | (cases h : s.toList <;> simp_all)

end Sn
end Go.Proofs.YthdfgepnadgkjaaGreatDoor

/-
  The document's Stands, IsMark.
-/
set_option linter.unusedVariables false
set_option linter.unusedSimpArgs false
namespace Go.Proofs.YthdfgepnadgkjaaGreatDoor
open Go.RowKit Go.Shelf
namespace Sn
open Oc Tg Ac

theorem ext_list2 (s : ByteArray) (a b : Nat) : (s.extract a b).data.toList = (s.data.toList.drop a).take (b - a) := by
  rw [ByteArray.data_extract, Array.toList_extract, List.extract_eq_take_drop]
theorem occ_ext (b s : ByteArray) (k : Nat) : ((b.extract k (k + s.size)).toList == s.toList) = Lib.occAt b.data.toList s.data.toList k := by
  rw [eq_toList]
  unfold Lib.occAt
  rw [Bool.eq_iff_iff, decide_eq_true_iff, List.isPrefixOf_iff_prefix, List.prefix_iff_eq_take, size_list]
  constructor
  · intro h
    have := congrArg (fun x : ByteArray => x.data.toList) h
    rw [ext_list2, Nat.add_sub_cancel_left] at this
    exact this.symm
  · intro h
    apply eq_list
    rw [ext_list2, Nat.add_sub_cancel_left]
    exact h.symm

end Sn
end Go.Proofs.YthdfgepnadgkjaaGreatDoor

/-
  The document's IsMark.
-/
set_option linter.unusedVariables false
set_option linter.unusedSimpArgs false
namespace Go.Proofs.YthdfgepnadgkjaaGreatDoor
open Go.RowKit Go.Shelf
namespace Sn
open Oc Tg Ac

def okK (c : UInt8) (j : Nat) : Bool := (lettI (c.toNat : Int) || digI (c.toNat : Int)) || (noM.take j).contains c
theorem okK_all (c : UInt8) : okK c 12 = markB c := by
  have h : ∀ n : Nat, n < 256 → okK (UInt8.ofNat n) 12 = markB (UInt8.ofNat n) := by decide +kernel
  have := h c.toNat c.toNat_lt
  rwa [UInt8.ofNat_toNat] at this
theorem okK_next (c : UInt8) (j : Nat) (h : j < 12) : okK c (j + 1) = (okK c j || decide ((c.toNat : Int) = ((noM.getD j 0).toNat : Int))) := by
  have k : ∀ j : Nat, j < 12 → ∀ n : Nat, n < 256 → okK (UInt8.ofNat n) (j + 1) = (okK (UInt8.ofNat n) j || decide (((UInt8.ofNat n).toNat : Int) = ((noM.getD j 0).toNat : Int))) := by decide +kernel
  have := k j h c.toNat c.toNat_lt
  rwa [UInt8.ofNat_toNat] at this
theorem noM_at (j : Nat) (h : j < (⟨#[39, 40, 41, 43, 95, 44, 45, 46, 47, 58, 61, 63]⟩ : ByteArray).size) : (((⟨#[39, 40, 41, 43, 95, 44, 45, 46, 47, 58, 61, 63]⟩ : ByteArray)[j].toNat : Nat) : Int) = ((noM.getD j 0).toNat : Int) := byt_at _ j h

end Sn
end Go.Proofs.YthdfgepnadgkjaaGreatDoor
