/- Several texts as one. -/
import Derived.Test.YtkaciaiooidohaaDoorZzN
import Derived.Lib.IndexLaws
import Derived.BigQuiet
/-
  Boundaries: isMark, isBoundary; the document's Stands.
-/
set_option linter.unusedVariables false
set_option linter.unusedSimpArgs false
namespace Go.Proofs.YtkaciaiooidohaaDoor
open Go.RowKit Go.Shelf
namespace Sn
open Oc Tg Ac

def noM : List UInt8 := [39, 40, 41, 43, 95, 44, 45, 46, 47, 58, 61, 63]
def markI (c : Int) (h : Bool) : Bool := (decide (48 ≤ c) && decide (c ≤ 57)) || ((decide (65 ≤ c) && decide (c ≤ 90)) || ((decide (97 ≤ c) && decide (c ≤ 122)) || h))
/-- May a byte stand in a boundary? -/
def markB (c : UInt8) : Bool := markI (c.toNat : Int) (noM.contains c)
def bndR (l : List UInt8) : Bool := l.all markB && (decide (l ≠ []) && decide (l.length ≤ 70))

set_option maxRecDepth 100000 in
set_option maxHeartbeats 1000000 in
theorem isMark_any (c : UInt8) (w : World) :
    Calls Tryd.prog 51 #[.int .u8 (c.toNat : Int)] w fun e w' => e = .returned (.bool (markB c)) ∧ w' = w := by
  have HI : Hid (∀ W, Calls Tryd.prog 66 #[.string ⟨#[39, 40, 41, 43, 95, 44, 45, 46, 47, 58, 61, 63]⟩, .int .u8 (c.toNat : Int)] W fun e w' => e = .returned (.int .i64 (Lib.indexByte noM c)) ∧ w' = W) := fun W => by
    have h := Tryd.strings_IndexByte ⟨#[39, 40, 41, 43, 95, 44, 45, 46, 47, 58, 61, 63]⟩ (c.toNat : Int) W
    rw [show ((c.toNat : Int).toNat.toUInt8) = c by simp] at h
    exact h
  have HC : Hid (noM.contains c = decide (0 ≤ Lib.indexByte noM c)) := Lib.contains_iff_indexByte noM c
  have b0 : (0 : Int) ≤ (c.toNat : Int) := by omega
  have b1 : (c.toNat : Int) ≤ 255 := by have := c.toNat_lt; omega
  unfold markB
  rw [HC.out]
  clear HC
  generalize Lib.indexByte noM c = IX at *
  generalize (c.toNat : Int) = C at *
  unfold markI
  by_cases h1 : 48 ≤ C
  · by_cases h2 : C ≤ 57
    · go_enter Tryd.func51, Tryd.ntmps51
      go_wp2_with go_in
      go_ret
      exact ⟨ret_bool (by first | (rw [Bool.eq_iff_iff]; simp only [Bool.or_eq_true, Bool.and_eq_true, decide_eq_true_eq, true_iff]; omega) | (rw [Bool.eq_iff_iff]; simp only [Bool.or_eq_true, Bool.and_eq_true, decide_eq_true_eq, true_iff]; done) | rfl | simp), rfl⟩
    · by_cases h3 : 65 ≤ C
      · by_cases h4 : C ≤ 90
        · go_enter Tryd.func51, Tryd.ntmps51
          go_wp2_with go_in
          go_ret
          exact ⟨ret_bool (by first | (rw [Bool.eq_iff_iff]; simp only [Bool.or_eq_true, Bool.and_eq_true, decide_eq_true_eq, true_iff]; omega) | (rw [Bool.eq_iff_iff]; simp only [Bool.or_eq_true, Bool.and_eq_true, decide_eq_true_eq, true_iff]; done) | rfl | simp), rfl⟩
        · by_cases h5 : 97 ≤ C
          · by_cases h6 : C ≤ 122
            · go_enter Tryd.func51, Tryd.ntmps51
              go_wp2_with go_in
              go_ret
              exact ⟨ret_bool (by first | (rw [Bool.eq_iff_iff]; simp only [Bool.or_eq_true, Bool.and_eq_true, decide_eq_true_eq, true_iff]; omega) | (rw [Bool.eq_iff_iff]; simp only [Bool.or_eq_true, Bool.and_eq_true, decide_eq_true_eq, true_iff]; done) | rfl | simp), rfl⟩
            · go_enter Tryd.func51, Tryd.ntmps51
              go_wp2_with (first | (go_at_call 66; refine (HI.out _).mono ?_; rintro e w2 ⟨rfl, rfl⟩) | go_in)
              go_ret
              exact ⟨ret_bool (by first | (rw [Bool.eq_iff_iff]; simp only [Bool.or_eq_true, Bool.and_eq_true, decide_eq_true_eq, true_iff]; omega) | (rw [Bool.eq_iff_iff]; simp only [Bool.or_eq_true, Bool.and_eq_true, decide_eq_true_eq, true_iff]; done) | rfl | simp), rfl⟩
          · go_enter Tryd.func51, Tryd.ntmps51
            go_wp2_with (first | (go_at_call 66; refine (HI.out _).mono ?_; rintro e w2 ⟨rfl, rfl⟩) | go_in)
            go_ret
            exact ⟨ret_bool (by first | (rw [Bool.eq_iff_iff]; simp only [Bool.or_eq_true, Bool.and_eq_true, decide_eq_true_eq, true_iff]; omega) | (rw [Bool.eq_iff_iff]; simp only [Bool.or_eq_true, Bool.and_eq_true, decide_eq_true_eq, true_iff]; done) | rfl | simp), rfl⟩
      · have h5 : ¬ 97 ≤ C := by omega
        go_enter Tryd.func51, Tryd.ntmps51
        go_wp2_with (first | (go_at_call 66; refine (HI.out _).mono ?_; rintro e w2 ⟨rfl, rfl⟩) | go_in)
        go_ret
        exact ⟨ret_bool (by first | (rw [Bool.eq_iff_iff]; simp only [Bool.or_eq_true, Bool.and_eq_true, decide_eq_true_eq, true_iff]; omega) | (rw [Bool.eq_iff_iff]; simp only [Bool.or_eq_true, Bool.and_eq_true, decide_eq_true_eq, true_iff]; done) | rfl | simp), rfl⟩
  · have h3 : ¬ 65 ≤ C := by omega
    have h5 : ¬ 97 ≤ C := by omega
    go_enter Tryd.func51, Tryd.ntmps51
    go_wp2_with (first | (go_at_call 66; refine (HI.out _).mono ?_; rintro e w2 ⟨rfl, rfl⟩) | go_in)
    go_ret
    exact ⟨ret_bool (by first | (rw [Bool.eq_iff_iff]; simp only [Bool.or_eq_true, Bool.and_eq_true, decide_eq_true_eq, true_iff]; omega) | (rw [Bool.eq_iff_iff]; simp only [Bool.or_eq_true, Bool.and_eq_true, decide_eq_true_eq, true_iff]; done) | rfl | simp), rfl⟩

theorem bnd_bad {l : List UInt8} {k : Nat} (hk : k < l.length) (h : markB (l.getD k 0) = false) : bndR l = false := by
  unfold bndR
  rw [show l.all markB = false from by
    rw [List.all_eq_false]
    refine ⟨l[k], List.getElem_mem _, ?_⟩
    rw [List.getD_eq_getElem?_getD, List.getElem?_eq_getElem hk] at h
    simp at h
    simp [h]]
  rfl
theorem bnd_ok {l : List UInt8} (h : ∀ j, j < l.length → markB (l.getD j 0) = true) : bndR l = (decide (l ≠ []) && decide (l.length ≤ 70)) := by
  unfold bndR
  rw [show l.all markB = true from by
    rw [List.all_eq_true]
    intro x hx
    obtain ⟨k, hk, rfl⟩ := List.mem_iff_getElem.1 hx
    have := h k hk
    rw [List.getD_eq_getElem?_getD, List.getElem?_eq_getElem hk] at this
    simpa using this]
  rfl

set_option maxRecDepth 100000 in
set_option maxHeartbeats 1000000 in
theorem isBoundary_any (s : ByteArray) (hs : s.size ≤ 16777216) (w : World) :
    Calls Tryd.prog 30 #[.string s] w fun e w' => e = .returned (.bool (bndR s.data.toList)) ∧ Below w.heap.size w w' := by
  have hcv := fun w => Lib.run_convert_string_bytes (P := Tryd.prog) w 9 48 5 s Tryd.underlying9 Tryd.underlying48 Tryd.underlying5
  obtain ⟨w1, hw1⟩ : ∃ w1, w1 = Lib.bytesWorld w 5 s := ⟨_, rfl⟩
  have HB1 : Hid (Below w.heap.size w w1) := by rw [hw1]; exact below_bytes w 5 s
  have HC : Hid (∀ j, j < s.size → w1.cell? ⟨w.heap.size, j, none⟩ = some (.int .u8 (byt s j))) := fun j hj => by rw [hw1]; exact bytes_cell w 5 s j hj
  have HM : Hid (∀ k W, Calls Tryd.prog 51 #[.int .u8 (byt s k)] W fun e w' => e = .returned (.bool (markB (s.data.toList.getD k 0))) ∧ w' = W) := fun k W => isMark_any (s.data.toList.getD k 0) W
  have HY : Hid (∀ k, k < s.size → markB (s.data.toList.getD k 0) = false → bndR s.data.toList = false) := fun k hk h => bnd_bad (by rw [size_list]; exact hk) h
  have HN : Hid ((∀ j, j < s.size → markB (s.data.toList.getD j 0) = true) → bndR s.data.toList = (decide (s.data.toList ≠ []) && decide (s.size ≤ 70))) := fun h => by
    have := bnd_ok (l := s.data.toList) (fun j hj => h j (by rw [size_list] at hj; exact hj))
    rw [size_list] at this
    exact this
  have he : (s.toList != []) = decide (s.data.toList ≠ []) := by
    rw [ByteArray.toList_eq]
    cases s.data.toList <;> simp
  have HE : Hid ((s.toList != []) = decide (s.data.toList ≠ [])) := he
  clear he
  generalize bndR s.data.toList = M at *
  generalize decide (s.data.toList ≠ []) = D at *
  go_enter Tryd.func30, Tryd.ntmps30
  go_wp2
  rw [← hw1]
  clear hw1 hcv
  go_loopw [8] (fun i wr => ∃ k : Nat, k ≤ s.size ∧ i = .int .i64 k ∧ Hid (∀ j, j < k → markB (s.data.toList.getD j 0) = true) ∧ w1 = wr) (fun i _ => s.size - (intOf i).toNat)
  case atStart => exact ⟨0, Nat.zero_le _, rfl, (fun j hj => absurd hj (Nat.not_lt_zero _) : ∀ j, j < 0 → _), rfl⟩
  case round =>
    obtain ⟨k, hk, rfl, hA, rfl⟩ := hrel
    by_cases hlt : k < s.size
    · have c0 := HC.out k hlt
      have HMk : Hid (∀ W, _) := fun W => HM.out k W
      have HYk : Hid (markB (s.data.toList.getD k 0) = false → M = false) := HY.out k hlt
      have HAn : Hid (markB (s.data.toList.getD k 0) = true → ∀ j, j < k + 1 → markB (s.data.toList.getD j 0) = true) := fun h j hj => by
        by_cases e : j = k
        · rw [e]; exact h
        · exact hA.out j (by omega)
      generalize markB (s.data.toList.getD k 0) = b at HMk HYk HAn
      generalize byt s k = C at *
      cases b with
      | false =>
        have hM : Hid (M = false) := HYk.out rfl
        clear HYk HAn
        go_wp2_with fail
        refine (HMk.out _).mono ?_
        rintro e w2 ⟨rfl, rfl⟩
        go_wp2
        go_ret
        rw [hM.out]
        exact ⟨rfl, HB1.out⟩
      | true =>
        have HAk : Hid (∀ j, j < k + 1 → markB (s.data.toList.getD j 0) = true) := HAn.out rfl
        clear HYk HAn
        go_wp2_with fail
        refine (HMk.out _).mono ?_
        rintro e w2 ⟨rfl, hw2⟩
        rw [hw2]
        clear hw2
        go_wp2
        go_roundw
        case rel => exact ⟨k + 1, by omega, by go_num, HAk, by first | rfl | trivial⟩
        case measure => simp [intOf]; omega
    · obtain rfl : k = s.size := by omega
      have hM : Hid (M = (D && decide (s.size ≤ 70))) := HN.out hA.out
      go_wp2
      all_goals
        go_ret
        rw [hM.out]
        refine ⟨ret_bool ?_, HB1.out⟩
        rw [← HE.out]
        have e : decide ((s.size : Int) ≤ 70) = decide (s.size ≤ 70) := decide_eq_decide.2 (by omega)
        first
        | (rw [e]; cases s.toList <;> simp; done)
        | (cases h : s.toList <;> simp_all)

end Sn
end Go.Proofs.YtkaciaiooidohaaDoor

/-
  The document's Stands, IsMark.
-/
set_option linter.unusedVariables false
set_option linter.unusedSimpArgs false
namespace Go.Proofs.YtkaciaiooidohaaDoor
open Go.RowKit Go.Shelf
namespace Sn
open Oc Tg Ac

theorem ext_list2 (s : ByteArray) (a b : Nat) : (s.extract a b).data.toList = (s.data.toList.drop a).take (b - a) := by
  rw [ByteArray.data_extract, Array.toList_extract, List.extract_eq_take_drop]
theorem occ_ext (b s : ByteArray) (k : Nat) : ((b.extract k (k + s.size)).toList == s.toList) = Lib.occAt b.data.toList s.data.toList k := by
  rw [eq_toList]
  unfold Lib.occAt
  rw [Bool.eq_iff_iff, decide_eq_true_iff, List.isPrefixOf_iff_prefix, List.prefix_iff_eq_take, size_list]
  constructor
  · intro h
    have := congrArg (fun x : ByteArray => x.data.toList) h
    rw [ext_list2, Nat.add_sub_cancel_left] at this
    exact this.symm
  · intro h
    apply eq_list
    rw [ext_list2, Nat.add_sub_cancel_left]
    exact h.symm

set_option maxRecDepth 100000 in
set_option maxHeartbeats 1000000 in
theorem Stands_any (b s : ByteArray) (hb : b.size ≤ 16777216) (h0 : 0 < s.size) (hs : s.size ≤ 16777216) (w : World) :
    Calls Tryd.prog 28 #[.string b, .string s] w fun e w' => e = .returned (.bool (Lib.contains b.data.toList s.data.toList)) ∧ w' = w := by
  have HH : Hid (∀ k, k ≤ b.size → Lib.NoOcc b.data.toList s.data.toList k → Lib.occAt b.data.toList s.data.toList k = true → Lib.contains b.data.toList s.data.toList = true) := fun k hk hn ho => by
    unfold Lib.contains
    rw [Lib.index_hit hn (by rw [size_list]; exact hk) ho]
    simp
  have HP : Hid (∀ k, Lib.NoOcc b.data.toList s.data.toList k → b.size < k + s.size → Lib.contains b.data.toList s.data.toList = false) := fun k hn hk => by
    unfold Lib.contains
    rw [Lib.index_past (by intro e; rw [← size_list, e] at h0; simp at h0) hn (by rw [size_list, size_list]; exact hk)]
    rfl
  have HO : Hid (∀ k, ((b.extract k (k + s.size)).toList == s.toList) = Lib.occAt b.data.toList s.data.toList k) := fun k => occ_ext b s k
  have HSu : Hid (∀ k, Lib.NoOcc b.data.toList s.data.toList k → Lib.occAt b.data.toList s.data.toList k = false → Lib.NoOcc b.data.toList s.data.toList (k + 1)) := fun k hn ho j hj => by
    by_cases e : j = k
    · rw [e]; exact ho
    · exact hn j (by omega)
  generalize Lib.contains b.data.toList s.data.toList = M at *
  go_enter Tryd.func28, Tryd.ntmps28
  go_wp2
  go_loop [5] (fun i => ∃ k : Nat, k ≤ b.size + 1 ∧ i = .int .i64 k ∧ Hid (Lib.NoOcc b.data.toList s.data.toList k)) (fun i => b.size + 1 - (intOf i).toNat)
  case atStart => exact ⟨0, Nat.zero_le _, rfl, Lib.NoOcc.zero _ _⟩
  case round =>
    obtain ⟨k, hk, rfl, hn⟩ := hrel
    by_cases hle : k + s.size ≤ b.size
    · have hle' : (k : Int) + (s.size : Int) ≤ (b.size : Int) := by omega
      have hok := HO.out k
      have HT : Hid (Lib.occAt b.data.toList s.data.toList k = true → M = true) := HH.out k (by omega) hn.out
      have HF : Hid (Lib.occAt b.data.toList s.data.toList k = false → Lib.NoOcc b.data.toList s.data.toList (k + 1)) := HSu.out k hn.out
      generalize Lib.occAt b.data.toList s.data.toList k = o at *
      cases o with
      | true =>
        have hM : Hid (M = true) := HT.out rfl
        clear HT HF
        go_wp2
        go_ret
        rw [hM.out]
        exact ⟨rfl, rfl⟩
      | false =>
        have HN : Hid (Lib.NoOcc b.data.toList s.data.toList (k + 1)) := HF.out rfl
        clear HT HF
        go_wp2
        go_round
        case rel => exact ⟨k + 1, by omega, by go_num, HN⟩
        case measure => simp [intOf]; omega
    · have hM : Hid (M = false) := HP.out k hn.out (by omega)
      have hle' : ¬ (k : Int) + (s.size : Int) ≤ (b.size : Int) := by omega
      go_wp2
      go_ret
      rw [hM.out]
      exact ⟨rfl, rfl⟩

end Sn
end Go.Proofs.YtkaciaiooidohaaDoor

/-
  The document's IsMark.
-/
set_option linter.unusedVariables false
set_option linter.unusedSimpArgs false
namespace Go.Proofs.YtkaciaiooidohaaDoor
open Go.RowKit Go.Shelf
namespace Sn
open Oc Tg Ac

def okK (c : UInt8) (j : Nat) : Bool := (lettI (c.toNat : Int) || digI (c.toNat : Int)) || (noM.take j).contains c
theorem okK_all (c : UInt8) : okK c 12 = markB c := by
  have h : ∀ n : Nat, n < 256 → okK (UInt8.ofNat n) 12 = markB (UInt8.ofNat n) := by decide +kernel
  have := h c.toNat c.toNat_lt
  rwa [UInt8.ofNat_toNat] at this
theorem okK_next (c : UInt8) (j : Nat) (h : j < 12) : okK c (j + 1) = (okK c j || decide ((c.toNat : Int) = ((noM.getD j 0).toNat : Int))) := by
  have k : ∀ j : Nat, j < 12 → ∀ n : Nat, n < 256 → okK (UInt8.ofNat n) (j + 1) = (okK (UInt8.ofNat n) j || decide (((UInt8.ofNat n).toNat : Int) = ((noM.getD j 0).toNat : Int))) := by decide +kernel
  have := k j h c.toNat c.toNat_lt
  rwa [UInt8.ofNat_toNat] at this
theorem noM_at (j : Nat) (h : j < (⟨#[39, 40, 41, 43, 95, 44, 45, 46, 47, 58, 61, 63]⟩ : ByteArray).size) : (((⟨#[39, 40, 41, 43, 95, 44, 45, 46, 47, 58, 61, 63]⟩ : ByteArray)[j].toNat : Nat) : Int) = ((noM.getD j 0).toNat : Int) := byt_at _ j h

set_option maxRecDepth 100000 in
set_option maxHeartbeats 1000000 in
theorem rIsMark_any (s : ByteArray) (hs : s.size ≤ 16777216) (w : World) :
    Calls Tryd.prog 38 #[.string s] w fun e w' => e = .returned (.bool (bndR s.data.toList)) ∧ Below w.heap.size w w' := by
  have HY : Hid (∀ k, k < s.size → markB (s.data.toList.getD k 0) = false → bndR s.data.toList = false) := fun k hk h => bnd_bad (by rw [size_list]; exact hk) h
  have HN : Hid ((∀ j, j < s.size → markB (s.data.toList.getD j 0) = true) → bndR s.data.toList = (decide (1 ≤ s.size) && decide (s.size ≤ 70))) := fun h => by
    have := bnd_ok (l := s.data.toList) (fun j hj => h j (by rw [size_list] at hj; exact hj))
    rw [size_list] at this
    rw [this]
    congr 1
    rw [decide_eq_decide, ← size_list]
    cases s.data.toList <;> simp
  generalize bndR s.data.toList = M at *
  go_enter Tryd.func38, Tryd.ntmps38
  go_wp2
  go_loopw [3] (fun i wr => ∃ k : Nat, k ≤ s.size ∧ i = .int .i64 k ∧ Hid (∀ j, j < k → markB (s.data.toList.getD j 0) = true) ∧ Hid (Below w.heap.size w wr)) (fun i _ => s.size - (intOf i).toNat)
  case atStart => exact ⟨0, Nat.zero_le _, rfl, (fun j hj => absurd hj (Nat.not_lt_zero _) : ∀ j, j < 0 → _), Below.refl _ _⟩
  case round =>
    obtain ⟨wo, rfl⟩ : ∃ wo, wo = wr := ⟨_, rfl⟩
    obtain ⟨k, hk, rfl, hA, hbl⟩ := hrel
    by_cases hlt : k < s.size
    · have hby : ((s[k].toNat : Nat) : Int) = ((s.data.toList.getD k 0).toNat : Int) := byt_at s k hlt
      have HYk : Hid (markB (s.data.toList.getD k 0) = false → M = false) := HY.out k hlt
      have HAn : Hid (markB (s.data.toList.getD k 0) = true → ∀ j, j < k + 1 → markB (s.data.toList.getD j 0) = true) := fun h j hj => by
        by_cases e : j = k
        · rw [e]; exact h
        · exact hA.out j (by omega)
      generalize s.data.toList.getD k 0 = u at HYk HAn hby
      have b0 : (0 : Int) ≤ (u.toNat : Int) := by omega
      have b1 : (u.toNat : Int) ≤ 255 := by have := u.toNat_lt; omega
      have HLe : Hid (∀ W, Calls Tryd.prog 55 #[.int .u8 ((s[k].toNat : Nat) : Int)] W fun e w' => e = .returned (.bool (lettI (u.toNat : Int))) ∧ w' = W) := fun W => by rw [hby]; exact IsLetter_any _ b0 b1 W
      have HDi : Hid (∀ W, Calls Tryd.prog 56 #[.int .u8 ((s[k].toNat : Nat) : Int)] W fun e w' => e = .returned (.bool (digI (u.toNat : Int))) ∧ w' = W) := fun W => by rw [hby]; exact IsDigit_any _ b0 b1 W
      have HK0 : Hid (okK u 0 = (lettI (u.toNat : Int) || digI (u.toNat : Int))) := (by simp [okK] : _ = _)
      have HKn : Hid (∀ j, j < 12 → okK u (j + 1) = (okK u j || (((s[k].toNat : Nat) : Int) == ((noM.getD j 0).toNat : Int)))) := fun j hj => by
        rw [okK_next u j hj, hby]
        first | rfl | (congr 1; rw [Bool.eq_iff_iff, decide_eq_true_iff, beq_iff_eq])
      have HKa : Hid (okK u 12 = markB u) := okK_all u
      clear hby b0 b1
      generalize markB u = mb at HYk HAn HKa
      cases hl : lettI (u.toNat : Int) with
      | true =>
        rw [hl] at HLe HK0
        have HK0' : Hid (okK u 0 = true) := HK0.out
        clear HK0 hl HDi
        have HK0 := HK0'
        clear HK0'
        go_wp2_with fail
        refine (HLe.out _).mono ?_
        rintro e w2 ⟨rfl, hw2⟩
        rw [hw2]
        clear hw2
        have HB2 : Hid (Below w.heap.size w wo) := hbl
        go_wp2
        go_loopw [4, 5] (fun ov jv wr => ∃ j : Nat, j ≤ 12 ∧ jv = .int .i64 j ∧ ov = .bool (okK u j) ∧ Hid (Below w.heap.size w wr)) (fun _ jv _ => 12 - (intOf jv).toNat)
        case atStart => exact ⟨0, by omega, rfl, by rw [HK0.out], HB2⟩
        case round =>
          obtain ⟨j, hj, rfl, rfl, hbj⟩ := hrel
          by_cases hjt : j < 12
          · have HKj : Hid (okK u (j + 1) = (okK u j || (((s[k].toNat : Nat) : Int) == ((noM.getD j 0).toNat : Int)))) := HKn.out j hjt
            have hj12 : j < (⟨#[39, 40, 41, 43, 95, 44, 45, 46, 47, 58, 61, 63]⟩ : ByteArray).size := hjt
            have hnm := noM_at j hj12
            have HBd : Hid (Below w.heap.size w wr.drew) := below_drewN hbj.out 1
            cases hB : okK u j with
            | true =>
              have HO : Hid (okK u (j + 1) = true) := (by rw [HKj.out, hB]; rfl : _ = _)
              clear HKj hB
              go_wp2_with fail
              go_quiet (fail)
              all_goals
                go_wp2
                go_roundw
                case rel => exact ⟨j + 1, by omega, by go_num, by rw [HO.out], below_drewN hbj.out _⟩
                case measure => simp [intOf]; omega
            | false =>
              have HO : Hid (okK u (j + 1) = (((s[k].toNat : Nat) : Int) == ((noM.getD j 0).toNat : Int))) := (by rw [HKj.out, hB]; rfl : _ = _)
              clear HKj hB
              go_wp2_with fail
              go_quiet (fail)
              all_goals
                go_wp2
                go_roundw
                case rel => exact ⟨j + 1, by omega, by go_num, by rw [HO.out, List.getD_eq_getElem?_getD], below_drewN hbj.out _⟩
                case measure => simp [intOf]; omega
          · obtain rfl : j = 12 := by omega
            rw [HKa.out]
            cases mb with
            | false =>
              have hM : Hid (M = false) := HYk.out rfl
              go_wp2
              go_ret
              rw [hM.out]
              exact ⟨rfl, hbj.out⟩
            | true =>
              have HAk : Hid (∀ j, j < k + 1 → markB (s.data.toList.getD j 0) = true) := HAn.out rfl
              go_wp2
              go_roundw
              case rel => exact ⟨k + 1, by omega, by go_num, HAk, hbj⟩
              case measure => simp [intOf]; omega
      | false =>
        rw [hl] at HLe HK0
        have HK0' : Hid (okK u 0 = digI (u.toNat : Int)) := HK0.out
        clear HK0 hl
        generalize digI (u.toNat : Int) = dg at *
        have HK0 := HK0'
        clear HK0'
        go_wp2_with fail
        refine (HLe.out _).mono ?_
        rintro e w2 ⟨rfl, hw2⟩
        rw [hw2]
        clear hw2
        go_wp2_with fail
        refine (HDi.out _).mono ?_
        rintro e w3 ⟨rfl, hw3⟩
        rw [hw3]
        clear hw3
        have HB2 : Hid (Below w.heap.size w wo) := hbl
        go_wp2
        go_loopw [4, 5] (fun ov jv wr => ∃ j : Nat, j ≤ 12 ∧ jv = .int .i64 j ∧ ov = .bool (okK u j) ∧ Hid (Below w.heap.size w wr)) (fun _ jv _ => 12 - (intOf jv).toNat)
        case atStart => exact ⟨0, by omega, rfl, by rw [HK0.out], HB2⟩
        case round =>
          obtain ⟨j, hj, rfl, rfl, hbj⟩ := hrel
          by_cases hjt : j < 12
          · have HKj : Hid (okK u (j + 1) = (okK u j || (((s[k].toNat : Nat) : Int) == ((noM.getD j 0).toNat : Int)))) := HKn.out j hjt
            have hj12 : j < (⟨#[39, 40, 41, 43, 95, 44, 45, 46, 47, 58, 61, 63]⟩ : ByteArray).size := hjt
            have hnm := noM_at j hj12
            have HBd : Hid (Below w.heap.size w wr.drew) := below_drewN hbj.out 1
            cases hB : okK u j with
            | true =>
              have HO : Hid (okK u (j + 1) = true) := (by rw [HKj.out, hB]; rfl : _ = _)
              clear HKj hB
              go_wp2_with fail
              go_quiet (fail)
              all_goals
                go_wp2
                go_roundw
                case rel => exact ⟨j + 1, by omega, by go_num, by rw [HO.out], below_drewN hbj.out _⟩
                case measure => simp [intOf]; omega
            | false =>
              have HO : Hid (okK u (j + 1) = (((s[k].toNat : Nat) : Int) == ((noM.getD j 0).toNat : Int))) := (by rw [HKj.out, hB]; rfl : _ = _)
              clear HKj hB
              go_wp2_with fail
              go_quiet (fail)
              all_goals
                go_wp2
                go_roundw
                case rel => exact ⟨j + 1, by omega, by go_num, by rw [HO.out, List.getD_eq_getElem?_getD], below_drewN hbj.out _⟩
                case measure => simp [intOf]; omega
          · obtain rfl : j = 12 := by omega
            rw [HKa.out]
            cases mb with
            | false =>
              have hM : Hid (M = false) := HYk.out rfl
              go_wp2
              go_ret
              rw [hM.out]
              exact ⟨rfl, hbj.out⟩
            | true =>
              have HAk : Hid (∀ j, j < k + 1 → markB (s.data.toList.getD j 0) = true) := HAn.out rfl
              go_wp2
              go_roundw
              case rel => exact ⟨k + 1, by omega, by go_num, HAk, hbj⟩
              case measure => simp [intOf]; omega
    · obtain rfl : k = s.size := by omega
      have hM : Hid (M = (decide (1 ≤ s.size) && decide (s.size ≤ 70))) := HN.out hA.out
      go_wp2
      all_goals
        go_ret
        refine ⟨ret_bool ?_, hbl.out⟩
        rw [hM.out]
        first
        | (simp; done)
        | (simp; omega)
        | (rw [Bool.eq_iff_iff]; simp; omega)

end Sn
end Go.Proofs.YtkaciaiooidohaaDoor
