/-
  A walk of a law.
-/
import Derived.Test.YthdepdgmlngafaaDoorRSay
import Derived.Test.YthdepdgmlngafaaDoorDig
import Derived.OpenShut
set_option linter.unusedVariables false
set_option linter.unusedSimpArgs false
namespace Go.Proofs.YthdepdgmlngafaaDoor.octetBackUpto
open Go.RowKit
open Go.Proofs.YthdepdgmlngafaaDoor.Oc

set_option maxRecDepth 100000 in
set_option maxHeartbeats 1000000 in
theorem walk (a0 : ByteArray) (w0 : a0.size ≤ 1048576) (a1 : ByteArray) (w1 : a1.size ≤ 1048576) (w : World) (t : Tab w) :
    Calls Tryd.prog 8 #[.string a0, .string a1] w fun e w' => e = .returned (.bool true) ∧ Below w.heap.size w w' := by
  have HT : Hid (Tab w) := t
  clear t
  have HS : Hid (a0.size ≤ maxLen) := (by unfold maxLen; omega : a0.size ≤ maxLen)
  cases hf : isFld a0.data.toList with
  | false =>
    have HQ : Hid (quoteR a0.data.toList = ([], 13)) := (by unfold quoteR; rw [hf]; rfl : quoteR a0.data.toList = ([], 13))
    have HF : Hid (isFld a0.data.toList = false) := hf
    clear hf
    go_enter Tryd.func8, Tryd.ntmps8
    go_wp2_with fail
    refine (Quote_any a0 (by omega) _).mono ?_
    rintro e w2 ⟨rfl, hb2⟩
    rw [HQ.out]
    go_wp2_with fail
    refine (rIsField_any a0 HS.out _).mono ?_
    rintro e w3 ⟨rfl, rfl⟩
    rw [HF.out]
    go_wp2_with fail
    refine (awake_any _ (HT.out.below hb2 (Nat.le_refl _))).mono ?_
    rintro e w4 ⟨rfl, hb4⟩
    have hemp : (str []).toList.isEmpty = true := by rw [ByteArray.toList_eq]; rfl
    go_wp2
    go_ret
    exact ⟨rfl, bel_trans hb2 hb4⟩
  | true =>
    have HQ : Hid (quoteR a0.data.toList = (qText a0.data.toList, 0)) := (by unfold quoteR; rw [hf]; rfl : quoteR a0.data.toList = (qText a0.data.toList, 0))
    have HU : Hid (unqR (qText a0.data.toList ++ a1.data.toList) = (a0.data.toList, ((qText a0.data.toList).length : Int), 0)) := unqR_back _ _ hf
    have HF : Hid (isFld a0.data.toList = true) := hf
    clear hf
    have hql : (qText a0.data.toList).length ≤ 2097154 := by
      have := qBody_le a0.data.toList
      have := size_list a0
      unfold qText
      simp at *
      omega
    have HSelf : Hid (str a0.data.toList = a0) := str_self a0
    go_enter Tryd.func8, Tryd.ntmps8
    go_wp2_with fail
    refine (Quote_any a0 (by omega) _).mono ?_
    rintro e w2 ⟨rfl, hb2⟩
    rw [HQ.out]
    have hsz := str_size (qText a0.data.toList)
    have hls := str_list (qText a0.data.toList)
    have HL : Hid ((str (qText a0.data.toList) ++ a1).data.toList = qText a0.data.toList ++ a1.data.toList) := (by rw [cat_str, str_list] : (str (qText a0.data.toList) ++ a1).data.toList = _)
    have HZ : Hid ((str (qText a0.data.toList) ++ a1).size ≤ 134217728) := (by rw [cat_str, str_size, List.length_append, size_list]; omega : (str (qText a0.data.toList) ++ a1).size ≤ 134217728)
    rw [← hsz] at hql
    have HSZ : Hid ((str (qText a0.data.toList)).size = (qText a0.data.toList).length) := hsz
    clear hsz hls
    generalize str (qText a0.data.toList) = q at *
    go_wp2_with fail
    refine (rIsField_any a0 HS.out _).mono ?_
    rintro e w3 ⟨rfl, rfl⟩
    rw [HF.out]
    have hcat : q.size + a1.size ≤ 9223372036854775807 := by omega
    go_wp2_with fail
    refine (Unquote_any (q ++ a1) HZ.out _).mono ?_
    rintro e w4 ⟨rfl, hb4⟩
    rw [HL.out, HU.out, ← HSZ.out]
    show _
    rw [HSelf.out]
    go_wp2_with fail
    refine (awake_any _ ((HT.out.below hb2 (Nat.le_refl _)).below hb4 (Nat.le_refl _))).mono ?_
    rintro e w5 ⟨rfl, hb5⟩
    go_wp2
    go_ret
    exact ⟨rfl, bel_trans (bel_trans hb2 hb4) hb5⟩

end Go.Proofs.YthdepdgmlngafaaDoor.octetBackUpto
