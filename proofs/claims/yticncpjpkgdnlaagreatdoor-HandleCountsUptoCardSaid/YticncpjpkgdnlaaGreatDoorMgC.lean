/- Several texts as one. -/
import Derived.Test.YticncpjpkgdnlaaGreatDoorMgB
import Derived.Deep.QuietTactic
import Derived.Maps.AppendAt
/-
  firstNot: the place of the first byte that is not of a kind; where a name or a value goes wrong.
-/
set_option linter.unusedVariables false
set_option linter.unusedSimpArgs false
namespace Go.Proofs.YticncpjpkgdnlaaGreatDoor
open Go.RowKit Go.Shelf
namespace Fd
open Oc Tg

theorem isTok_one (c : UInt8) : isTok [c] = tokB c := by simp [isTok]
theorem isFld_one (c : UInt8) : isFld [c] = fieldB c := by simp [isFld]
theorem one_at (s : ByteArray) (k : Nat) (h : k < s.size) : (s.extract k (k + 1)).data.toList = [s.data.toList.getD k 0] := by
  rw [Lib.extract_data]
  have hk : k < s.data.toList.length := by rw [size_list]; exact h
  rw [List.getD_eq_getElem?_getD, List.getElem?_eq_getElem hk, show k + 1 - k = 1 by omega, List.drop_eq_getElem_cons hk]
  rfl

set_option maxRecDepth 100000 in
set_option maxHeartbeats 1000000 in
theorem firstNot_tok (s : ByteArray) (hs : s.size ≤ maxLen) (w : World) (t : Tab w) :
    Calls Tryz.prog 356 #[.string s, .func (.func 66) #[] #[]] w fun e w' => e = .returned (.int .i64 (fnot tokB s.data.toList : Nat)) ∧ Below w.heap.size w w' := by
  have HT : Hid (Tab w) := t
  have hs' := hs
  unfold maxLen at hs
  have HS : Hid (s.size ≤ maxLen) := hs'
  clear t hs'
  go_enter Tryz.func356, Tryz.ntmps356
  go_wp2
  go_loopw [8] (fun i wr => ∃ k : Nat, k ≤ s.size ∧ i = .int .i64 k ∧ Hid (∀ j, j < k → tokB (s.data.toList.getD j 0) = true) ∧ Hid (Below w.heap.size w wr)) (fun i _ => s.size - (intOf i).toNat)
  case atStart => exact ⟨0, Nat.zero_le _, rfl, (fun j hj => by omega : ∀ j, j < 0 → _), Below.refl _ _⟩
  case round =>
    obtain ⟨k, hk, rfl, hall, hbel⟩ := hrel
    by_cases hlt : k < s.size
    · have HC : Hid (Calls Tryz.prog 66 #[.string (s.extract k (k + 1))] wr fun e w' => e = .returned (.bool (tokB (s.data.toList.getD k 0))) ∧ Below wr.heap.size wr w') := by
        have h := IsToken_any (s.extract k (k + 1)) (by simp; have := HS.out; unfold maxLen at *; omega) wr (HT.out.below hbel.out (Nat.le_refl _))
        rw [one_at s k hlt, isTok_one] at h
        exact h
      have HN : tokB (s.data.toList.getD k 0) = true → Hid (∀ j, j < k + 1 → tokB (s.data.toList.getD j 0) = true) := fun h j hj => by
        by_cases hjk : j = k
        · subst hjk; exact h
        · exact hall.out j (by omega)
      have HF : tokB (s.data.toList.getD k 0) = false → Hid (fnot tokB s.data.toList = k) := fun h => tw_stop tokB 0 _ k (by rw [size_list]; exact hlt) hall.out h
      generalize tokB (s.data.toList.getD k 0) = b at HC HN HF
      cases b with
      | true =>
        have HN2 := HN rfl
        clear HF HN
        go_wp2_with fail
        refine HC.out.mono ?_
        rintro e w2 ⟨rfl, hb2⟩
        have HB2 : Hid (Below w.heap.size w w2) := bel_trans hbel.out hb2
        clear hb2
        go_wp2
        go_roundw
        case rel => exact ⟨k + 1, by omega, by go_num, HN2, HB2⟩
        case measure => simp [intOf]; omega
      | false =>
        have HF2 := HF rfl
        clear HN HF
        go_wp2_with fail
        refine HC.out.mono ?_
        rintro e w2 ⟨rfl, hb2⟩
        have HB2 : Hid (Below w.heap.size w w2) := bel_trans hbel.out hb2
        clear hb2
        go_wp2
        go_ret
        exact ⟨ret_int (by rw [HF2.out]), HB2.out⟩
    · have HE : Hid (fnot tokB s.data.toList = s.size) := (tw_all tokB 0 _ (fun j hj => hall.out j (by rw [size_list] at hj; omega))).trans (size_list s)
      go_wp2
      go_ret
      exact ⟨ret_int (by rw [HE.out]), hbel.out⟩

set_option maxRecDepth 100000 in
set_option maxHeartbeats 1000000 in
theorem firstNot_fld (s : ByteArray) (hs : s.size ≤ maxLen) (w : World) :
    Calls Tryz.prog 356 #[.string s, .func (.func 76) #[] #[]] w fun e w' => e = .returned (.int .i64 (fnot fieldB s.data.toList : Nat)) ∧ Below w.heap.size w w' := by
  have hs' := hs
  unfold maxLen at hs
  have HS : Hid (s.size ≤ maxLen) := hs'
  clear hs'
  go_enter Tryz.func356, Tryz.ntmps356
  go_wp2
  go_loopw [8] (fun i wr => ∃ k : Nat, k ≤ s.size ∧ i = .int .i64 k ∧ Hid (∀ j, j < k → fieldB (s.data.toList.getD j 0) = true) ∧ Hid (Below w.heap.size w wr)) (fun i _ => s.size - (intOf i).toNat)
  case atStart => exact ⟨0, Nat.zero_le _, rfl, (fun j hj => by omega : ∀ j, j < 0 → _), Below.refl _ _⟩
  case round =>
    obtain ⟨k, hk, rfl, hall, hbel⟩ := hrel
    by_cases hlt : k < s.size
    · have HC : Hid (Calls Tryz.prog 76 #[.string (s.extract k (k + 1))] wr fun e w' => e = .returned (.bool (fieldB (s.data.toList.getD k 0))) ∧ Below wr.heap.size wr w') := by
        have h := IsField_any (s.extract k (k + 1)) (by simp; have := HS.out; unfold maxLen at *; omega) wr
        rw [one_at s k hlt, isFld_one] at h
        exact h
      have HN : fieldB (s.data.toList.getD k 0) = true → Hid (∀ j, j < k + 1 → fieldB (s.data.toList.getD j 0) = true) := fun h j hj => by
        by_cases hjk : j = k
        · subst hjk; exact h
        · exact hall.out j (by omega)
      have HF : fieldB (s.data.toList.getD k 0) = false → Hid (fnot fieldB s.data.toList = k) := fun h => tw_stop fieldB 0 _ k (by rw [size_list]; exact hlt) hall.out h
      generalize fieldB (s.data.toList.getD k 0) = b at HC HN HF
      cases b with
      | true =>
        have HN2 := HN rfl
        clear HF HN
        go_wp2_with fail
        refine HC.out.mono ?_
        rintro e w2 ⟨rfl, hb2⟩
        have HB2 : Hid (Below w.heap.size w w2) := bel_trans hbel.out hb2
        clear hb2
        go_wp2
        go_roundw
        case rel => exact ⟨k + 1, by omega, by go_num, HN2, HB2⟩
        case measure => simp [intOf]; omega
      | false =>
        have HF2 := HF rfl
        clear HN HF
        go_wp2_with fail
        refine HC.out.mono ?_
        rintro e w2 ⟨rfl, hb2⟩
        have HB2 : Hid (Below w.heap.size w w2) := bel_trans hbel.out hb2
        clear hb2
        go_wp2
        go_ret
        exact ⟨ret_int (by rw [HF2.out]), HB2.out⟩
    · have HE : Hid (fnot fieldB s.data.toList = s.size) := (tw_all fieldB 0 _ (fun j hj => hall.out j (by rw [size_list] at hj; omega))).trans (size_list s)
      go_wp2
      go_ret
      exact ⟨ret_int (by rw [HE.out]), hbel.out⟩

set_option maxHeartbeats 1000000 in
theorem nameFault_any (s : ByteArray) (hs : s.size ≤ maxLen) (w : World) (t : Tab w) :
    Calls Tryz.prog 351 #[.string s] w fun e w' => e = .returned (.int .i64 (min (fnot tokB s.data.toList) 128 : Nat)) ∧ Below w.heap.size w w' := by
  have HC : Hid (Calls Tryz.prog 356 #[.string s, .func (.func 66) #[] #[]] w fun e w' => e = .returned (.int .i64 (fnot tokB s.data.toList : Nat)) ∧ Below w.heap.size w w') := firstNot_tok s hs w t
  have hle := fnot_le tokB s.data.toList
  rw [size_list] at hle
  generalize fnot tokB s.data.toList = n at *
  unfold maxLen at hs
  clear t
  go_enter Tryz.func351, Tryz.ntmps351
  go_wp2_with fail
  refine HC.out.mono ?_
  rintro e w2 ⟨rfl, hb2⟩
  go_wp2
  go_ret
  exact ⟨ret_int (by omega), hb2⟩

end Fd
end Go.Proofs.YticncpjpkgdnlaaGreatDoor

/-
  field: valueFault, ParseLine.
-/
set_option linter.unusedVariables false
set_option linter.unusedSimpArgs false
namespace Go.Proofs.YticncpjpkgdnlaaGreatDoor
open Go.RowKit Go.Shelf
namespace Fd
open Oc Tg

/-- The library's MaxLen lies. -/
def ML (w : World) : Prop := ∃ m : Int, w.cell? ⟨7, 0, none⟩ = some (.int .i64 m)
theorem ML.below {w w' : World} (h : ML w) (hb : Below w.heap.size w w') : ML w' := by
  obtain ⟨m, hm⟩ := h
  exact ⟨m, (hb.cell (p := ⟨7, 0, none⟩) (World.block_lt_of_cell? w _ hm)).trans hm⟩
/-- What the walks lean on: the table of signs, and MaxLen. -/
def Env (w : World) : Prop := Tab w ∧ ML w
theorem Env.below {w w' : World} (h : Env w) (hb : Below w.heap.size w w') : Env w' := ⟨h.1.below hb (Nat.le_refl _), h.2.below hb⟩

theorem Cut_any (s p : ByteArray) (hs : s.size ≤ 4000000000) (w : World) (h : ML w) :
    Calls Tryz.prog 131 #[.string s, .string p] w fun e w' => e = .returned (.tuple #[.string (str (Lib.cut s.data.toList p.data.toList).1), .string (str (Lib.cut s.data.toList p.data.toList).2.1), .bool (Lib.cut s.data.toList p.data.toList).2.2]) ∧ Below w.heap.size w w' := by
  obtain ⟨m, hm⟩ := h
  refine (Tryz.strings_Cut s p m w (by omega) hm).mono ?_
  rintro e w' ⟨rfl, n, rfl⟩
  exact ⟨rfl, ⟨rfl, rfl, rfl, Nat.le_refl _, fun _ _ => rfl⟩⟩
theorem Cut_one (s : ByteArray) (b : UInt8) (hs : s.size ≤ 4000000000) (w : World) (h : ML w) :
    Calls Tryz.prog 131 #[.string s, .string ⟨#[b]⟩] w fun e w' => e = .returned (.tuple #[.string (str (cutA b s.data.toList)), .string (str (cutB b s.data.toList)), .bool (has b s.data.toList)]) ∧ Below w.heap.size w w' := by
  have h := Cut_any s ⟨#[b]⟩ hs w h
  rw [show (⟨#[b]⟩ : ByteArray).data.toList = [b] from rfl, cut_one] at h
  exact h
theorem Index_any (s p : ByteArray) (hs : s.size ≤ 4000000000) (w : World) (h : ML w) :
    Calls Tryz.prog 286 #[.string s, .string p] w fun e w' => e = .returned (.int .i64 (Lib.index s.data.toList p.data.toList)) ∧ Below w.heap.size w w' := by
  obtain ⟨m, hm⟩ := h
  refine (Tryz.strings_Index s p m w (by omega) hm).mono ?_
  rintro e w' ⟨rfl, rfl⟩
  exact ⟨rfl, Below.refl _ _⟩

/-- Where a value, with blanks around, goes wrong. -/
def vfault (l : List UInt8) : Nat := if isFld l then lead l + 8192 else fnot fieldB l

set_option maxHeartbeats 1000000 in
theorem valueFault_any (s : ByteArray) (hs : s.size ≤ 4000000000) (hv : isFld s.data.toList = true → trim s.data.toList ≠ []) (w : World) (hw : ML w) :
    Calls Tryz.prog 352 #[.string s] w fun e w' => e = .returned (.int .i64 (vfault s.data.toList : Nat)) ∧ Below w.heap.size w w' := by
  have HC : Hid (Calls Tryz.prog 356 #[.string s, .func (.func 76) #[] #[]] w fun e w' => e = .returned (.int .i64 (fnot fieldB s.data.toList : Nat)) ∧ Below w.heap.size w w') := firstNot_fld s (by unfold maxLen; omega) w
  have HW : Hid (ML w) := hw
  clear hw
  unfold vfault
  by_cases hf : isFld s.data.toList = true
  · rw [if_pos hf]
    have hfn := fnot_all fieldB s.data.toList hf
    rw [size_list] at hfn
    rw [hfn] at HC
    have HT : Hid (∀ w, Calls Tryz.prog 77 #[.string s] w fun e w' => e = .returned (.string (str (trim s.data.toList))) ∧ Below w.heap.size w w') := fun w => Trim_any s (by unfold maxLen; omega) w
    have HI : Hid (∀ w, ML w → Calls Tryz.prog 286 #[.string s, .string (str (trim s.data.toList))] w fun e w' => e = .returned (.int .i64 (lead s.data.toList : Nat)) ∧ Below w.heap.size w w') := fun w h => by
      have h := Index_any s (str (trim s.data.toList)) hs w h
      rw [str_list, index_trim _ (hv hf)] at h
      exact h
    have hle := lead_le s.data.toList
    rw [size_list] at hle
    clear hv hf hfn
    generalize str (trim s.data.toList) = u at *
    have hle2 : lead s.data.toList ≤ s.size := by omega
    clear hle
    generalize lead s.data.toList = n at *
    go_enter Tryz.func352, Tryz.ntmps352
    go_wp2_with fail
    refine HC.out.mono ?_
    rintro e w2 ⟨rfl, hb2⟩
    have HB2 : Hid (Below w.heap.size w w2) := hb2
    clear hb2
    go_wp2_with fail
    refine (HT.out _).mono ?_
    rintro e w3 ⟨rfl, hb3⟩
    have HB3 : Hid (Below w.heap.size w w3) := bel_trans HB2.out hb3
    clear hb3
    go_wp2_with fail
    refine (HI.out _ (HW.out.below HB3.out)).mono ?_
    rintro e w4 ⟨rfl, hb4⟩
    have HB4 : Hid (Below w.heap.size w w4) := bel_trans HB3.out hb4
    clear hb4
    go_wp2
    go_ret
    exact ⟨ret_int (by omega), HB4.out⟩
  · rw [if_neg hf]
    have hlt := fnot_lt fieldB s.data.toList (Bool.eq_false_iff.2 hf)
    rw [size_list] at hlt
    clear hf hv
    generalize fnot fieldB s.data.toList = n at *
    go_enter Tryz.func352, Tryz.ntmps352
    go_wp2_with fail
    refine HC.out.mono ?_
    rintro e w2 ⟨rfl, hb2⟩
    go_wp2
    go_ret
    exact ⟨rfl, hb2⟩

/-- A field as a value. -/
def fld (n v : ByteArray) : Value := .agg #[.string n, .string v]

set_option maxRecDepth 100000 in
set_option maxHeartbeats 1000000 in
theorem line_A (s : ByteArray) (u : ByteArray) (hs : s.size ≤ 4000000000) (he : s.toList.isEmpty = false) (hz : 1 ≤ s.size) (HT1 : Hid (∀ w, Calls Tryz.prog 77 #[.string (s.extract 0 1)] w fun e w' => e = .returned (.string u) ∧ Below w.heap.size w w')) (hu : u.toList.isEmpty = true) (w : World) (hw : Env w) :
    Calls Tryz.prog 344 #[.string s] w fun e w' => e = .returned (.tuple #[.agg #[.string ⟨#[]⟩, .string ⟨#[]⟩], .int .i64 0, .int .i64 63]) ∧ Below w.heap.size w w' := by
  obtain ⟨w2, hw2⟩ : ∃ w2, w2 = w.alloc (.cells #[.string ⟨#[]⟩, .string ⟨#[]⟩] 26) := ⟨_, rfl⟩
  have R1 : w2.heap[w.heap.size]? = some (.cells #[.string ⟨#[]⟩, .string ⟨#[]⟩] 26 (0, 0)) := by
    rw [hw2]; exact heap_alloc_new w _
  have hb2 : Below w.heap.size w w2 := by rw [hw2]; exact (Below.refl _ w).alloc (Nat.le_refl _) _
  have hz2 : w2.heap.size = w.heap.size + 1 := by rw [hw2]; simp
  have HR1 : Hid (_) := R1
  have HB2 : Hid (Below w.heap.size w w2) := hb2
  have HBw2 : Hid (Below w2.heap.size w2 w2) := Below.refl _ _
  have HE : Hid (Env w2) := hw.below hb2
  clear R1 hb2 hw
  go_enter Tryz.func344, Tryz.ntmps344
  go_wp2_with fail
  rw [← hw2]
  refine (HT1.out _).mono ?_
  rintro e w3 ⟨rfl, hb⟩
  have HBw3 : Hid (Below w2.heap.size w2 w3) := bel_trans HBw2.out hb
  clear hb
  have R1 := (HBw3.out.block _ (show w.heap.size < _ by omega)).trans HR1.out
  have c0 := Lib.cell_of_heap R1 0
  have c1 := Lib.cell_of_heap R1 1
  have fc0 := Lib.frozen_of_heap R1 0
  have fc1 := Lib.frozen_of_heap R1 1
  simp at c0 c1
  clear R1
  go_wp2
  refine bodyPost_ret (v := .tuple #[.agg #[.string ⟨#[]⟩, .string ⟨#[]⟩], .int .i64 0, .int .i64 63]) (by simp [results, Tryz.results344, go_sem, c0, c1]) rfl ?_
  exact ⟨rfl, (Below.setCell (p := ⟨w.heap.size, 1, none⟩) (Below.setCell (p := ⟨w.heap.size, 0, none⟩) (HB2.out.trans (HBw3.out.mono (by omega))) (by simp) _) (by simp) _)⟩


set_option maxRecDepth 100000 in
set_option maxHeartbeats 1000000 in
theorem line_B (s : ByteArray) (hs : s.size = 0) (he : s.toList.isEmpty = true) (n r : ByteArray) (HCut : Hid (∀ w, ML w → Calls Tryz.prog 131 #[.string s, .string ⟨#[58]⟩] w fun e w' => e = .returned (.tuple #[.string n, .string r, .bool false]) ∧ Below w.heap.size w w')) (w : World) (hw : Env w) :
    Calls Tryz.prog 344 #[.string s] w fun e w' => e = .returned (.tuple #[.agg #[.string ⟨#[]⟩, .string ⟨#[]⟩], .int .i64 0, .int .i64 62]) ∧ Below w.heap.size w w' := by
  obtain ⟨w2, hw2⟩ : ∃ w2, w2 = w.alloc (.cells #[.string ⟨#[]⟩, .string ⟨#[]⟩] 26) := ⟨_, rfl⟩
  have R1 : w2.heap[w.heap.size]? = some (.cells #[.string ⟨#[]⟩, .string ⟨#[]⟩] 26 (0, 0)) := by
    rw [hw2]; exact heap_alloc_new w _
  have hb2 : Below w.heap.size w w2 := by rw [hw2]; exact (Below.refl _ w).alloc (Nat.le_refl _) _
  have hz2 : w2.heap.size = w.heap.size + 1 := by rw [hw2]; simp
  have HR1 : Hid (_) := R1
  have HB2 : Hid (Below w.heap.size w w2) := hb2
  have HBw2 : Hid (Below w2.heap.size w2 w2) := Below.refl _ _
  have HE : Hid (Env w2) := hw.below hb2
  clear R1 hb2 hw
  go_enter Tryz.func344, Tryz.ntmps344
  go_wp2_with fail
  rw [← hw2]
  refine (HCut.out _ HE.out.2).mono ?_
  rintro e w4 ⟨rfl, hb⟩
  have HBw4 : Hid (Below w2.heap.size w2 w4) := bel_trans HBw2.out hb
  clear hb
  have R1 := (HBw4.out.block _ (show w.heap.size < _ by omega)).trans HR1.out
  have c0 := Lib.cell_of_heap R1 0
  have c1 := Lib.cell_of_heap R1 1
  have fc0 := Lib.frozen_of_heap R1 0
  have fc1 := Lib.frozen_of_heap R1 1
  simp at c0 c1
  clear R1
  go_wp2
  refine bodyPost_ret (v := .tuple #[.agg #[.string ⟨#[]⟩, .string ⟨#[]⟩], .int .i64 0, .int .i64 62]) (by simp [results, Tryz.results344, go_sem, c0, c1]) rfl ?_
  exact ⟨rfl, (Below.setCell (p := ⟨w.heap.size, 1, none⟩) (Below.setCell (p := ⟨w.heap.size, 0, none⟩) (HB2.out.trans (HBw4.out.mono (by omega))) (by simp) _) (by simp) _)⟩


set_option maxRecDepth 100000 in
set_option maxHeartbeats 1000000 in
theorem line_C (s : ByteArray) (u : ByteArray) (hs : s.size ≤ 4000000000) (he : s.toList.isEmpty = false) (hz : 1 ≤ s.size) (HT1 : Hid (∀ w, Calls Tryz.prog 77 #[.string (s.extract 0 1)] w fun e w' => e = .returned (.string u) ∧ Below w.heap.size w w')) (hu : u.toList.isEmpty = false) (n r : ByteArray) (HCut : Hid (∀ w, ML w → Calls Tryz.prog 131 #[.string s, .string ⟨#[58]⟩] w fun e w' => e = .returned (.tuple #[.string n, .string r, .bool false]) ∧ Below w.heap.size w w')) (w : World) (hw : Env w) :
    Calls Tryz.prog 344 #[.string s] w fun e w' => e = .returned (.tuple #[.agg #[.string ⟨#[]⟩, .string ⟨#[]⟩], .int .i64 (s.size : Int), .int .i64 62]) ∧ Below w.heap.size w w' := by
  obtain ⟨w2, hw2⟩ : ∃ w2, w2 = w.alloc (.cells #[.string ⟨#[]⟩, .string ⟨#[]⟩] 26) := ⟨_, rfl⟩
  have R1 : w2.heap[w.heap.size]? = some (.cells #[.string ⟨#[]⟩, .string ⟨#[]⟩] 26 (0, 0)) := by
    rw [hw2]; exact heap_alloc_new w _
  have hb2 : Below w.heap.size w w2 := by rw [hw2]; exact (Below.refl _ w).alloc (Nat.le_refl _) _
  have hz2 : w2.heap.size = w.heap.size + 1 := by rw [hw2]; simp
  have HR1 : Hid (_) := R1
  have HB2 : Hid (Below w.heap.size w w2) := hb2
  have HBw2 : Hid (Below w2.heap.size w2 w2) := Below.refl _ _
  have HE : Hid (Env w2) := hw.below hb2
  clear R1 hb2 hw
  go_enter Tryz.func344, Tryz.ntmps344
  go_wp2_with fail
  rw [← hw2]
  refine (HT1.out _).mono ?_
  rintro e w3 ⟨rfl, hb⟩
  have HBw3 : Hid (Below w2.heap.size w2 w3) := bel_trans HBw2.out hb
  clear hb
  go_wp2_with fail
  refine (HCut.out _ (HE.out.below HBw3.out).2).mono ?_
  rintro e w4 ⟨rfl, hb⟩
  have HBw4 : Hid (Below w2.heap.size w2 w4) := bel_trans HBw3.out hb
  clear hb
  have R1 := (HBw4.out.block _ (show w.heap.size < _ by omega)).trans HR1.out
  have c0 := Lib.cell_of_heap R1 0
  have c1 := Lib.cell_of_heap R1 1
  have fc0 := Lib.frozen_of_heap R1 0
  have fc1 := Lib.frozen_of_heap R1 1
  simp at c0 c1
  clear R1
  go_wp2
  refine bodyPost_ret (v := .tuple #[.agg #[.string ⟨#[]⟩, .string ⟨#[]⟩], .int .i64 (s.size : Int), .int .i64 62]) (by simp [results, Tryz.results344, go_sem, c0, c1]) rfl ?_
  exact ⟨rfl, (Below.setCell (p := ⟨w.heap.size, 1, none⟩) (Below.setCell (p := ⟨w.heap.size, 0, none⟩) (HB2.out.trans (HBw4.out.mono (by omega))) (by simp) _) (by simp) _)⟩


set_option maxRecDepth 100000 in
set_option maxHeartbeats 1000000 in
theorem line_D (s : ByteArray) (u : ByteArray) (hs : s.size ≤ 4000000000) (he : s.toList.isEmpty = false) (hz : 1 ≤ s.size) (HT1 : Hid (∀ w, Calls Tryz.prog 77 #[.string (s.extract 0 1)] w fun e w' => e = .returned (.string u) ∧ Below w.heap.size w w')) (hu : u.toList.isEmpty = false) (n r : ByteArray) (HCut : Hid (∀ w, ML w → Calls Tryz.prog 131 #[.string s, .string ⟨#[58]⟩] w fun e w' => e = .returned (.tuple #[.string n, .string r, .bool true]) ∧ Below w.heap.size w w')) (HN : Hid (∀ w, Tab w → Calls Tryz.prog 350 #[.string n] w fun e w' => e = .returned (.bool false) ∧ Below w.heap.size w w')) (k : Nat) (HF : Hid (∀ w, Tab w → Calls Tryz.prog 351 #[.string n] w fun e w' => e = .returned (.int .i64 (k : Int)) ∧ Below w.heap.size w w')) (w : World) (hw : Env w) :
    Calls Tryz.prog 344 #[.string s] w fun e w' => e = .returned (.tuple #[.agg #[.string ⟨#[]⟩, .string ⟨#[]⟩], .int .i64 (k : Int), .int .i64 60]) ∧ Below w.heap.size w w' := by
  obtain ⟨w2, hw2⟩ : ∃ w2, w2 = w.alloc (.cells #[.string ⟨#[]⟩, .string ⟨#[]⟩] 26) := ⟨_, rfl⟩
  have R1 : w2.heap[w.heap.size]? = some (.cells #[.string ⟨#[]⟩, .string ⟨#[]⟩] 26 (0, 0)) := by
    rw [hw2]; exact heap_alloc_new w _
  have hb2 : Below w.heap.size w w2 := by rw [hw2]; exact (Below.refl _ w).alloc (Nat.le_refl _) _
  have hz2 : w2.heap.size = w.heap.size + 1 := by rw [hw2]; simp
  have HR1 : Hid (_) := R1
  have HB2 : Hid (Below w.heap.size w w2) := hb2
  have HBw2 : Hid (Below w2.heap.size w2 w2) := Below.refl _ _
  have HE : Hid (Env w2) := hw.below hb2
  clear R1 hb2 hw
  go_enter Tryz.func344, Tryz.ntmps344
  go_wp2_with fail
  rw [← hw2]
  refine (HT1.out _).mono ?_
  rintro e w3 ⟨rfl, hb⟩
  have HBw3 : Hid (Below w2.heap.size w2 w3) := bel_trans HBw2.out hb
  clear hb
  go_wp2_with fail
  refine (HCut.out _ (HE.out.below HBw3.out).2).mono ?_
  rintro e w4 ⟨rfl, hb⟩
  have HBw4 : Hid (Below w2.heap.size w2 w4) := bel_trans HBw3.out hb
  clear hb
  go_wp2_with fail
  refine (HN.out _ (HE.out.below HBw4.out).1).mono ?_
  rintro e w5 ⟨rfl, hb⟩
  have HBw5 : Hid (Below w2.heap.size w2 w5) := bel_trans HBw4.out hb
  clear hb
  go_wp2_with fail
  refine (HF.out _ (HE.out.below HBw5.out).1).mono ?_
  rintro e w6 ⟨rfl, hb⟩
  have HBw6 : Hid (Below w2.heap.size w2 w6) := bel_trans HBw5.out hb
  clear hb
  have R1 := (HBw6.out.block _ (show w.heap.size < _ by omega)).trans HR1.out
  have c0 := Lib.cell_of_heap R1 0
  have c1 := Lib.cell_of_heap R1 1
  have fc0 := Lib.frozen_of_heap R1 0
  have fc1 := Lib.frozen_of_heap R1 1
  simp at c0 c1
  clear R1
  go_wp2
  refine bodyPost_ret (v := .tuple #[.agg #[.string ⟨#[]⟩, .string ⟨#[]⟩], .int .i64 (k : Int), .int .i64 60]) (by simp [results, Tryz.results344, go_sem, c0, c1]) rfl ?_
  exact ⟨rfl, (Below.setCell (p := ⟨w.heap.size, 1, none⟩) (Below.setCell (p := ⟨w.heap.size, 0, none⟩) (HB2.out.trans (HBw6.out.mono (by omega))) (by simp) _) (by simp) _)⟩


set_option maxRecDepth 100000 in
set_option maxHeartbeats 1000000 in
theorem line_E (s : ByteArray) (u : ByteArray) (hs : s.size ≤ 4000000000) (he : s.toList.isEmpty = false) (hz : 1 ≤ s.size) (HT1 : Hid (∀ w, Calls Tryz.prog 77 #[.string (s.extract 0 1)] w fun e w' => e = .returned (.string u) ∧ Below w.heap.size w w')) (hu : u.toList.isEmpty = false) (n r : ByteArray) (HCut : Hid (∀ w, ML w → Calls Tryz.prog 131 #[.string s, .string ⟨#[58]⟩] w fun e w' => e = .returned (.tuple #[.string n, .string r, .bool true]) ∧ Below w.heap.size w w')) (HN : Hid (∀ w, Tab w → Calls Tryz.prog 350 #[.string n] w fun e w' => e = .returned (.bool true) ∧ Below w.heap.size w w')) (v : ByteArray) (HV : Hid (∀ w, Calls Tryz.prog 77 #[.string r] w fun e w' => e = .returned (.string v) ∧ Below w.heap.size w w')) (HI : Hid (∀ w, Calls Tryz.prog 75 #[.string v] w fun e w' => e = .returned (.bool false) ∧ Below w.heap.size w w')) (k : Nat) (hk : k ≤ 4000010000) (hn : n.size ≤ 4000000000) (HG : Hid (∀ w, ML w → Calls Tryz.prog 352 #[.string r] w fun e w' => e = .returned (.int .i64 (k : Int)) ∧ Below w.heap.size w w')) (w : World) (hw : Env w) :
    Calls Tryz.prog 344 #[.string s] w fun e w' => e = .returned (.tuple #[.agg #[.string ⟨#[]⟩, .string ⟨#[]⟩], .int .i64 ((n.size : Int) + 1 + (k : Int)), .int .i64 61]) ∧ Below w.heap.size w w' := by
  obtain ⟨w2, hw2⟩ : ∃ w2, w2 = w.alloc (.cells #[.string ⟨#[]⟩, .string ⟨#[]⟩] 26) := ⟨_, rfl⟩
  have R1 : w2.heap[w.heap.size]? = some (.cells #[.string ⟨#[]⟩, .string ⟨#[]⟩] 26 (0, 0)) := by
    rw [hw2]; exact heap_alloc_new w _
  have hb2 : Below w.heap.size w w2 := by rw [hw2]; exact (Below.refl _ w).alloc (Nat.le_refl _) _
  have hz2 : w2.heap.size = w.heap.size + 1 := by rw [hw2]; simp
  have HR1 : Hid (_) := R1
  have HB2 : Hid (Below w.heap.size w w2) := hb2
  have HBw2 : Hid (Below w2.heap.size w2 w2) := Below.refl _ _
  have HE : Hid (Env w2) := hw.below hb2
  clear R1 hb2 hw
  go_enter Tryz.func344, Tryz.ntmps344
  go_wp2_with fail
  rw [← hw2]
  refine (HT1.out _).mono ?_
  rintro e w3 ⟨rfl, hb⟩
  have HBw3 : Hid (Below w2.heap.size w2 w3) := bel_trans HBw2.out hb
  clear hb
  go_wp2_with fail
  refine (HCut.out _ (HE.out.below HBw3.out).2).mono ?_
  rintro e w4 ⟨rfl, hb⟩
  have HBw4 : Hid (Below w2.heap.size w2 w4) := bel_trans HBw3.out hb
  clear hb
  go_wp2_with fail
  refine (HN.out _ (HE.out.below HBw4.out).1).mono ?_
  rintro e w5 ⟨rfl, hb⟩
  have HBw5 : Hid (Below w2.heap.size w2 w5) := bel_trans HBw4.out hb
  clear hb
  go_wp2_with fail
  refine (HV.out _).mono ?_
  rintro e w6 ⟨rfl, hb⟩
  have HBw6 : Hid (Below w2.heap.size w2 w6) := bel_trans HBw5.out hb
  clear hb
  go_wp2_with fail
  refine (HI.out _).mono ?_
  rintro e w7 ⟨rfl, hb⟩
  have HBw7 : Hid (Below w2.heap.size w2 w7) := bel_trans HBw6.out hb
  clear hb
  go_wp2_with fail
  refine (HG.out _ (HE.out.below HBw7.out).2).mono ?_
  rintro e w8 ⟨rfl, hb⟩
  have HBw8 : Hid (Below w2.heap.size w2 w8) := bel_trans HBw7.out hb
  clear hb
  have R1 := (HBw8.out.block _ (show w.heap.size < _ by omega)).trans HR1.out
  have c0 := Lib.cell_of_heap R1 0
  have c1 := Lib.cell_of_heap R1 1
  have fc0 := Lib.frozen_of_heap R1 0
  have fc1 := Lib.frozen_of_heap R1 1
  simp at c0 c1
  clear R1
  go_wp2
  refine bodyPost_ret (v := .tuple #[.agg #[.string ⟨#[]⟩, .string ⟨#[]⟩], .int .i64 ((n.size : Int) + 1 + (k : Int)), .int .i64 61]) (by simp [results, Tryz.results344, go_sem, c0, c1]) rfl ?_
  exact ⟨rfl, (Below.setCell (p := ⟨w.heap.size, 1, none⟩) (Below.setCell (p := ⟨w.heap.size, 0, none⟩) (HB2.out.trans (HBw8.out.mono (by omega))) (by simp) _) (by simp) _)⟩


set_option maxRecDepth 100000 in
set_option maxHeartbeats 1000000 in
theorem line_F (s : ByteArray) (u : ByteArray) (hs : s.size ≤ 4000000000) (he : s.toList.isEmpty = false) (hz : 1 ≤ s.size) (HT1 : Hid (∀ w, Calls Tryz.prog 77 #[.string (s.extract 0 1)] w fun e w' => e = .returned (.string u) ∧ Below w.heap.size w w')) (hu : u.toList.isEmpty = false) (n r : ByteArray) (HCut : Hid (∀ w, ML w → Calls Tryz.prog 131 #[.string s, .string ⟨#[58]⟩] w fun e w' => e = .returned (.tuple #[.string n, .string r, .bool true]) ∧ Below w.heap.size w w')) (HN : Hid (∀ w, Tab w → Calls Tryz.prog 350 #[.string n] w fun e w' => e = .returned (.bool true) ∧ Below w.heap.size w w')) (v : ByteArray) (HV : Hid (∀ w, Calls Tryz.prog 77 #[.string r] w fun e w' => e = .returned (.string v) ∧ Below w.heap.size w w')) (HI : Hid (∀ w, Calls Tryz.prog 75 #[.string v] w fun e w' => e = .returned (.bool true) ∧ Below w.heap.size w w')) (w : World) (hw : Env w) :
    Calls Tryz.prog 344 #[.string s] w fun e w' => e = .returned (.tuple #[.agg #[.string n, .string v], .int .i64 0, .int .i64 0]) ∧ Below w.heap.size w w' := by
  obtain ⟨w2, hw2⟩ : ∃ w2, w2 = w.alloc (.cells #[.string ⟨#[]⟩, .string ⟨#[]⟩] 26) := ⟨_, rfl⟩
  have R1 : w2.heap[w.heap.size]? = some (.cells #[.string ⟨#[]⟩, .string ⟨#[]⟩] 26 (0, 0)) := by
    rw [hw2]; exact heap_alloc_new w _
  have hb2 : Below w.heap.size w w2 := by rw [hw2]; exact (Below.refl _ w).alloc (Nat.le_refl _) _
  have hz2 : w2.heap.size = w.heap.size + 1 := by rw [hw2]; simp
  have HR1 : Hid (_) := R1
  have HB2 : Hid (Below w.heap.size w w2) := hb2
  have HBw2 : Hid (Below w2.heap.size w2 w2) := Below.refl _ _
  have HE : Hid (Env w2) := hw.below hb2
  clear R1 hb2 hw
  go_enter Tryz.func344, Tryz.ntmps344
  go_wp2_with fail
  rw [← hw2]
  refine (HT1.out _).mono ?_
  rintro e w3 ⟨rfl, hb⟩
  have HBw3 : Hid (Below w2.heap.size w2 w3) := bel_trans HBw2.out hb
  clear hb
  go_wp2_with fail
  refine (HCut.out _ (HE.out.below HBw3.out).2).mono ?_
  rintro e w4 ⟨rfl, hb⟩
  have HBw4 : Hid (Below w2.heap.size w2 w4) := bel_trans HBw3.out hb
  clear hb
  go_wp2_with fail
  refine (HN.out _ (HE.out.below HBw4.out).1).mono ?_
  rintro e w5 ⟨rfl, hb⟩
  have HBw5 : Hid (Below w2.heap.size w2 w5) := bel_trans HBw4.out hb
  clear hb
  go_wp2_with fail
  refine (HV.out _).mono ?_
  rintro e w6 ⟨rfl, hb⟩
  have HBw6 : Hid (Below w2.heap.size w2 w6) := bel_trans HBw5.out hb
  clear hb
  go_wp2_with fail
  refine (HI.out _).mono ?_
  rintro e w7 ⟨rfl, hb⟩
  have HBw7 : Hid (Below w2.heap.size w2 w7) := bel_trans HBw6.out hb
  clear hb
  have R1 := (HBw7.out.block _ (show w.heap.size < _ by omega)).trans HR1.out
  have c0 := Lib.cell_of_heap R1 0
  have c1 := Lib.cell_of_heap R1 1
  have fc0 := Lib.frozen_of_heap R1 0
  have fc1 := Lib.frozen_of_heap R1 1
  simp at c0 c1
  clear R1
  go_wp2
  refine bodyPost_ret (v := .tuple #[.agg #[.string n, .string v], .int .i64 0, .int .i64 0]) (by simp [results, Tryz.results344, go_sem, c0, c1]) rfl ?_
  exact ⟨rfl, (Below.setCell (p := ⟨w.heap.size, 1, none⟩) (Below.setCell (p := ⟨w.heap.size, 0, none⟩) (HB2.out.trans (HBw7.out.mono (by omega))) (by simp) _) (by simp) _)⟩


theorem empty_str {l : List UInt8} (h : l = []) : (str l).toList.isEmpty = true := empty_of (by rw [str_size, h]; rfl)
theorem nonempty_str {l : List UInt8} (h : l ≠ []) : (str l).toList.isEmpty = false := by
  rw [ByteArray.toList_eq, str_list]
  cases l with
  | nil => exact absurd rfl h
  | cons _ _ => rfl

/-- What ParseLine answers, as a value. -/
def lineV (x : (List UInt8 × List UInt8) × Nat × Int) : Value := .tuple #[.agg #[.string (str x.1.1), .string (str x.1.2)], .int .i64 (x.2.1 : Nat), .int .i64 x.2.2]

theorem ParseLine_any (s : ByteArray) (hs : s.size ≤ 4000000000) (w : World) (hw : Env w) :
    Calls Tryz.prog 344 #[.string s] w fun e w' => e = .returned (lineV (parseL s.data.toList)) ∧ Below w.heap.size w w' := by
  have hml : s.size ≤ maxLen := by unfold maxLen; omega
  have HCut : Hid (∀ w, ML w → Calls Tryz.prog 131 #[.string s, .string ⟨#[58]⟩] w fun e w' => e = .returned (.tuple #[.string (str (cutA 58 s.data.toList)), .string (str (cutB 58 s.data.toList)), .bool (has 58 s.data.toList)]) ∧ Below w.heap.size w w') := fun w h => Cut_one s 58 hs w h
  have lA := cutA_len 58 s.data.toList
  have lB := cutB_len 58 s.data.toList
  rw [size_list] at lA lB
  by_cases hz : s.size = 0
  · have hl : s.data.toList = [] := List.length_eq_zero_iff.1 ((size_list s).trans hz)
    rw [show has 58 s.data.toList = false from by rw [hl]; rfl] at HCut
    have h := line_B s hz (empty_of hz) _ _ HCut w hw
    rw [hl]
    exact h
  · have he := nonempty_of hz
    obtain ⟨c, t, hl⟩ : ∃ c t, s.data.toList = c :: t := by
      cases e : s.data.toList with
      | nil => exact absurd e (list_ne hz)
      | cons c t => exact ⟨c, t, rfl⟩
    have h1 : (s.extract 0 1).data.toList = [c] := by rw [one_at s 0 (by omega), hl]; rfl
    have HT1 : Hid (∀ w, Calls Tryz.prog 77 #[.string (s.extract 0 1)] w fun e w' => e = .returned (.string (str (if blankB c then [] else [c]))) ∧ Below w.heap.size w w') := fun w => by
      have h := Trim_any (s.extract 0 1) (by simp; unfold maxLen; omega) w
      rw [h1, trim_one] at h
      exact h
    unfold parseL
    have hb0 : blank0 s.data.toList = blankB c := by rw [hl]; rfl
    rw [hb0]
    by_cases hb : blankB c = true
    · rw [if_pos hb] at HT1 ⊢
      exact line_A s _ hs he (by omega) HT1 (empty_str rfl) w hw
    · rw [if_neg hb] at HT1 ⊢
      have hu := nonempty_str (l := [c]) (by simp)
      by_cases hh : has 58 s.data.toList = true
      · rw [hh] at HCut
        rw [if_pos hh]
        have HN : Hid (∀ w, Tab w → Calls Tryz.prog 350 #[.string (str (cutA 58 s.data.toList))] w fun e w' => e = .returned (.bool (isName (cutA 58 s.data.toList))) ∧ Below w.heap.size w w') := fun w t => by
          have h := IsName_any (str (cutA 58 s.data.toList)) (by rw [str_size]; unfold maxLen; omega) w t
          rw [str_list] at h
          exact h
        by_cases hn : isName (cutA 58 s.data.toList) = true
        · rw [hn] at HN
          rw [if_pos hn]
          have HV : Hid (∀ w, Calls Tryz.prog 77 #[.string (str (cutB 58 s.data.toList))] w fun e w' => e = .returned (.string (str (trim (cutB 58 s.data.toList)))) ∧ Below w.heap.size w w') := fun w => by
            have h := Trim_any (str (cutB 58 s.data.toList)) (by rw [str_size]; unfold maxLen; omega) w
            rw [str_list] at h
            exact h
          have lT := trim_le (cutB 58 s.data.toList)
          have HI : Hid (∀ w, Calls Tryz.prog 75 #[.string (str (trim (cutB 58 s.data.toList)))] w fun e w' => e = .returned (.bool (isFld (cutB 58 s.data.toList) && decide ((trim (cutB 58 s.data.toList)).length ≤ 8192))) ∧ Below w.heap.size w w') := fun w => by
            have h := IsValue_any (str (trim (cutB 58 s.data.toList))) (by rw [str_size]; unfold maxLen; omega) w
            rw [str_list, isValue_trim] at h
            exact h
          have HG : (isFld (cutB 58 s.data.toList) = true → trim (cutB 58 s.data.toList) ≠ []) → Hid (∀ w, ML w → Calls Tryz.prog 352 #[.string (str (cutB 58 s.data.toList))] w fun e w' => e = .returned (.int .i64 (vfault (cutB 58 s.data.toList) : Nat)) ∧ Below w.heap.size w w') := fun h0 w hw => by
            have h := valueFault_any (str (cutB 58 s.data.toList)) (by rw [str_size]; omega) (by rw [str_list]; exact h0) w hw
            rw [str_list] at h
            exact h
          have lead0 := lead_le (cutB 58 s.data.toList)
          have fn0 := fnot_le fieldB (cutB 58 s.data.toList)
          by_cases hf : isFld (cutB 58 s.data.toList) = true
          · rw [if_pos hf]
            by_cases h8 : (trim (cutB 58 s.data.toList)).length ≤ 8192
            · rw [if_pos h8]
              rw [hf, decide_eq_true h8] at HI
              exact line_F s _ hs he (by omega) HT1 hu _ _ HCut HN _ HV HI w hw
            · rw [if_neg h8]
              rw [hf, decide_eq_false h8] at HI
              have HG := HG (fun _ e => h8 (by rw [e]; simp))
              rw [show vfault (cutB 58 s.data.toList) = lead (cutB 58 s.data.toList) + 8192 from by unfold vfault; rw [if_pos hf]] at HG
              have h := line_E s _ hs he (by omega) HT1 hu _ _ HCut HN _ HV HI _ (by omega) (by rw [str_size]; omega) HG w hw
              rw [str_size] at h
              refine h.mono ?_
              rintro e w' ⟨rfl, hb⟩
              refine ⟨?_, hb⟩
              unfold lineV
              rw [show (((cutA 58 s.data.toList).length : Int) + 1 + ((lead (cutB 58 s.data.toList) + 8192 : Nat) : Int)) = (((cutA 58 s.data.toList).length + 1 + (lead (cutB 58 s.data.toList) + 8192) : Nat) : Int) by omega]
              rfl
          · rw [if_neg hf]
            rw [show isFld (cutB 58 s.data.toList) = false by simpa using hf] at HI
            have HG := HG (fun e => absurd e hf)
            rw [show vfault (cutB 58 s.data.toList) = fnot fieldB (cutB 58 s.data.toList) from by unfold vfault; rw [if_neg hf]] at HG
            have h := line_E s _ hs he (by omega) HT1 hu _ _ HCut HN _ HV HI _ (by omega) (by rw [str_size]; omega) HG w hw
            rw [str_size] at h
            refine h.mono ?_
            rintro e w' ⟨rfl, hb⟩
            refine ⟨?_, hb⟩
            unfold lineV
            rw [show (((cutA 58 s.data.toList).length : Int) + 1 + ((fnot fieldB (cutB 58 s.data.toList) : Nat) : Int)) = (((cutA 58 s.data.toList).length + 1 + fnot fieldB (cutB 58 s.data.toList) : Nat) : Int) by omega]
            rfl
        · rw [if_neg hn]
          rw [show isName (cutA 58 s.data.toList) = false by simpa using hn] at HN
          have HF : Hid (∀ w, Tab w → Calls Tryz.prog 351 #[.string (str (cutA 58 s.data.toList))] w fun e w' => e = .returned (.int .i64 (min (fnot tokB (cutA 58 s.data.toList)) 128 : Nat)) ∧ Below w.heap.size w w') := fun w t => by
            have h := nameFault_any (str (cutA 58 s.data.toList)) (by rw [str_size]; unfold maxLen; omega) w t
            rw [str_list] at h
            exact h
          exact line_D s _ hs he (by omega) HT1 hu _ _ HCut HN _ HF w hw
      · rw [show has 58 s.data.toList = false by simpa using hh] at HCut
        rw [if_neg hh]
        have h := line_C s _ hs he (by omega) HT1 hu _ _ HCut w hw
        rw [← size_list] at h
        exact h

end Fd
end Go.Proofs.YticncpjpkgdnlaaGreatDoor

/-
  Slices of fields: of the call's own, read.
-/
set_option linter.unusedVariables false
set_option linter.unusedSimpArgs false
namespace Go.Proofs.YticncpjpkgdnlaaGreatDoor
open Go.RowKit Go.Shelf
namespace Fd
open Oc Tg

abbrev Fl := List UInt8 × List UInt8
def encF1 (p : Fl) : List Value := [.string (str p.1), .string (str p.2)]
def encF (ps : List Fl) : List Value := ps.flatMap encF1
theorem encF_snoc (ps : List Fl) (p : Fl) : encF (ps ++ [p]) = encF ps ++ encF1 p := by unfold encF; rw [List.flatMap_append]; simp
theorem encF_len : ∀ ps : List Fl, (encF ps).length = ps.length * 2
  | [] => rfl
  | p :: ps => by
    have := encF_len ps
    unfold encF at *
    rw [List.flatMap_cons, List.length_append, this, List.length_cons]
    show 2 + _ = _
    omega
/-- A slice of parameters (of the type T) of the call's own. -/
def OwnF (T B : Nat) (v : Value) (ps : List Fl) (w : World) : Prop := w.ownsRow B T 2 v ps.length (encF ps)
theorem ownF_nil (T B : Nat) (w : World) : OwnF T B (.slice none 0 0) [] w := World.ownsRow_nil w B T 2
theorem ownF_empty {B : Nat} (T : Nat) (w : World) (hB : B ≤ w.heap.size) : OwnF T B (.slice (some ⟨w.heap.size, 0, none⟩) 0 0) [] (w.alloc (.cells #[] T)) :=
  ⟨by simp [encF], .inr ⟨w.heap.size, 0, #[], rfl, hB, heap_alloc_new w _, by simp, by decide, by simp, by simp [encF]⟩⟩
theorem OwnF.below {T B : Nat} {v : Value} {t : List Fl} {w w' : World} (h : OwnF T B v t w) (b : Below w.heap.size w w') : OwnF T B v t w' := by
  refine ⟨h.1, ?_⟩
  rcases h.2 with hn | ⟨g, cap, cur, rfl, hb, hg, rest⟩
  · exact .inl hn
  · refine .inr ⟨g, cap, cur, rfl, hb, ?_, rest⟩
    have hlt : g < w.heap.size := by
      rcases Nat.lt_or_ge g w.heap.size with h | h
      · exact h
      · simp [Array.getElem?_eq_none h] at hg
    rw [b.block g hlt]
    exact hg

/-- A parameter appended to a slice of the call's own. -/
theorem wp_appF {ops : Array Oper} {rest : List Oper} {o : Oper} {a : Act} {Q : Exit → Act → World → Prop} (T S : Nat) (hinfo : (Tryz.prog.info? T).map (fun i => (i.zero, i.size, i.bytes)) = some (some (.agg #[.string ⟨#[]⟩, .string ⟨#[]⟩]), 2, 32))
    (hund : Tryz.prog.underlying S = some (.slice T)) (hgd : o.guard = none) (s x : Operand)
    (ho : o.op = .call { callee := .builtin .append, args := #[s, x], argTypes := #[S, S] }) (B : Nat) (v : Value) (t : List Fl) (W : World) (p : Fl) (n1 n2 : ByteArray) (h1 : n1 = str p.1) (h2 : n2 = str p.2)
    (hs : a.eval s = v) (hown : OwnF T B v t W) (g : Nat) (hx : a.eval x = .slice (some ⟨g, 0, none⟩) 1 1) (hg : g = W.heap.size) (hlen : t.length + 1 ≤ 2147483648) (hB : B ≤ W.heap.size)
    (h : ∀ v' w', OwnF T B v' (t ++ [p]) w' → Below B W w' → wpList Tryz.prog ops Q rest (a.put o.dst v') w') : wpList Tryz.prog ops Q (o :: rest) a (W.alloc (.cells #[.string n1, .string n2] T)) := by
  subst h1 h2 hg
  obtain ⟨i0, hi, hz0, hz1, hz2⟩ := info_parts hinfo
  refine wpList_append_own _ hgd s x S ho B T i0 (.agg #[.string ⟨#[]⟩, .string ⟨#[]⟩]) 2 32 hund hi hz0 hz1 hz2 rfl (by decide) v t.length _ hs (World.ownsRow.alloc hown _) ⟨W.heap.size, 0, none⟩ 1 1 (encF1 p) hx rfl ?_ ?_ ?_ ?_ ?_ ?_
  · intro j u hj
    unfold encF1 at hj
    match j, hj with
    | 0, hj => simp at hj; subst hj; simp [Addr.add]
    | 1, hj => simp at hj; subst hj; simp [Addr.add]
  · intro u hu
    unfold encF1 at hu
    simp at hu
    rcases hu with rfl | rfl <;> rfl
  · unfold maxLen; omega
  · omega
  · simp; omega
  · intro v' w' h1 h2 _
    refine h v' w' ?_ (((Below.refl B W).alloc hB _).grown h2 (by simp; omega) (fun k hk => (World.ownsRow.lt hown k hk).1))
    unfold OwnF
    rw [encF_snoc, List.length_append]
    exact h1

theorem infoF : (Tryz.prog.info? 26).map (fun i => (i.zero, i.size, i.bytes)) = some (some (.agg #[.string ⟨#[]⟩, .string ⟨#[]⟩]), 2, 32) := by kernel_rfl

def nth (t : List Fl) (j : Nat) : Fl := t.getD j ([], [])
/-- A slice that reads as these parameters. -/
def RdF (v : Value) (t : List Fl) (w : World) : Prop :=
  ∃ a c, v = .slice a t.length c ∧ (t = [] ∨ ∃ g o, a = some ⟨g, o, none⟩ ∧ t.length ≤ c ∧ ∀ j, j < t.length → w.cell? ⟨g, o + j * 2, none⟩ = some (.string (str (nth t j).1)) ∧ w.cell? ⟨g, o + j * 2 + 1, none⟩ = some (.string (str (nth t j).2)))
theorem encF_at : ∀ (t : List Fl) (j : Nat), j < t.length → (encF t)[j * 2]? = some (.string (str (nth t j).1)) ∧ (encF t)[j * 2 + 1]? = some (.string (str (nth t j).2))
  | [], j, h => by simp at h
  | p :: t, 0, _ => ⟨rfl, rfl⟩
  | p :: t, j + 1, h => by
    have ih := encF_at t j (by simpa using h)
    have e : encF (p :: t) = [.string (str p.1), .string (str p.2)] ++ encF t := rfl
    rw [e]
    have n : nth (p :: t) (j + 1) = nth t j := by unfold nth; simp
    rw [n, show (j + 1) * 2 = j * 2 + 2 by omega, show j * 2 + 2 + 1 = (j * 2 + 1) + 2 by omega]
    exact ih
theorem OwnF.rd {T B : Nat} {v : Value} {t : List Fl} {w : World} (h : OwnF T B v t w) : RdF v t w := by
  have hall := h
  rcases h.2 with ⟨rfl, h0⟩ | ⟨g, cap, cur, rfl, _, hg, hn, _⟩
  · exact ⟨none, 0, by rw [h0], .inl (List.length_eq_zero_iff.1 h0)⟩
  · refine ⟨_, _, rfl, .inr ⟨g, 0, rfl, by omega, fun j hj => ?_⟩⟩
    obtain ⟨e0, e1⟩ := encF_at t j hj
    have ea : ∀ k, Addr.add ⟨g, 0, none⟩ k = ⟨g, 0 + k, none⟩ := fun k => by unfold Addr.add; split <;> simp_all
    have c0 := World.ownsRow.cells hall (g := g) rfl _ _ e0
    have c1 := World.ownsRow.cells hall (g := g) rfl _ _ e1
    rw [ea] at c0 c1
    exact ⟨c0, c1⟩
theorem RdF.below {v : Value} {t : List Fl} {w w' : World} (h : RdF v t w) (b : Below w.heap.size w w') : RdF v t w' := by
  obtain ⟨a, c, rfl, h⟩ := h
  refine ⟨a, c, rfl, ?_⟩
  rcases h with h | ⟨g, o, e, hc, hcell⟩
  · exact .inl h
  · refine .inr ⟨g, o, e, hc, fun j hj => ?_⟩
    obtain ⟨h1, h2⟩ := hcell j hj
    rw [b.cell (p := ⟨g, o + j * 2, none⟩) (World.block_lt_of_cell? w _ h1), b.cell (p := ⟨g, o + j * 2 + 1, none⟩) (World.block_lt_of_cell? w _ h2)]
    exact ⟨h1, h2⟩

theorem drawn_again (w : World) (n m : Nat) : Hid (∃ k, w.drewN (n + m) = w.drewN k) := ⟨_, rfl⟩
theorem below_drew (w : World) (n : Nat) : Below w.heap.size w (w.drewN n) := below_drewN (Below.refl _ w) n
theorem RdF.drew {v : Value} {t : List Fl} {w : World} (h : RdF v t w) (n : Nat) : RdF v t (w.drewN n) := h.below (below_drew w n)
theorem take_nth (t : List Fl) (k : Nat) (h : k < t.length) : t.take (k + 1) = t.take k ++ [nth t k] := by
  unfold nth
  rw [List.take_add_one, List.getElem?_eq_getElem h, List.getD_eq_getElem?_getD, List.getElem?_eq_getElem h]; rfl
theorem rd_oneF (w : World) (T : Nat) (p : Fl) : RdF (.slice (some ⟨w.heap.size, 0, none⟩) 1 1) [p] (w.alloc (.cells #[.string (str p.1), .string (str p.2)] T)) := by
  refine ⟨_, _, rfl, .inr ⟨w.heap.size, 0, rfl, by simp, fun j hj => ?_⟩⟩
  obtain rfl : j = 0 := by simp at hj; omega
  exact ⟨by simp [nth], by simp [nth]⟩

end Fd
end Go.Proofs.YticncpjpkgdnlaaGreatDoor

/-
  message: reasons, statuses.
-/
set_option linter.unusedVariables false
set_option linter.unusedSimpArgs false
namespace Go.Proofs.YticncpjpkgdnlaaGreatDoor
open Go.RowKit Go.Shelf
namespace Ms
open Oc Tg _root_.Go.Proofs.YticncpjpkgdnlaaGreatDoor.Fd

/-- The usual reasons. -/
def rsC (n : Int) : List UInt8 :=
  if n = 400 then [66, 97, 100, 32, 82, 101, 113, 117, 101, 115, 116] else
  if n = 401 then [85, 110, 97, 117, 116, 104, 111, 114, 105, 122, 101, 100] else
  if n = 403 then [70, 111, 114, 98, 105, 100, 100, 101, 110] else
  if n = 404 then [78, 111, 116, 32, 70, 111, 117, 110, 100] else
  if n = 405 then [77, 101, 116, 104, 111, 100, 32, 78, 111, 116, 32, 65, 108, 108, 111, 119, 101, 100] else
  if n = 406 then [78, 111, 116, 32, 65, 99, 99, 101, 112, 116, 97, 98, 108, 101] else
  if n = 408 then [82, 101, 113, 117, 101, 115, 116, 32, 84, 105, 109, 101, 111, 117, 116] else
  if n = 411 then [76, 101, 110, 103, 116, 104, 32, 82, 101, 113, 117, 105, 114, 101, 100] else
  if n = 412 then [80, 114, 101, 99, 111, 110, 100, 105, 116, 105, 111, 110, 32, 70, 97, 105, 108, 101, 100] else
  if n = 413 then [67, 111, 110, 116, 101, 110, 116, 32, 84, 111, 111, 32, 76, 97, 114, 103, 101] else
  if n = 414 then [85, 82, 73, 32, 84, 111, 111, 32, 76, 111, 110, 103] else
  if n = 415 then [85, 110, 115, 117, 112, 112, 111, 114, 116, 101, 100, 32, 77, 101, 100, 105, 97, 32, 84, 121, 112, 101] else
  if n = 416 then [82, 97, 110, 103, 101, 32, 78, 111, 116, 32, 83, 97, 116, 105, 115, 102, 105, 97, 98, 108, 101] else
  if n = 417 then [69, 120, 112, 101, 99, 116, 97, 116, 105, 111, 110, 32, 70, 97, 105, 108, 101, 100] else
  if n = 421 then [77, 105, 115, 100, 105, 114, 101, 99, 116, 101, 100, 32, 82, 101, 113, 117, 101, 115, 116] else
  if n = 422 then [85, 110, 112, 114, 111, 99, 101, 115, 115, 97, 98, 108, 101, 32, 67, 111, 110, 116, 101, 110, 116] else
  if n = 426 then [85, 112, 103, 114, 97, 100, 101, 32, 82, 101, 113, 117, 105, 114, 101, 100] else
  if n = 428 then [80, 114, 101, 99, 111, 110, 100, 105, 116, 105, 111, 110, 32, 82, 101, 113, 117, 105, 114, 101, 100] else
  if n = 429 then [84, 111, 111, 32, 77, 97, 110, 121, 32, 82, 101, 113, 117, 101, 115, 116, 115] else
  if n = 431 then [82, 101, 113, 117, 101, 115, 116, 32, 72, 101, 97, 100, 101, 114, 32, 70, 105, 101, 108, 100, 115, 32, 84, 111, 111, 32, 76, 97, 114, 103, 101] else
  []
def rsL (n : Int) : List UInt8 :=
  if n = 100 then [67, 111, 110, 116, 105, 110, 117, 101] else
  if n = 101 then [83, 119, 105, 116, 99, 104, 105, 110, 103, 32, 80, 114, 111, 116, 111, 99, 111, 108, 115] else
  if n = 200 then [79, 75] else
  if n = 201 then [67, 114, 101, 97, 116, 101, 100] else
  if n = 202 then [65, 99, 99, 101, 112, 116, 101, 100] else
  if n = 204 then [78, 111, 32, 67, 111, 110, 116, 101, 110, 116] else
  if n = 206 then [80, 97, 114, 116, 105, 97, 108, 32, 67, 111, 110, 116, 101, 110, 116] else
  if n = 301 then [77, 111, 118, 101, 100, 32, 80, 101, 114, 109, 97, 110, 101, 110, 116, 108, 121] else
  if n = 302 then [70, 111, 117, 110, 100] else
  if n = 303 then [83, 101, 101, 32, 79, 116, 104, 101, 114] else
  if n = 304 then [78, 111, 116, 32, 77, 111, 100, 105, 102, 105, 101, 100] else
  if n = 307 then [84, 101, 109, 112, 111, 114, 97, 114, 121, 32, 82, 101, 100, 105, 114, 101, 99, 116] else
  if n = 308 then [80, 101, 114, 109, 97, 110, 101, 110, 116, 32, 82, 101, 100, 105, 114, 101, 99, 116] else
  if n = 500 then [73, 110, 116, 101, 114, 110, 97, 108, 32, 83, 101, 114, 118, 101, 114, 32, 69, 114, 114, 111, 114] else
  if n = 501 then [78, 111, 116, 32, 73, 109, 112, 108, 101, 109, 101, 110, 116, 101, 100] else
  if n = 502 then [66, 97, 100, 32, 71, 97, 116, 101, 119, 97, 121] else
  if n = 503 then [83, 101, 114, 118, 105, 99, 101, 32, 85, 110, 97, 118, 97, 105, 108, 97, 98, 108, 101] else
  if n = 504 then [71, 97, 116, 101, 119, 97, 121, 32, 84, 105, 109, 101, 111, 117, 116] else
  if n = 505 then [72, 84, 84, 80, 32, 86, 101, 114, 115, 105, 111, 110, 32, 78, 111, 116, 32, 83, 117, 112, 112, 111, 114, 116, 101, 100] else
  rsC n
def codes : List Int := [100, 101, 200, 201, 202, 204, 206, 301, 302, 303, 304, 307, 308, 400, 401, 403, 404, 405, 406, 408, 411, 412, 413, 414, 415, 416, 417, 421, 422, 426, 428, 429, 431, 500, 501, 502, 503, 504, 505]
theorem rsC_none {n : Int} (h : ∀ k ∈ codes, n ≠ k) : rsC n = [] := by
  unfold rsC
  rw [if_neg (h 400 (by decide))]
  rw [if_neg (h 401 (by decide))]
  rw [if_neg (h 403 (by decide))]
  rw [if_neg (h 404 (by decide))]
  rw [if_neg (h 405 (by decide))]
  rw [if_neg (h 406 (by decide))]
  rw [if_neg (h 408 (by decide))]
  rw [if_neg (h 411 (by decide))]
  rw [if_neg (h 412 (by decide))]
  rw [if_neg (h 413 (by decide))]
  rw [if_neg (h 414 (by decide))]
  rw [if_neg (h 415 (by decide))]
  rw [if_neg (h 416 (by decide))]
  rw [if_neg (h 417 (by decide))]
  rw [if_neg (h 421 (by decide))]
  rw [if_neg (h 422 (by decide))]
  rw [if_neg (h 426 (by decide))]
  rw [if_neg (h 428 (by decide))]
  rw [if_neg (h 429 (by decide))]
  rw [if_neg (h 431 (by decide))]
theorem rsL_none {n : Int} (h : ∀ k ∈ codes, n ≠ k) : rsL n = [] := by
  unfold rsL
  rw [if_neg (h 100 (by decide))]
  rw [if_neg (h 101 (by decide))]
  rw [if_neg (h 200 (by decide))]
  rw [if_neg (h 201 (by decide))]
  rw [if_neg (h 202 (by decide))]
  rw [if_neg (h 204 (by decide))]
  rw [if_neg (h 206 (by decide))]
  rw [if_neg (h 301 (by decide))]
  rw [if_neg (h 302 (by decide))]
  rw [if_neg (h 303 (by decide))]
  rw [if_neg (h 304 (by decide))]
  rw [if_neg (h 307 (by decide))]
  rw [if_neg (h 308 (by decide))]
  rw [if_neg (h 500 (by decide))]
  rw [if_neg (h 501 (by decide))]
  rw [if_neg (h 502 (by decide))]
  rw [if_neg (h 503 (by decide))]
  rw [if_neg (h 504 (by decide))]
  rw [if_neg (h 505 (by decide))]
  exact rsC_none h

/-- Ahead of an answer proper; without a body whatever was asked. -/
def inf (n : Int) : Bool := decide (100 ≤ n ∧ n ≤ 199)
def nvr (n : Int) : Bool := inf n || (n == 204 || n == 304)
def tun (m : List UInt8) (n : Int) : Bool := decide (m = [67, 79, 78, 78, 69, 67, 84]) && decide (200 ≤ n ∧ n ≤ 299)
def bdl (m : List UInt8) (n : Int) : Bool := nvr n || (decide (m = [72, 69, 65, 68]) || tun m n)
def itm (n : Int) : Bool := inf n && n != 101

set_option maxRecDepth 100000 in
set_option maxHeartbeats 4000000 in
theorem clientsReason_any (n : Int) (w : World) :
    Calls Tryz.prog 72 #[.int .i64 n] w fun e w' => e = .returned (.string (str (rsC n))) ∧ w' = w := by
  obtain ⟨R, hR⟩ : ∃ R, R = rsC n := ⟨_, rfl⟩
  have HR : Hid (R = rsC n) := hR
  rw [← hR]
  clear hR
  go_enter Tryz.func72, Tryz.ntmps72
  by_cases h400 : n = 400
  · subst h400
    go_wp2
    go_ret
    exact ⟨by rw [HR.out]; rfl, rfl⟩
  have q400 : (n == 400) = false := by simp [h400]
  have HR : Hid (R = _) := HR.out.trans (show rsC n = _ from if_neg h400)
  by_cases h401 : n = 401
  · subst h401
    go_wp2
    go_ret
    exact ⟨by rw [HR.out]; rfl, rfl⟩
  have q401 : (n == 401) = false := by simp [h401]
  have HR : Hid (R = _) := HR.out.trans (if_neg h401)
  by_cases h403 : n = 403
  · subst h403
    go_wp2
    go_ret
    exact ⟨by rw [HR.out]; rfl, rfl⟩
  have q403 : (n == 403) = false := by simp [h403]
  have HR : Hid (R = _) := HR.out.trans (if_neg h403)
  by_cases h404 : n = 404
  · subst h404
    go_wp2
    go_ret
    exact ⟨by rw [HR.out]; rfl, rfl⟩
  have q404 : (n == 404) = false := by simp [h404]
  have HR : Hid (R = _) := HR.out.trans (if_neg h404)
  by_cases h405 : n = 405
  · subst h405
    go_wp2
    go_ret
    exact ⟨by rw [HR.out]; rfl, rfl⟩
  have q405 : (n == 405) = false := by simp [h405]
  have HR : Hid (R = _) := HR.out.trans (if_neg h405)
  by_cases h406 : n = 406
  · subst h406
    go_wp2
    go_ret
    exact ⟨by rw [HR.out]; rfl, rfl⟩
  have q406 : (n == 406) = false := by simp [h406]
  have HR : Hid (R = _) := HR.out.trans (if_neg h406)
  by_cases h408 : n = 408
  · subst h408
    go_wp2
    go_ret
    exact ⟨by rw [HR.out]; rfl, rfl⟩
  have q408 : (n == 408) = false := by simp [h408]
  have HR : Hid (R = _) := HR.out.trans (if_neg h408)
  by_cases h411 : n = 411
  · subst h411
    go_wp2
    go_ret
    exact ⟨by rw [HR.out]; rfl, rfl⟩
  have q411 : (n == 411) = false := by simp [h411]
  have HR : Hid (R = _) := HR.out.trans (if_neg h411)
  by_cases h412 : n = 412
  · subst h412
    go_wp2
    go_ret
    exact ⟨by rw [HR.out]; rfl, rfl⟩
  have q412 : (n == 412) = false := by simp [h412]
  have HR : Hid (R = _) := HR.out.trans (if_neg h412)
  by_cases h413 : n = 413
  · subst h413
    go_wp2
    go_ret
    exact ⟨by rw [HR.out]; rfl, rfl⟩
  have q413 : (n == 413) = false := by simp [h413]
  have HR : Hid (R = _) := HR.out.trans (if_neg h413)
  by_cases h414 : n = 414
  · subst h414
    go_wp2
    go_ret
    exact ⟨by rw [HR.out]; rfl, rfl⟩
  have q414 : (n == 414) = false := by simp [h414]
  have HR : Hid (R = _) := HR.out.trans (if_neg h414)
  by_cases h415 : n = 415
  · subst h415
    go_wp2
    go_ret
    exact ⟨by rw [HR.out]; rfl, rfl⟩
  have q415 : (n == 415) = false := by simp [h415]
  have HR : Hid (R = _) := HR.out.trans (if_neg h415)
  by_cases h416 : n = 416
  · subst h416
    go_wp2
    go_ret
    exact ⟨by rw [HR.out]; rfl, rfl⟩
  have q416 : (n == 416) = false := by simp [h416]
  have HR : Hid (R = _) := HR.out.trans (if_neg h416)
  by_cases h417 : n = 417
  · subst h417
    go_wp2
    go_ret
    exact ⟨by rw [HR.out]; rfl, rfl⟩
  have q417 : (n == 417) = false := by simp [h417]
  have HR : Hid (R = _) := HR.out.trans (if_neg h417)
  by_cases h421 : n = 421
  · subst h421
    go_wp2
    go_ret
    exact ⟨by rw [HR.out]; rfl, rfl⟩
  have q421 : (n == 421) = false := by simp [h421]
  have HR : Hid (R = _) := HR.out.trans (if_neg h421)
  by_cases h422 : n = 422
  · subst h422
    go_wp2
    go_ret
    exact ⟨by rw [HR.out]; rfl, rfl⟩
  have q422 : (n == 422) = false := by simp [h422]
  have HR : Hid (R = _) := HR.out.trans (if_neg h422)
  by_cases h426 : n = 426
  · subst h426
    go_wp2
    go_ret
    exact ⟨by rw [HR.out]; rfl, rfl⟩
  have q426 : (n == 426) = false := by simp [h426]
  have HR : Hid (R = _) := HR.out.trans (if_neg h426)
  by_cases h428 : n = 428
  · subst h428
    go_wp2
    go_ret
    exact ⟨by rw [HR.out]; rfl, rfl⟩
  have q428 : (n == 428) = false := by simp [h428]
  have HR : Hid (R = _) := HR.out.trans (if_neg h428)
  by_cases h429 : n = 429
  · subst h429
    go_wp2
    go_ret
    exact ⟨by rw [HR.out]; rfl, rfl⟩
  have q429 : (n == 429) = false := by simp [h429]
  have HR : Hid (R = _) := HR.out.trans (if_neg h429)
  by_cases h431 : n = 431
  · subst h431
    go_wp2
    go_ret
    exact ⟨by rw [HR.out]; rfl, rfl⟩
  have q431 : (n == 431) = false := by simp [h431]
  have HR : Hid (R = _) := HR.out.trans (if_neg h431)
  go_wp2
  go_ret
  exact ⟨by rw [HR.out]; rfl, rfl⟩

set_option maxRecDepth 100000 in
set_option maxHeartbeats 4000000 in
theorem Reason_any (n : Int) (w : World) :
    Calls Tryz.prog 37 #[.int .i64 n] w fun e w' => e = .returned (.string (str (rsL n))) ∧ w' = w := by
  obtain ⟨R, hR⟩ : ∃ R, R = rsL n := ⟨_, rfl⟩
  have HR : Hid (R = rsL n) := hR
  rw [← hR]
  clear hR
  go_enter Tryz.func37, Tryz.ntmps37
  by_cases h100 : n = 100
  · subst h100
    go_wp2
    go_ret
    exact ⟨by rw [HR.out]; rfl, rfl⟩
  have q100 : (n == 100) = false := by simp [h100]
  have HR : Hid (R = _) := HR.out.trans (show rsL n = _ from if_neg h100)
  by_cases h101 : n = 101
  · subst h101
    go_wp2
    go_ret
    exact ⟨by rw [HR.out]; rfl, rfl⟩
  have q101 : (n == 101) = false := by simp [h101]
  have HR : Hid (R = _) := HR.out.trans (if_neg h101)
  by_cases h200 : n = 200
  · subst h200
    go_wp2
    go_ret
    exact ⟨by rw [HR.out]; rfl, rfl⟩
  have q200 : (n == 200) = false := by simp [h200]
  have HR : Hid (R = _) := HR.out.trans (if_neg h200)
  by_cases h201 : n = 201
  · subst h201
    go_wp2
    go_ret
    exact ⟨by rw [HR.out]; rfl, rfl⟩
  have q201 : (n == 201) = false := by simp [h201]
  have HR : Hid (R = _) := HR.out.trans (if_neg h201)
  by_cases h202 : n = 202
  · subst h202
    go_wp2
    go_ret
    exact ⟨by rw [HR.out]; rfl, rfl⟩
  have q202 : (n == 202) = false := by simp [h202]
  have HR : Hid (R = _) := HR.out.trans (if_neg h202)
  by_cases h204 : n = 204
  · subst h204
    go_wp2
    go_ret
    exact ⟨by rw [HR.out]; rfl, rfl⟩
  have q204 : (n == 204) = false := by simp [h204]
  have HR : Hid (R = _) := HR.out.trans (if_neg h204)
  by_cases h206 : n = 206
  · subst h206
    go_wp2
    go_ret
    exact ⟨by rw [HR.out]; rfl, rfl⟩
  have q206 : (n == 206) = false := by simp [h206]
  have HR : Hid (R = _) := HR.out.trans (if_neg h206)
  by_cases h301 : n = 301
  · subst h301
    go_wp2
    go_ret
    exact ⟨by rw [HR.out]; rfl, rfl⟩
  have q301 : (n == 301) = false := by simp [h301]
  have HR : Hid (R = _) := HR.out.trans (if_neg h301)
  by_cases h302 : n = 302
  · subst h302
    go_wp2
    go_ret
    exact ⟨by rw [HR.out]; rfl, rfl⟩
  have q302 : (n == 302) = false := by simp [h302]
  have HR : Hid (R = _) := HR.out.trans (if_neg h302)
  by_cases h303 : n = 303
  · subst h303
    go_wp2
    go_ret
    exact ⟨by rw [HR.out]; rfl, rfl⟩
  have q303 : (n == 303) = false := by simp [h303]
  have HR : Hid (R = _) := HR.out.trans (if_neg h303)
  by_cases h304 : n = 304
  · subst h304
    go_wp2
    go_ret
    exact ⟨by rw [HR.out]; rfl, rfl⟩
  have q304 : (n == 304) = false := by simp [h304]
  have HR : Hid (R = _) := HR.out.trans (if_neg h304)
  by_cases h307 : n = 307
  · subst h307
    go_wp2
    go_ret
    exact ⟨by rw [HR.out]; rfl, rfl⟩
  have q307 : (n == 307) = false := by simp [h307]
  have HR : Hid (R = _) := HR.out.trans (if_neg h307)
  by_cases h308 : n = 308
  · subst h308
    go_wp2
    go_ret
    exact ⟨by rw [HR.out]; rfl, rfl⟩
  have q308 : (n == 308) = false := by simp [h308]
  have HR : Hid (R = _) := HR.out.trans (if_neg h308)
  by_cases h500 : n = 500
  · subst h500
    go_wp2
    go_ret
    exact ⟨by rw [HR.out]; rfl, rfl⟩
  have q500 : (n == 500) = false := by simp [h500]
  have HR : Hid (R = _) := HR.out.trans (if_neg h500)
  by_cases h501 : n = 501
  · subst h501
    go_wp2
    go_ret
    exact ⟨by rw [HR.out]; rfl, rfl⟩
  have q501 : (n == 501) = false := by simp [h501]
  have HR : Hid (R = _) := HR.out.trans (if_neg h501)
  by_cases h502 : n = 502
  · subst h502
    go_wp2
    go_ret
    exact ⟨by rw [HR.out]; rfl, rfl⟩
  have q502 : (n == 502) = false := by simp [h502]
  have HR : Hid (R = _) := HR.out.trans (if_neg h502)
  by_cases h503 : n = 503
  · subst h503
    go_wp2
    go_ret
    exact ⟨by rw [HR.out]; rfl, rfl⟩
  have q503 : (n == 503) = false := by simp [h503]
  have HR : Hid (R = _) := HR.out.trans (if_neg h503)
  by_cases h504 : n = 504
  · subst h504
    go_wp2
    go_ret
    exact ⟨by rw [HR.out]; rfl, rfl⟩
  have q504 : (n == 504) = false := by simp [h504]
  have HR : Hid (R = _) := HR.out.trans (if_neg h504)
  by_cases h505 : n = 505
  · subst h505
    go_wp2
    go_ret
    exact ⟨by rw [HR.out]; rfl, rfl⟩
  have q505 : (n == 505) = false := by simp [h505]
  have HR : Hid (R = _) := HR.out.trans (if_neg h505)
  have HC : Hid (∀ W, Calls _ _ _ W _) := fun W => clientsReason_any n W
  go_wp2_with fail
  refine (HC.out _).mono ?_
  rintro e w' ⟨rfl, hw⟩
  rw [hw]
  go_wp2
  go_ret
  exact ⟨by rw [HR.out]; rfl, rfl⟩

end Ms
end Go.Proofs.YticncpjpkgdnlaaGreatDoor

/-
  field: named, IndexFunc, Find; the law's awake.
-/
set_option linter.unusedVariables false
set_option linter.unusedSimpArgs false
namespace Go.Proofs.YticncpjpkgdnlaaGreatDoor
open Go.RowKit Go.Shelf
namespace Fd
open Oc Tg

/-- Is the field's name alike to it? -/
def alike (s : List UInt8) (p : Fl) : Bool := decide (lower p.1 = lower s)
def idxZ (s : List UInt8) (fs : List Fl) : Int := match fs.findIdx? (alike s) with | some k => (k : Int) | none => -1
theorem low_alike (n s : List UInt8) : decide (lowS (str n) = lowS (str s)) = decide (lower n = lower s) := by
  unfold lowS
  rw [str_list, str_list, Bool.eq_iff_iff, decide_eq_true_iff, decide_eq_true_iff]
  exact ⟨str_inj, fun h => by rw [h]⟩
theorem idxZ_at {s : List UInt8} {fs : List Fl} {k : Nat} (hk : k < fs.length) (h1 : alike s (nth fs k) = true) (h2 : ∀ j, j < k → alike s (nth fs j) = false) : idxZ s fs = k := by
  unfold idxZ
  have : fs.findIdx? (alike s) = some k := by
    rw [List.findIdx?_eq_some_iff_getElem]
    refine ⟨hk, ?_, fun j hj => ?_⟩
    · have := h1
      unfold nth at this
      rwa [List.getD_eq_getElem?_getD, List.getElem?_eq_getElem hk] at this
    · have := h2 j hj
      unfold nth at this
      rw [List.getD_eq_getElem?_getD, List.getElem?_eq_getElem (by omega)] at this
      simpa using this
  rw [this]
theorem idxZ_none {s : List UInt8} {fs : List Fl} (h2 : ∀ j, j < fs.length → alike s (nth fs j) = false) : idxZ s fs = -1 := by
  unfold idxZ
  have : fs.findIdx? (alike s) = none := by
    rw [List.findIdx?_eq_none_iff]
    intro x hx
    obtain ⟨j, hj, rfl⟩ := List.mem_iff_getElem.1 hx
    have := h2 j hj
    unfold nth at this
    rwa [List.getD_eq_getElem?_getD, List.getElem?_eq_getElem hj] at this
  rw [this]
/-- No text of theirs is longer. -/
def Each (M : Nat) (fs : List Fl) : Prop := ∀ p ∈ fs, p.1.length ≤ M ∧ p.2.length ≤ M
theorem Each.at {M : Nat} {fs : List Fl} (h : Each M fs) (k : Nat) (hk : k < fs.length) : (nth fs k).1.length ≤ M ∧ (nth fs k).2.length ≤ M := by
  refine h _ ?_
  unfold nth
  rw [List.getD_eq_getElem?_getD, List.getElem?_eq_getElem hk]
  exact List.getElem_mem hk

set_option maxHeartbeats 400000 in
theorem named_any (s : ByteArray) (w : World) :
    Calls Tryz.prog 157 #[.string s] w fun e w' => e = .returned (.func (.func 218) #[] #[.pointer (some ⟨w.heap.size, 0, none⟩)]) ∧ w' = w.alloc (.cells #[.string s] 9) := by
  go_enter Tryz.func157, Tryz.ntmps157
  go_wp2
  go_ret
  exact ⟨rfl, rfl⟩

set_option maxRecDepth 100000 in
set_option maxHeartbeats 1000000 in
theorem named1_any (n v s : List UInt8) (hn : n.length ≤ maxLen) (hs : s.length ≤ maxLen) (B : Nat) (w : World) (hc : w.cell? ⟨B, 0, none⟩ = some (.string (str s))) :
    Calls Tryz.prog 218 #[.agg #[.string (str n), .string (str v)], .pointer (some ⟨B, 0, none⟩)] w fun e w' => e = .returned (.bool (alike s (n, v))) ∧ Below w.heap.size w w' := by
  obtain ⟨w2, hw2⟩ : ∃ w2, w2 = w.alloc (.cells #[.string (str n), .string (str v)] 26) := ⟨_, rfl⟩
  have R1 : w2.heap[w.heap.size]? = some (.cells #[.string (str n), .string (str v)] 26 (0, 0)) := by
    rw [hw2]; exact heap_alloc_new w _
  have hb2 : Below w.heap.size w w2 := by rw [hw2]; exact (Below.refl _ w).alloc (Nat.le_refl _) _
  have c0 := Lib.cell_of_heap R1 0
  simp at c0
  have hcB : w2.cell? ⟨B, 0, none⟩ = some (.string (str s)) := by rw [hb2.cell (World.block_lt_of_cell? w _ hc)]; exact hc
  have HS : Hid (Calls Tryz.prog 219 #[.string (str n), .string (str s)] w2 fun e w' => e = .returned (.bool (alike s (n, v))) ∧ Below w2.heap.size w2 w') := by
    have h := Same_any (str n) (str s) (by rw [str_size]; exact hn) (by rw [str_size]; exact hs) w2
    rw [low_alike] at h
    exact h
  have HB2 : Hid (Below w.heap.size w w2) := hb2
  generalize str n = N at *
  generalize str s = S at *
  generalize str v = V at *
  generalize alike s (n, v) = b at *
  clear R1 hb2 hc
  subst hw2
  go_enter Tryz.func218, Tryz.ntmps218
  go_wp2_with fail
  refine HS.out.mono ?_
  rintro e w3 ⟨rfl, hb3⟩
  have HB3 : Hid (Below w.heap.size w w3) := bel_trans HB2.out hb3
  clear hb3
  go_wp2
  go_ret
  exact ⟨rfl, HB3.out⟩

/-- The value of the first field of a name, and whether there is one. -/
def findF (s : List UInt8) (fs : List Fl) : List UInt8 × Bool := match fs.find? (alike s) with | some p => (p.2, true) | none => ([], false)
theorem idx_find (s : List UInt8) (fs : List Fl) : (∃ k : Nat, k < fs.length ∧ idxZ s fs = k ∧ findF s fs = ((nth fs k).2, true)) ∨ (idxZ s fs = -1 ∧ findF s fs = ([], false)) := by
  unfold idxZ findF
  cases h : fs.findIdx? (alike s) with
  | none =>
    right
    rw [List.findIdx?_eq_none_iff] at h
    have : fs.find? (alike s) = none := by rw [List.find?_eq_none]; intro x hx; simpa using h x hx
    rw [this]
    exact ⟨rfl, rfl⟩
  | some k =>
    left
    rw [List.findIdx?_eq_some_iff_getElem] at h
    obtain ⟨hk, h1, h2⟩ := h
    refine ⟨k, hk, rfl, ?_⟩
    have : fs.find? (alike s) = some fs[k] := by
      rw [List.find?_eq_some_iff_getElem]
      exact ⟨h1, k, hk, rfl, fun j hj => by simpa using h2 j hj⟩
    rw [this]
    unfold nth
    rw [List.getD_eq_getElem?_getD, List.getElem?_eq_getElem hk]
    rfl

theorem line_awake : parseL [104, 79, 83, 84, 58, 32, 97, 32] = (([104, 79, 83, 84], [97]), 0, 0) := by decide +kernel
theorem find_awake : findF [72, 111, 115, 116] [([104, 79, 83, 84], [97])] = ([97], true) := by decide +kernel

end Fd
end Go.Proofs.YticncpjpkgdnlaaGreatDoor

/-
  The document's ParseLine.
-/
set_option linter.unusedVariables false
set_option linter.unusedSimpArgs false
namespace Go.Proofs.YticncpjpkgdnlaaGreatDoor
open Go.RowKit Go.Shelf
namespace Fd
open Oc Tg

theorem fnot_ge (p : UInt8 → Bool) : ∀ (l : List UInt8) (k : Nat), k ≤ l.length → (∀ j, j < k → p (l.getD j 0) = true) → k ≤ fnot p l
  | [], k, h, _ => by simp at h; omega
  | a :: l, 0, _, _ => Nat.zero_le _
  | a :: l, k + 1, h, ha => by
    have h0 := ha 0 (by omega)
    simp at h0
    unfold fnot
    rw [List.takeWhile_cons, h0]
    simp only [if_true, List.length_cons]
    have := fnot_ge p l k (by simpa using h) (fun j hj => by simpa using ha (j + 1) (by omega))
    unfold fnot at this
    omega
theorem pl_no {l : List UInt8} (hb : blank0 l = false) (hh : has 58 l = false) : parseL l = (([], []), l.length, 62) := by
  unfold parseL
  rw [hb, hh]
  rfl
theorem pl_A {l : List UInt8} (hb : blank0 l = true) : parseL l = (([], []), 0, 63) := by unfold parseL; rw [hb]; rfl
theorem pl_D {l : List UInt8} (hb : blank0 l = false) (hh : has 58 l = true) (k : Nat) (hn : isName (cutA 58 l) = false) (hk : min (fnot tokB (cutA 58 l)) 128 = k) : parseL l = (([], []), k, 60) := by
  unfold parseL
  rw [hb, hh, hn, hk]
  rfl
theorem pl_D0 {l : List UInt8} (hb : blank0 l = false) (hh : has 58 l = true) (h0 : (cutA 58 l).length = 0) : parseL l = (([], []), 0, 60) := by
  have e := List.length_eq_zero_iff.1 h0
  exact pl_D hb hh 0 (by rw [e]; rfl) (by rw [e]; rfl)
theorem pl_D1 {l : List UInt8} (hb : blank0 l = false) (hh : has 58 l = true) (k : Nat) (hk : k < (cutA 58 l).length) (hall : ∀ j, j < k → tokB ((cutA 58 l).getD j 0) = true) (hk2 : k ≤ 128) (hst : k = 128 ∨ tokB ((cutA 58 l).getD k 0) = false) : parseL l = (([], []), k, 60) := by
  rcases hst with rfl | hst
  · refine pl_D hb hh 128 ?_ ?_
    · unfold isName
      rw [decide_eq_false (by omega)]
      simp
    · have := fnot_ge tokB (cutA 58 l) 128 (by omega) hall
      omega
  · refine pl_D hb hh k ?_ ?_
    · unfold isName isTok
      rw [all_not tokB 0 _ k hk hst]
      simp
    · have : fnot tokB (cutA 58 l) = k := tw_stop tokB 0 _ k hk hall hst
      omega
theorem name_of {l : List UInt8} (h0 : l.length ≠ 0) (h1 : l.length ≤ 128) (hall : ∀ j, j < l.length → tokB (l.getD j 0) = true) : isName l = true := by
  unfold isName isTok
  rw [all_of tokB 0 _ hall, decide_eq_true h1]
  cases l with
  | nil => exact absurd rfl h0
  | cons _ _ => rfl
theorem pl_E1 {l : List UInt8} (hb : blank0 l = false) (hh : has 58 l = true) (hn : isName (cutA 58 l) = true) (k : Nat) (hk : k < (cutB 58 l).length) (hall : ∀ j, j < k → fieldB ((cutB 58 l).getD j 0) = true) (hst : fieldB ((cutB 58 l).getD k 0) = false) :
    parseL l = (([], []), (cutA 58 l).length + 1 + k, 61) := by
  unfold parseL
  rw [hb, hh, hn, show isFld (cutB 58 l) = false from all_not fieldB 0 _ k hk hst, show fnot fieldB (cutB 58 l) = k from tw_stop fieldB 0 _ k hk hall hst]
  rfl
theorem pl_F {l : List UInt8} (hb : blank0 l = false) (hh : has 58 l = true) (hn : isName (cutA 58 l) = true) (hf : isFld (cutB 58 l) = true) (h8 : (trim (cutB 58 l)).length ≤ 8192) : parseL l = ((cutA 58 l, trim (cutB 58 l)), 0, 0) := by
  unfold parseL
  rw [hb, hh, hn, hf, if_pos h8]
  rfl
theorem pl_E2 {l : List UInt8} (hb : blank0 l = false) (hh : has 58 l = true) (hn : isName (cutA 58 l) = true) (hf : isFld (cutB 58 l) = true) (h8 : ¬ (trim (cutB 58 l)).length ≤ 8192) (k : Nat) (hk : lead (cutB 58 l) = k) :
    parseL l = (([], []), (cutA 58 l).length + 1 + (k + 8192), 61) := by
  unfold parseL
  rw [hb, hh, hn, hf, if_neg h8, hk]
  rfl
theorem at_A {l : List UInt8} (hh : has 58 l = true) (j : Nat) (hj : j < (cutA 58 l).length) : l.getD j 0 = (cutA 58 l).getD j 0 := by
  conv => lhs; rw [← cut_app 58 l hh]
  rw [List.getD_eq_getElem?_getD, List.getD_eq_getElem?_getD, List.getElem?_append_left hj]
theorem at_B {l : List UInt8} (hh : has 58 l = true) (j : Nat) : l.getD ((cutA 58 l).length + 1 + j) 0 = (cutB 58 l).getD j 0 := by
  conv => lhs; arg 1; rw [← cut_app 58 l hh]
  rw [List.getD_eq_getElem?_getD, List.getD_eq_getElem?_getD, List.getElem?_append_right (by omega), show (cutA 58 l).length + 1 + j - (cutA 58 l).length = j + 1 by omega, List.getElem?_cons_succ]
theorem len_AB {l : List UInt8} (hh : has 58 l = true) : l.length = (cutA 58 l).length + 1 + (cutB 58 l).length := by
  have := congrArg List.length (cut_app 58 l hh)
  simp at this
  omega
theorem drop_A {l : List UInt8} (hh : has 58 l = true) : l.drop ((cutA 58 l).length + 1) = cutB 58 l := by
  conv => lhs; arg 2; rw [← cut_app 58 l hh]
  rw [show cutA 58 l ++ 58 :: cutB 58 l = (cutA 58 l ++ [58]) ++ cutB 58 l by simp, show (cutA 58 l).length + 1 = (cutA 58 l ++ [58]).length by simp, List.drop_left]
theorem take_A {l : List UInt8} (hh : has 58 l = true) : l.take (cutA 58 l).length = cutA 58 l := by
  conv => lhs; arg 2; rw [← cut_app 58 l hh]
  rw [List.take_left]

/-- The same in two ways: what is answered, as a value. -/
theorem lineV_mk {P : (List UInt8 × List UInt8) × Nat × Int} {a b : List UInt8} {x y : ByteArray} (hx : x = str a) (hy : y = str b) (h : P = ((a, b), 0, 0)) : Ending.returned (.tuple #[.agg #[.string x, .string y], .int .i64 0, .int .i64 0]) = .returned (lineV P) := by rw [h, hx, hy]; rfl
theorem lineV_mk2 {P : (List UInt8 × List UInt8) × Nat × Int} {k : Int} {z : Int} (m : Nat) (hm : k = (m : Int)) (h : P = (([], []), m, z)) : Ending.returned (.tuple #[.agg #[.string ⟨#[]⟩, .string ⟨#[]⟩], .int .i64 k, .int .i64 z]) = .returned (lineV P) := by rw [h, hm]; rfl

end Fd
end Go.Proofs.YticncpjpkgdnlaaGreatDoor

/-
  Texts of lines, plain; the document's 'ending'; the law's own 'same'.
-/
set_option linter.unusedVariables false
set_option linter.unusedSimpArgs false
namespace Go.Proofs.YticncpjpkgdnlaaGreatDoor
open Go.RowKit Go.Shelf
namespace Fd
open Oc Tg

/-- What lines say: the fields, or the place and what is wrong there. -/
def parseT : Nat → List UInt8 → Nat → List Fl → List Fl × Nat × Int
  | 0, _, _, _ => ([], 0, 0)
  | f + 1, l, at_, acc =>
    if l = [] then (acc, 0, 0)
    else if Lib.index l [13, 10] < 0 then ([], at_ + l.length, 64)
    else if acc.length = 100 then ([], at_, 65)
    else if (parseL (l.take (Lib.index l [13, 10]).toNat)).2.2 = 0 then parseT f (l.drop ((Lib.index l [13, 10]).toNat + 2)) (at_ + ((Lib.index l [13, 10]).toNat + 2)) (acc ++ [(parseL (l.take (Lib.index l [13, 10]).toNat)).1])
    else ([], at_ + (parseL (l.take (Lib.index l [13, 10]).toNat)).2.1, (parseL (l.take (Lib.index l [13, 10]).toNat)).2.2)
theorem parseT_succ (f : Nat) (l : List UInt8) (at_ : Nat) (acc : List Fl) : parseT (f + 1) l at_ acc =
    if l = [] then (acc, 0, 0)
    else if Lib.index l [13, 10] < 0 then ([], at_ + l.length, 64)
    else if acc.length = 100 then ([], at_, 65)
    else if (parseL (l.take (Lib.index l [13, 10]).toNat)).2.2 = 0 then parseT f (l.drop ((Lib.index l [13, 10]).toNat + 2)) (at_ + ((Lib.index l [13, 10]).toNat + 2)) (acc ++ [(parseL (l.take (Lib.index l [13, 10]).toNat)).1])
    else ([], at_ + (parseL (l.take (Lib.index l [13, 10]).toNat)).2.1, (parseL (l.take (Lib.index l [13, 10]).toNat)).2.2) := rfl
def parseText (l : List UInt8) : List Fl × Nat × Int := parseT (l.length + 1) l 0 []
theorem parseL_le (l : List UInt8) : (parseL l).2.1 ≤ l.length + 8192 := by
  unfold parseL
  split
  · simp
  · split
    · next h =>
      have hl := len_AB h
      have h1 := lead_le (cutB 58 l)
      have h2 := fnot_le fieldB (cutB 58 l)
      have h3 := fnot_le tokB (cutA 58 l)
      split
      · split
        · split
          · simp
          · dsimp only; omega
        · dsimp only; omega
      · dsimp only; omega
    · dsimp only; omega
theorem index2_room (l : List UInt8) (h : 0 ≤ Lib.index l [13, 10]) : (Lib.index l [13, 10]).toNat + 2 ≤ l.length := by
  have := Lib.index_room l [13, 10] h
  simp at this
  omega
/-- What is still to be read says the rest. -/
structure Mid (l : List UInt8) (at_ : Nat) (acc : List Fl) : Prop where
  le : at_ ≤ l.length
  few : acc.length ≤ 100
  ex : ∃ f, l.length - at_ < f ∧ parseText l = parseT f (l.drop at_) at_ acc
theorem Mid.start (l : List UInt8) : Mid l 0 [] := ⟨Nat.zero_le _, by simp, l.length + 1, by omega, rfl⟩
theorem drop_ne {l : List UInt8} {k : Nat} (h : k < l.length) : l.drop k ≠ [] := by
  intro e
  have := congrArg List.length e
  simp at this
  omega
theorem Mid.last {l : List UInt8} {at_ : Nat} {acc : List Fl} (h : Mid l at_ acc) (he : ¬ at_ < l.length) : parseText l = (acc, 0, 0) := by
  obtain ⟨f, hf, e⟩ := h.ex
  have hd : l.drop at_ = [] := List.drop_eq_nil_of_le (by omega)
  rw [e, hd]
  cases f with
  | zero => omega
  | succ f => rfl
theorem Mid.brk {l : List UInt8} {at_ : Nat} {acc : List Fl} (h : Mid l at_ acc) (he : at_ < l.length) (hi : Lib.index (l.drop at_) [13, 10] < 0) : parseText l = ([], l.length, 64) := by
  obtain ⟨f, hf, e⟩ := h.ex
  cases f with
  | zero => omega
  | succ f =>
    rw [e, parseT_succ, if_neg (drop_ne he), if_pos hi, List.length_drop, show at_ + (l.length - at_) = l.length by omega]
theorem Mid.many {l : List UInt8} {at_ : Nat} {acc : List Fl} (h : Mid l at_ acc) (he : at_ < l.length) (hi : ¬ Lib.index (l.drop at_) [13, 10] < 0) (ha : acc.length = 100) : parseText l = ([], at_, 65) := by
  obtain ⟨f, hf, e⟩ := h.ex
  cases f with
  | zero => omega
  | succ f =>
    rw [e, parseT_succ, if_neg (drop_ne he), if_neg hi, if_pos ha]
theorem Mid.bad {l : List UInt8} {at_ : Nat} {acc : List Fl} (h : Mid l at_ acc) (he : at_ < l.length) (hi : ¬ Lib.index (l.drop at_) [13, 10] < 0) (ha : ¬ acc.length = 100) {x : (List UInt8 × List UInt8) × Nat × Int}
    (hx : parseL ((l.drop at_).take (Lib.index (l.drop at_) [13, 10]).toNat) = x) (hz : x.2.2 ≠ 0) : parseText l = ([], at_ + x.2.1, x.2.2) := by
  obtain ⟨f, hf, e⟩ := h.ex
  cases f with
  | zero => omega
  | succ f =>
    rw [e, parseT_succ, if_neg (drop_ne he), if_neg hi, if_neg ha, hx, if_neg hz]
theorem Mid.next {l : List UInt8} {at_ : Nat} {acc : List Fl} (h : Mid l at_ acc) (he : at_ < l.length) (hi : ¬ Lib.index (l.drop at_) [13, 10] < 0) (ha : ¬ acc.length = 100) {x : (List UInt8 × List UInt8) × Nat × Int}
    (hx : parseL ((l.drop at_).take (Lib.index (l.drop at_) [13, 10]).toNat) = x) (hz : x.2.2 = 0) : Mid l (at_ + ((Lib.index (l.drop at_) [13, 10]).toNat + 2)) (acc ++ [x.1]) := by
  obtain ⟨f, hf, e⟩ := h.ex
  have hr := index2_room (l.drop at_) (by omega)
  rw [List.length_drop] at hr
  refine ⟨by omega, by have := h.few; simp; omega, ?_⟩
  cases f with
  | zero => omega
  | succ f =>
    refine ⟨f, by omega, ?_⟩
    rw [e, parseT_succ, if_neg (drop_ne he), if_neg hi, if_neg ha, hx, if_pos hz, List.drop_drop]
theorem occ2 (l : List UInt8) (i : Nat) (h : i + 1 < l.length) : Lib.occAt l [13, 10] i = (l.getD i 0 == 13 && l.getD (i + 1) 0 == 10) := by
  unfold Lib.occAt
  rw [List.drop_eq_getElem_cons (show i < l.length by omega), List.drop_eq_getElem_cons h, List.getD_eq_getElem?_getD, List.getElem?_eq_getElem (show i < l.length by omega), List.getD_eq_getElem?_getD, List.getElem?_eq_getElem h]
  simp [List.isPrefixOf, Bool.beq_comm, Option.getD_some]
theorem occ2_no (l : List UInt8) (i : Nat) (h : ¬ i + 1 < l.length) : Lib.occAt l [13, 10] i = false := by
  cases e : Lib.occAt l [13, 10] i with
  | false => rfl
  | true =>
    rcases Lib.occAt_room e with h2 | h2
    · simp at h2; omega
    · cases h2

/-- The place of the first line end from a place on; -1: none. -/
def endZ (l : List UInt8) (at_ : Nat) : Int := if Lib.index (l.drop at_) [13, 10] < 0 then -1 else (at_ : Int) + Lib.index (l.drop at_) [13, 10]
theorem getD_drop (l : List UInt8) (a i : Nat) : (l.drop a).getD i 0 = l.getD (a + i) 0 := by
  rw [List.getD_eq_getElem?_getD, List.getD_eq_getElem?_getD, List.getElem?_drop]
theorem endZ_at {s : ByteArray} {a k : Nat} (ha : a ≤ k) (hk : k + 1 < s.size) (h1 : byt s k = 13) (h2 : byt s (k + 1) = 10) (hn : ∀ j, a ≤ j → j < k → ¬ (byt s j = 13 ∧ byt s (j + 1) = 10)) : endZ s.data.toList a = k := by
  have hl : (s.data.toList.drop a).length = s.size - a := by rw [List.length_drop, size_list]
  have hb : ∀ j, byt s (a + j) = (((s.data.toList.drop a).getD j 0).toNat : Int) := fun j => by unfold byt; rw [getD_drop]
  have hi : Lib.index (s.data.toList.drop a) [13, 10] = ((k - a : Nat) : Int) := by
    refine Lib.index_first (by omega) ?_ (fun j hj => ?_)
    · rw [occ2 _ _ (by omega)]
      have e1 := hb (k - a)
      have e2 := hb (k - a + 1)
      rw [show a + (k - a) = k by omega, h1] at e1
      rw [show a + (k - a + 1) = k + 1 by omega, h2] at e2
      have f1 : (s.data.toList.drop a).getD (k - a) 0 = 13 := UInt8.toNat_inj.1 (by show _ = 13; omega)
      have f2 : (s.data.toList.drop a).getD (k - a + 1) 0 = 10 := UInt8.toNat_inj.1 (by show _ = 10; omega)
      rw [f1, f2]
      rfl
    · rw [occ2 _ _ (by omega)]
      cases e : ((s.data.toList.drop a).getD j 0 == 13 && (s.data.toList.drop a).getD (j + 1) 0 == 10) with
      | false => rfl
      | true =>
        rw [Bool.and_eq_true, beq_iff_eq, beq_iff_eq] at e
        exact absurd ⟨(hb j).trans (by rw [e.1]; rfl), by rw [show a + j + 1 = a + (j + 1) by omega]; exact (hb (j + 1)).trans (by rw [e.2]; rfl)⟩ (hn (a + j) (by omega) (by omega))
  unfold endZ
  rw [hi, if_neg (by omega)]
  omega
theorem endZ_no {s : ByteArray} {a : Nat} (ha : a ≤ s.size) (hn : ∀ j, a ≤ j → j + 1 < s.size → ¬ (byt s j = 13 ∧ byt s (j + 1) = 10)) : endZ s.data.toList a = -1 := by
  have hl : (s.data.toList.drop a).length = s.size - a := by rw [List.length_drop, size_list]
  have hb : ∀ j, byt s (a + j) = (((s.data.toList.drop a).getD j 0).toNat : Int) := fun j => by unfold byt; rw [getD_drop]
  have hi : Lib.index (s.data.toList.drop a) [13, 10] = -1 := by
    refine Lib.index_none (fun j hj => ?_)
    by_cases h2 : j + 1 < (s.data.toList.drop a).length
    · rw [occ2 _ _ h2]
      cases e : ((s.data.toList.drop a).getD j 0 == 13 && (s.data.toList.drop a).getD (j + 1) 0 == 10) with
      | false => rfl
      | true =>
        rw [Bool.and_eq_true, beq_iff_eq, beq_iff_eq] at e
        exact absurd ⟨(hb j).trans (by rw [e.1]; rfl), by rw [show a + j + 1 = a + (j + 1) by omega]; exact (hb (j + 1)).trans (by rw [e.2]; rfl)⟩ (hn (a + j) (by omega) (by omega))
    · exact occ2_no _ _ h2
  unfold endZ
  rw [hi, if_pos (by omega)]

end Fd
end Go.Proofs.YticncpjpkgdnlaaGreatDoor

/-
  The law's own same; Parse.
-/
set_option linter.unusedVariables false
set_option linter.unusedSimpArgs false
namespace Go.Proofs.YticncpjpkgdnlaaGreatDoor
open Go.RowKit Go.Shelf
namespace Fd
open Oc Tg

theorem OwnF.form {T B : Nat} {v : Value} {t : List Fl} {w : World} (h : OwnF T B v t w) : ∃ a c, v = .slice a t.length c := by
  rcases h.2 with ⟨rfl, h0⟩ | ⟨g, cap, cur, rfl, _⟩
  · exact ⟨none, 0, by rw [h0]⟩
  · exact ⟨_, _, rfl⟩
theorem take_cut {l : List UInt8} {a : Nat} (hi : ¬ Lib.index (l.drop a) [13, 10] < 0) : Lib.cut (l.drop a) [13, 10] = ((l.drop a).take (Lib.index (l.drop a) [13, 10]).toNat, (l.drop a).drop ((Lib.index (l.drop a) [13, 10]).toNat + 2), true) := by
  unfold Lib.cut
  rw [if_pos (by omega)]
  rfl
theorem no_cut {l : List UInt8} {a : Nat} (hi : Lib.index (l.drop a) [13, 10] < 0) : (Lib.cut (l.drop a) [13, 10]).2.2 = false := by
  unfold Lib.cut
  rw [if_neg (by omega)]

theorem bad_ret {l : List UInt8} {B : Nat} {W : World} {k : Int} {z : Int} (m : Nat) (hm : k = (m : Int)) (h : parseText l = ([], m, z)) {w : World} {B0 : Nat} (hb : Below B0 w W) : ∃ v, Ending.returned (.tuple #[.slice none 0 0, .int .i64 k, .int .i64 z]) = .returned (.tuple #[v, .int .i64 ((parseText l).2.1 : Nat), .int .i64 (parseText l).2.2]) ∧ OwnF 26 B v (parseText l).1 W ∧ Below B0 w W := by
  rw [h, hm]
  exact ⟨_, rfl, ownF_nil _ _ _, hb⟩

end Fd
end Go.Proofs.YticncpjpkgdnlaaGreatDoor
