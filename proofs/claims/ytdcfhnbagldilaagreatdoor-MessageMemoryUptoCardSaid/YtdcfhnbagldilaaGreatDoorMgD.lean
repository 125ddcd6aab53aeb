import Derived.Test.YtdcfhnbagldilaaGreatDoorMgB
import Derived.Test.YtdcfhnbagldilaaGreatDoorMgC
import Derived.Deep.QuietTactic
import Derived.Maps.AppendAt
set_option linter.unusedVariables false
set_option linter.unusedSimpArgs false
namespace Go.Proofs.YtdcfhnbagldilaaGreatDoor
open Go.RowKit
namespace Fd
open Oc
theorem trim_eq_str (s : ByteArray) : (decide (str (trim s.data.toList) = s)) = decide (trim s.data.toList = s.data.toList) := by
  rw [Bool.eq_iff_iff, decide_eq_true_iff, decide_eq_true_iff]
  constructor
  · intro h
    have := congrArg (fun x : ByteArray => x.data.toList) h
    simpa [str_list] using this
  · intro h
    rw [h, str_self]
set_option maxHeartbeats 400000 in
theorem rIsName_any (s : ByteArray) (hs : s.size ≤ maxLen) (w : World) :
    Calls Tryz.prog 128 #[.string s] w fun e w' => e = .returned (.bool (isName s.data.toList)) ∧ w' = w := by
  have HT : Hid (∀ w, Calls Tryz.prog 70 #[.string s] w fun e w' => e = .returned (.bool (isTok s.data.toList)) ∧ w' = w) := fun w => rToken_any s hs w
  unfold isName maxLen at *
  rw [size_list]
  generalize isTok s.data.toList = b at *
  cases b with
  | true =>
    go_enter Tryz.func128, Tryz.ntmps128
    go_wp2_with fail
    refine (HT.out _).mono ?_
    rintro e w' ⟨rfl, rfl⟩
    go_wp2
    go_ret
    exact ⟨ret_bool (by simp; omega), rfl⟩
  | false =>
    go_enter Tryz.func128, Tryz.ntmps128
    go_wp2_with fail
    refine (HT.out _).mono ?_
    rintro e w' ⟨rfl, rfl⟩
    go_wp2
    go_ret
    exact ⟨ret_bool (by simp), rfl⟩
set_option maxHeartbeats 400000 in
theorem IsName_any (s : ByteArray) (hs : s.size ≤ maxLen) (w : World) (t : Tab w) :
    Calls Tryz.prog 112 #[.string s] w fun e w' => e = .returned (.bool (isName s.data.toList)) ∧ Below w.heap.size w w' := by
  have HT : Hid (Calls Tryz.prog 131 #[.string s] w fun e w' => e = .returned (.bool (isTok s.data.toList)) ∧ Below w.heap.size w w') := IsToken_any s hs w t
  clear t
  unfold isName maxLen at *
  rw [size_list]
  generalize isTok s.data.toList = b at *
  by_cases hn : s.size ≤ 128
  · have HE : Hid (decide (s.size ≤ 128) = true) := decide_eq_true hn
    go_enter Tryz.func112, Tryz.ntmps112
    go_wp2_with fail
    refine HT.out.mono ?_
    rintro e w' ⟨rfl, hb⟩
    go_wp2
    go_ret
    exact ⟨ret_bool (by rw [HE.out]; simp), hb⟩
  · have HE : Hid (decide (s.size ≤ 128) = false) := decide_eq_false hn
    go_enter Tryz.func112, Tryz.ntmps112
    go_wp2
    go_ret
    exact ⟨ret_bool (by first | rfl | (rw [HE.out]; simp)), Below.refl _ _⟩
set_option maxHeartbeats 400000 in
theorem IsValue_any (s : ByteArray) (hs : s.size ≤ maxLen) (w : World) :
    Calls Tryz.prog 129 #[.string s] w fun e w' => e = .returned (.bool (isValue s.data.toList)) ∧ Below w.heap.size w w' := by
  have HF : Hid (∀ w, Calls Tryz.prog 84 #[.string s] w fun e w' => e = .returned (.bool (isFld s.data.toList)) ∧ Below w.heap.size w w') := fun w => IsField_any s hs w
  have HT : Hid (∀ w, Calls Tryz.prog 139 #[.string s] w fun e w' => e = .returned (.string (str (trim s.data.toList))) ∧ Below w.heap.size w w') := fun w => Trim_any s hs w
  have HQ := trim_eq_str s
  unfold isValue maxLen at *
  rw [size_list, ← HQ]
  clear HQ
  generalize isFld s.data.toList = b at *
  generalize str (trim s.data.toList) = u at *
  by_cases hn : s.size ≤ 8192
  · have HE : Hid (decide (s.size ≤ 8192) = true) := decide_eq_true hn
    cases b with
    | true =>
      go_enter Tryz.func129, Tryz.ntmps129
      go_wp2_with fail
      refine (HF.out _).mono ?_
      rintro e w1 ⟨rfl, hb1⟩
      have HB1 : Hid (Below w.heap.size w w1) := hb1
      clear hb1
      go_wp2_with fail
      refine (HT.out _).mono ?_
      rintro e w2 ⟨rfl, hb2⟩
      have HB2 : Hid (Below w.heap.size w w2) := bel_trans HB1.out hb2
      clear hb2
      go_wp2
      go_ret
      exact ⟨ret_bool (by rw [HE.out, eq_toList]; simp), HB2.out⟩
    | false =>
      go_enter Tryz.func129, Tryz.ntmps129
      go_wp2_with fail
      refine (HF.out _).mono ?_
      rintro e w1 ⟨rfl, hb1⟩
      have HB1 : Hid (Below w.heap.size w w1) := hb1
      clear hb1
      go_wp2
      go_ret
      exact ⟨ret_bool (by simp), HB1.out⟩
  · have HE : Hid (decide (s.size ≤ 8192) = false) := decide_eq_false hn
    go_enter Tryz.func129, Tryz.ntmps129
    go_wp2
    go_ret
    exact ⟨ret_bool (by first | rfl | (rw [HE.out]; simp)), Below.refl _ _⟩
end Fd
end Go.Proofs.YtdcfhnbagldilaaGreatDoor
set_option linter.unusedVariables false
set_option linter.unusedSimpArgs false
namespace Go.Proofs.YtdcfhnbagldilaaGreatDoor
open Go.RowKit Go.Shelf
namespace Fd
open Oc Tg
theorem isTok_one (c : UInt8) : isTok [c] = tokB c := by simp [isTok]
theorem isFld_one (c : UInt8) : isFld [c] = fieldB c := by simp [isFld]
theorem one_at (s : ByteArray) (k : Nat) (h : k < s.size) : (s.extract k (k + 1)).data.toList = [s.data.toList.getD k 0] := by
  rw [Lib.extract_data]
  have hk : k < s.data.toList.length := by rw [size_list]; exact h
  rw [List.getD_eq_getElem?_getD, List.getElem?_eq_getElem hk, show k + 1 - k = 1 by omega, List.drop_eq_getElem_cons hk]
  rfl
set_option maxRecDepth 100000 in
set_option maxHeartbeats 1000000 in
theorem firstNot_tok (s : ByteArray) (hs : s.size ≤ maxLen) (w : World) (t : Tab w) :
    Calls Tryz.prog 159 #[.string s, .func (.func 131) #[] #[]] w fun e w' => e = .returned (.int .i64 (fnot tokB s.data.toList : Nat)) ∧ Below w.heap.size w w' := by
  have HT : Hid (Tab w) := t
  have hs' := hs
  unfold maxLen at hs
  have HS : Hid (s.size ≤ maxLen) := hs'
  clear t hs'
  go_enter Tryz.func159, Tryz.ntmps159
  go_wp2
  go_loopw [8] (fun i wr => ∃ k : Nat, k ≤ s.size ∧ i = .int .i64 k ∧ Hid (∀ j, j < k → tokB (s.data.toList.getD j 0) = true) ∧ Hid (Below w.heap.size w wr)) (fun i _ => s.size - (intOf i).toNat)
  case atStart => exact ⟨0, Nat.zero_le _, rfl, (fun j hj => by omega : ∀ j, j < 0 → _), Below.refl _ _⟩
  case round =>
    obtain ⟨k, hk, rfl, hall, hbel⟩ := hrel
    by_cases hlt : k < s.size
    · have HC : Hid (Calls Tryz.prog 131 #[.string (s.extract k (k + 1))] wr fun e w' => e = .returned (.bool (tokB (s.data.toList.getD k 0))) ∧ Below wr.heap.size wr w') := by
        have h := IsToken_any (s.extract k (k + 1)) (by simp; have := HS.out; unfold maxLen at *; omega) wr (HT.out.below hbel.out (Nat.le_refl _))
        rw [one_at s k hlt, isTok_one] at h
        exact h
      have HN : tokB (s.data.toList.getD k 0) = true → Hid (∀ j, j < k + 1 → tokB (s.data.toList.getD j 0) = true) := fun h j hj => by
        by_cases hjk : j = k
        · subst hjk; exact h
        · exact hall.out j (by omega)
      have HF : tokB (s.data.toList.getD k 0) = false → Hid (fnot tokB s.data.toList = k) := fun h => tw_stop tokB 0 _ k (by rw [size_list]; exact hlt) hall.out h
      generalize tokB (s.data.toList.getD k 0) = b at HC HN HF
      cases b with
      | true =>
        have HN2 := HN rfl
        clear HF HN
        go_wp2_with fail
        refine HC.out.mono ?_
        rintro e w2 ⟨rfl, hb2⟩
        have HB2 : Hid (Below w.heap.size w w2) := bel_trans hbel.out hb2
        clear hb2
        go_wp2
        go_roundw
        case rel => exact ⟨k + 1, by omega, by go_num, HN2, HB2⟩
        case measure => simp [intOf]; omega
      | false =>
        have HF2 := HF rfl
        clear HN HF
        go_wp2_with fail
        refine HC.out.mono ?_
        rintro e w2 ⟨rfl, hb2⟩
        have HB2 : Hid (Below w.heap.size w w2) := bel_trans hbel.out hb2
        clear hb2
        go_wp2
        go_ret
        exact ⟨ret_int (by rw [HF2.out]), HB2.out⟩
    · have HE : Hid (fnot tokB s.data.toList = s.size) := (tw_all tokB 0 _ (fun j hj => hall.out j (by rw [size_list] at hj; omega))).trans (size_list s)
      go_wp2
      go_ret
      exact ⟨ret_int (by rw [HE.out]), hbel.out⟩
set_option maxRecDepth 100000 in
set_option maxHeartbeats 1000000 in
theorem firstNot_fld (s : ByteArray) (hs : s.size ≤ maxLen) (w : World) :
    Calls Tryz.prog 159 #[.string s, .func (.func 84) #[] #[]] w fun e w' => e = .returned (.int .i64 (fnot fieldB s.data.toList : Nat)) ∧ Below w.heap.size w w' := by
  have hs' := hs
  unfold maxLen at hs
  have HS : Hid (s.size ≤ maxLen) := hs'
  clear hs'
  go_enter Tryz.func159, Tryz.ntmps159
  go_wp2
  go_loopw [8] (fun i wr => ∃ k : Nat, k ≤ s.size ∧ i = .int .i64 k ∧ Hid (∀ j, j < k → fieldB (s.data.toList.getD j 0) = true) ∧ Hid (Below w.heap.size w wr)) (fun i _ => s.size - (intOf i).toNat)
  case atStart => exact ⟨0, Nat.zero_le _, rfl, (fun j hj => by omega : ∀ j, j < 0 → _), Below.refl _ _⟩
  case round =>
    obtain ⟨k, hk, rfl, hall, hbel⟩ := hrel
    by_cases hlt : k < s.size
    · have HC : Hid (Calls Tryz.prog 84 #[.string (s.extract k (k + 1))] wr fun e w' => e = .returned (.bool (fieldB (s.data.toList.getD k 0))) ∧ Below wr.heap.size wr w') := by
        have h := IsField_any (s.extract k (k + 1)) (by simp; have := HS.out; unfold maxLen at *; omega) wr
        rw [one_at s k hlt, isFld_one] at h
        exact h
      have HN : fieldB (s.data.toList.getD k 0) = true → Hid (∀ j, j < k + 1 → fieldB (s.data.toList.getD j 0) = true) := fun h j hj => by
        by_cases hjk : j = k
        · subst hjk; exact h
        · exact hall.out j (by omega)
      have HF : fieldB (s.data.toList.getD k 0) = false → Hid (fnot fieldB s.data.toList = k) := fun h => tw_stop fieldB 0 _ k (by rw [size_list]; exact hlt) hall.out h
      generalize fieldB (s.data.toList.getD k 0) = b at HC HN HF
      cases b with
      | true =>
        have HN2 := HN rfl
        clear HF HN
        go_wp2_with fail
        refine HC.out.mono ?_
        rintro e w2 ⟨rfl, hb2⟩
        have HB2 : Hid (Below w.heap.size w w2) := bel_trans hbel.out hb2
        clear hb2
        go_wp2
        go_roundw
        case rel => exact ⟨k + 1, by omega, by go_num, HN2, HB2⟩
        case measure => simp [intOf]; omega
      | false =>
        have HF2 := HF rfl
        clear HN HF
        go_wp2_with fail
        refine HC.out.mono ?_
        rintro e w2 ⟨rfl, hb2⟩
        have HB2 : Hid (Below w.heap.size w w2) := bel_trans hbel.out hb2
        clear hb2
        go_wp2
        go_ret
        exact ⟨ret_int (by rw [HF2.out]), HB2.out⟩
    · have HE : Hid (fnot fieldB s.data.toList = s.size) := (tw_all fieldB 0 _ (fun j hj => hall.out j (by rw [size_list] at hj; omega))).trans (size_list s)
      go_wp2
      go_ret
      exact ⟨ret_int (by rw [HE.out]), hbel.out⟩
set_option maxHeartbeats 1000000 in
theorem nameFault_any (s : ByteArray) (hs : s.size ≤ maxLen) (w : World) (t : Tab w) :
    Calls Tryz.prog 141 #[.string s] w fun e w' => e = .returned (.int .i64 (min (fnot tokB s.data.toList) 128 : Nat)) ∧ Below w.heap.size w w' := by
  have HC : Hid (Calls Tryz.prog 159 #[.string s, .func (.func 131) #[] #[]] w fun e w' => e = .returned (.int .i64 (fnot tokB s.data.toList : Nat)) ∧ Below w.heap.size w w') := firstNot_tok s hs w t
  have hle := fnot_le tokB s.data.toList
  rw [size_list] at hle
  generalize fnot tokB s.data.toList = n at *
  unfold maxLen at hs
  clear t
  go_enter Tryz.func141, Tryz.ntmps141
  go_wp2_with fail
  refine HC.out.mono ?_
  rintro e w2 ⟨rfl, hb2⟩
  go_wp2
  go_ret
  exact ⟨ret_int (by omega), hb2⟩
end Fd
end Go.Proofs.YtdcfhnbagldilaaGreatDoor
set_option linter.unusedVariables false
set_option linter.unusedSimpArgs false
namespace Go.Proofs.YtdcfhnbagldilaaGreatDoor
open Go.RowKit Go.Shelf
namespace Fd
open Oc Tg
def ML (w : World) : Prop := ∃ m : Int, w.cell? ⟨2, 0, none⟩ = some (.int .i64 m)
theorem ML.below {w w' : World} (h : ML w) (hb : Below w.heap.size w w') : ML w' := by
  obtain ⟨m, hm⟩ := h
  exact ⟨m, (hb.cell (p := ⟨2, 0, none⟩) (World.block_lt_of_cell? w _ hm)).trans hm⟩
def Env (w : World) : Prop := Tab w ∧ ML w
theorem Env.below {w w' : World} (h : Env w) (hb : Below w.heap.size w w') : Env w' := ⟨h.1.below hb (Nat.le_refl _), h.2.below hb⟩
theorem Cut_any (s p : ByteArray) (hs : s.size ≤ 4000000000) (w : World) (h : ML w) :
    Calls Tryz.prog 140 #[.string s, .string p] w fun e w' => e = .returned (.tuple #[.string (str (Lib.cut s.data.toList p.data.toList).1), .string (str (Lib.cut s.data.toList p.data.toList).2.1), .bool (Lib.cut s.data.toList p.data.toList).2.2]) ∧ Below w.heap.size w w' := by
  obtain ⟨m, hm⟩ := h
  refine (Tryz.strings_Cut s p m w (by omega) hm).mono ?_
  rintro e w' ⟨rfl, n, rfl⟩
  exact ⟨rfl, ⟨rfl, rfl, rfl, Nat.le_refl _, fun _ _ => rfl⟩⟩
theorem Cut_one (s : ByteArray) (b : UInt8) (hs : s.size ≤ 4000000000) (w : World) (h : ML w) :
    Calls Tryz.prog 140 #[.string s, .string ⟨#[b]⟩] w fun e w' => e = .returned (.tuple #[.string (str (cutA b s.data.toList)), .string (str (cutB b s.data.toList)), .bool (has b s.data.toList)]) ∧ Below w.heap.size w w' := by
  have h := Cut_any s ⟨#[b]⟩ hs w h
  rw [show (⟨#[b]⟩ : ByteArray).data.toList = [b] from rfl, cut_one] at h
  exact h
theorem Index_any (s p : ByteArray) (hs : s.size ≤ 4000000000) (w : World) (h : ML w) :
    Calls Tryz.prog 160 #[.string s, .string p] w fun e w' => e = .returned (.int .i64 (Lib.index s.data.toList p.data.toList)) ∧ Below w.heap.size w w' := by
  obtain ⟨m, hm⟩ := h
  refine (Tryz.strings_Index s p m w (by omega) hm).mono ?_
  rintro e w' ⟨rfl, rfl⟩
  exact ⟨rfl, Below.refl _ _⟩
def vfault (l : List UInt8) : Nat := if isFld l then lead l + 8192 else fnot fieldB l
set_option maxHeartbeats 1000000 in
theorem valueFault_any (s : ByteArray) (hs : s.size ≤ 4000000000) (hv : isFld s.data.toList = true → trim s.data.toList ≠ []) (w : World) (hw : ML w) :
    Calls Tryz.prog 142 #[.string s] w fun e w' => e = .returned (.int .i64 (vfault s.data.toList : Nat)) ∧ Below w.heap.size w w' := by
  have HC : Hid (Calls Tryz.prog 159 #[.string s, .func (.func 84) #[] #[]] w fun e w' => e = .returned (.int .i64 (fnot fieldB s.data.toList : Nat)) ∧ Below w.heap.size w w') := firstNot_fld s (by unfold maxLen; omega) w
  have HW : Hid (ML w) := hw
  clear hw
  unfold vfault
  by_cases hf : isFld s.data.toList = true
  · rw [if_pos hf]
    have hfn := fnot_all fieldB s.data.toList hf
    rw [size_list] at hfn
    rw [hfn] at HC
    have HT : Hid (∀ w, Calls Tryz.prog 139 #[.string s] w fun e w' => e = .returned (.string (str (trim s.data.toList))) ∧ Below w.heap.size w w') := fun w => Trim_any s (by unfold maxLen; omega) w
    have HI : Hid (∀ w, ML w → Calls Tryz.prog 160 #[.string s, .string (str (trim s.data.toList))] w fun e w' => e = .returned (.int .i64 (lead s.data.toList : Nat)) ∧ Below w.heap.size w w') := fun w h => by
      have h := Index_any s (str (trim s.data.toList)) hs w h
      rw [str_list, index_trim _ (hv hf)] at h
      exact h
    have hle := lead_le s.data.toList
    rw [size_list] at hle
    clear hv hf hfn
    generalize str (trim s.data.toList) = u at *
    have hle2 : lead s.data.toList ≤ s.size := by omega
    clear hle
    generalize lead s.data.toList = n at *
    go_enter Tryz.func142, Tryz.ntmps142
    go_wp2_with fail
    refine HC.out.mono ?_
    rintro e w2 ⟨rfl, hb2⟩
    have HB2 : Hid (Below w.heap.size w w2) := hb2
    clear hb2
    go_wp2_with fail
    refine (HT.out _).mono ?_
    rintro e w3 ⟨rfl, hb3⟩
    have HB3 : Hid (Below w.heap.size w w3) := bel_trans HB2.out hb3
    clear hb3
    go_wp2_with fail
    refine (HI.out _ (HW.out.below HB3.out)).mono ?_
    rintro e w4 ⟨rfl, hb4⟩
    have HB4 : Hid (Below w.heap.size w w4) := bel_trans HB3.out hb4
    clear hb4
    go_wp2
    go_ret
    exact ⟨ret_int (by omega), HB4.out⟩
  · rw [if_neg hf]
    have hlt := fnot_lt fieldB s.data.toList (Bool.eq_false_iff.2 hf)
    rw [size_list] at hlt
    clear hf hv
    generalize fnot fieldB s.data.toList = n at *
    go_enter Tryz.func142, Tryz.ntmps142
    go_wp2_with fail
    refine HC.out.mono ?_
    rintro e w2 ⟨rfl, hb2⟩
    go_wp2
    go_ret
    exact ⟨rfl, hb2⟩
def fld (n v : ByteArray) : Value := .agg #[.string n, .string v]
set_option maxRecDepth 100000 in
set_option maxHeartbeats 1000000 in
theorem line_A (s : ByteArray) (u : ByteArray) (hs : s.size ≤ 4000000000) (he : s.toList.isEmpty = false) (hz : 1 ≤ s.size) (HT1 : Hid (∀ w, Calls Tryz.prog 139 #[.string (s.extract 0 1)] w fun e w' => e = .returned (.string u) ∧ Below w.heap.size w w')) (hu : u.toList.isEmpty = true) (w : World) (hw : Env w) :
    Calls Tryz.prog 121 #[.string s] w fun e w' => e = .returned (.tuple #[.agg #[.string ⟨#[]⟩, .string ⟨#[]⟩], .int .i64 0, .int .i64 63]) ∧ Below w.heap.size w w' := by
  obtain ⟨w2, hw2⟩ : ∃ w2, w2 = w.alloc (.cells #[.string ⟨#[]⟩, .string ⟨#[]⟩] 47) := ⟨_, rfl⟩
  have R1 : w2.heap[w.heap.size]? = some (.cells #[.string ⟨#[]⟩, .string ⟨#[]⟩] 47 (0, 0)) := by
    rw [hw2]; exact heap_alloc_new w _
  have hb2 : Below w.heap.size w w2 := by rw [hw2]; exact (Below.refl _ w).alloc (Nat.le_refl _) _
  have hz2 : w2.heap.size = w.heap.size + 1 := by rw [hw2]; simp
  have HR1 : Hid (_) := R1
  have HB2 : Hid (Below w.heap.size w w2) := hb2
  have HBw2 : Hid (Below w2.heap.size w2 w2) := Below.refl _ _
  have HE : Hid (Env w2) := hw.below hb2
  clear R1 hb2 hw
  go_enter Tryz.func121, Tryz.ntmps121
  go_wp2_with fail
  rw [← hw2]
  refine (HT1.out _).mono ?_
  rintro e w3 ⟨rfl, hb⟩
  have HBw3 : Hid (Below w2.heap.size w2 w3) := bel_trans HBw2.out hb
  clear hb
  have R1 := (HBw3.out.block _ (show w.heap.size < _ by omega)).trans HR1.out
  have c0 := Lib.cell_of_heap R1 0
  have c1 := Lib.cell_of_heap R1 1
  have fc0 := Lib.frozen_of_heap R1 0
  have fc1 := Lib.frozen_of_heap R1 1
  simp at c0 c1
  clear R1
  go_wp2
  refine bodyPost_ret (v := .tuple #[.agg #[.string ⟨#[]⟩, .string ⟨#[]⟩], .int .i64 0, .int .i64 63]) (by simp [results, Tryz.results121, go_sem, c0, c1]) rfl ?_
  exact ⟨rfl, (Below.setCell (p := ⟨w.heap.size, 1, none⟩) (Below.setCell (p := ⟨w.heap.size, 0, none⟩) (HB2.out.trans (HBw3.out.mono (by omega))) (by simp) _) (by simp) _)⟩
set_option maxRecDepth 100000 in
set_option maxHeartbeats 1000000 in
theorem line_B (s : ByteArray) (hs : s.size = 0) (he : s.toList.isEmpty = true) (n r : ByteArray) (HCut : Hid (∀ w, ML w → Calls Tryz.prog 140 #[.string s, .string ⟨#[58]⟩] w fun e w' => e = .returned (.tuple #[.string n, .string r, .bool false]) ∧ Below w.heap.size w w')) (w : World) (hw : Env w) :
    Calls Tryz.prog 121 #[.string s] w fun e w' => e = .returned (.tuple #[.agg #[.string ⟨#[]⟩, .string ⟨#[]⟩], .int .i64 0, .int .i64 62]) ∧ Below w.heap.size w w' := by
  obtain ⟨w2, hw2⟩ : ∃ w2, w2 = w.alloc (.cells #[.string ⟨#[]⟩, .string ⟨#[]⟩] 47) := ⟨_, rfl⟩
  have R1 : w2.heap[w.heap.size]? = some (.cells #[.string ⟨#[]⟩, .string ⟨#[]⟩] 47 (0, 0)) := by
    rw [hw2]; exact heap_alloc_new w _
  have hb2 : Below w.heap.size w w2 := by rw [hw2]; exact (Below.refl _ w).alloc (Nat.le_refl _) _
  have hz2 : w2.heap.size = w.heap.size + 1 := by rw [hw2]; simp
  have HR1 : Hid (_) := R1
  have HB2 : Hid (Below w.heap.size w w2) := hb2
  have HBw2 : Hid (Below w2.heap.size w2 w2) := Below.refl _ _
  have HE : Hid (Env w2) := hw.below hb2
  clear R1 hb2 hw
  go_enter Tryz.func121, Tryz.ntmps121
  go_wp2_with fail
  rw [← hw2]
  refine (HCut.out _ HE.out.2).mono ?_
  rintro e w4 ⟨rfl, hb⟩
  have HBw4 : Hid (Below w2.heap.size w2 w4) := bel_trans HBw2.out hb
  clear hb
  have R1 := (HBw4.out.block _ (show w.heap.size < _ by omega)).trans HR1.out
  have c0 := Lib.cell_of_heap R1 0
  have c1 := Lib.cell_of_heap R1 1
  have fc0 := Lib.frozen_of_heap R1 0
  have fc1 := Lib.frozen_of_heap R1 1
  simp at c0 c1
  clear R1
  go_wp2
  refine bodyPost_ret (v := .tuple #[.agg #[.string ⟨#[]⟩, .string ⟨#[]⟩], .int .i64 0, .int .i64 62]) (by simp [results, Tryz.results121, go_sem, c0, c1]) rfl ?_
  exact ⟨rfl, (Below.setCell (p := ⟨w.heap.size, 1, none⟩) (Below.setCell (p := ⟨w.heap.size, 0, none⟩) (HB2.out.trans (HBw4.out.mono (by omega))) (by simp) _) (by simp) _)⟩
set_option maxRecDepth 100000 in
set_option maxHeartbeats 1000000 in
theorem line_C (s : ByteArray) (u : ByteArray) (hs : s.size ≤ 4000000000) (he : s.toList.isEmpty = false) (hz : 1 ≤ s.size) (HT1 : Hid (∀ w, Calls Tryz.prog 139 #[.string (s.extract 0 1)] w fun e w' => e = .returned (.string u) ∧ Below w.heap.size w w')) (hu : u.toList.isEmpty = false) (n r : ByteArray) (HCut : Hid (∀ w, ML w → Calls Tryz.prog 140 #[.string s, .string ⟨#[58]⟩] w fun e w' => e = .returned (.tuple #[.string n, .string r, .bool false]) ∧ Below w.heap.size w w')) (w : World) (hw : Env w) :
    Calls Tryz.prog 121 #[.string s] w fun e w' => e = .returned (.tuple #[.agg #[.string ⟨#[]⟩, .string ⟨#[]⟩], .int .i64 (s.size : Int), .int .i64 62]) ∧ Below w.heap.size w w' := by
  obtain ⟨w2, hw2⟩ : ∃ w2, w2 = w.alloc (.cells #[.string ⟨#[]⟩, .string ⟨#[]⟩] 47) := ⟨_, rfl⟩
  have R1 : w2.heap[w.heap.size]? = some (.cells #[.string ⟨#[]⟩, .string ⟨#[]⟩] 47 (0, 0)) := by
    rw [hw2]; exact heap_alloc_new w _
  have hb2 : Below w.heap.size w w2 := by rw [hw2]; exact (Below.refl _ w).alloc (Nat.le_refl _) _
  have hz2 : w2.heap.size = w.heap.size + 1 := by rw [hw2]; simp
  have HR1 : Hid (_) := R1
  have HB2 : Hid (Below w.heap.size w w2) := hb2
  have HBw2 : Hid (Below w2.heap.size w2 w2) := Below.refl _ _
  have HE : Hid (Env w2) := hw.below hb2
  clear R1 hb2 hw
  go_enter Tryz.func121, Tryz.ntmps121
  go_wp2_with fail
  rw [← hw2]
  refine (HT1.out _).mono ?_
  rintro e w3 ⟨rfl, hb⟩
  have HBw3 : Hid (Below w2.heap.size w2 w3) := bel_trans HBw2.out hb
  clear hb
  go_wp2_with fail
  refine (HCut.out _ (HE.out.below HBw3.out).2).mono ?_
  rintro e w4 ⟨rfl, hb⟩
  have HBw4 : Hid (Below w2.heap.size w2 w4) := bel_trans HBw3.out hb
  clear hb
  have R1 := (HBw4.out.block _ (show w.heap.size < _ by omega)).trans HR1.out
  have c0 := Lib.cell_of_heap R1 0
  have c1 := Lib.cell_of_heap R1 1
  have fc0 := Lib.frozen_of_heap R1 0
  have fc1 := Lib.frozen_of_heap R1 1
  simp at c0 c1
  clear R1
  go_wp2
  refine bodyPost_ret (v := .tuple #[.agg #[.string ⟨#[]⟩, .string ⟨#[]⟩], .int .i64 (s.size : Int), .int .i64 62]) (by simp [results, Tryz.results121, go_sem, c0, c1]) rfl ?_
  exact ⟨rfl, (Below.setCell (p := ⟨w.heap.size, 1, none⟩) (Below.setCell (p := ⟨w.heap.size, 0, none⟩) (HB2.out.trans (HBw4.out.mono (by omega))) (by simp) _) (by simp) _)⟩
set_option maxRecDepth 100000 in
set_option maxHeartbeats 1000000 in
theorem line_D (s : ByteArray) (u : ByteArray) (hs : s.size ≤ 4000000000) (he : s.toList.isEmpty = false) (hz : 1 ≤ s.size) (HT1 : Hid (∀ w, Calls Tryz.prog 139 #[.string (s.extract 0 1)] w fun e w' => e = .returned (.string u) ∧ Below w.heap.size w w')) (hu : u.toList.isEmpty = false) (n r : ByteArray) (HCut : Hid (∀ w, ML w → Calls Tryz.prog 140 #[.string s, .string ⟨#[58]⟩] w fun e w' => e = .returned (.tuple #[.string n, .string r, .bool true]) ∧ Below w.heap.size w w')) (HN : Hid (∀ w, Tab w → Calls Tryz.prog 112 #[.string n] w fun e w' => e = .returned (.bool false) ∧ Below w.heap.size w w')) (k : Nat) (HF : Hid (∀ w, Tab w → Calls Tryz.prog 141 #[.string n] w fun e w' => e = .returned (.int .i64 (k : Int)) ∧ Below w.heap.size w w')) (w : World) (hw : Env w) :
    Calls Tryz.prog 121 #[.string s] w fun e w' => e = .returned (.tuple #[.agg #[.string ⟨#[]⟩, .string ⟨#[]⟩], .int .i64 (k : Int), .int .i64 60]) ∧ Below w.heap.size w w' := by
  obtain ⟨w2, hw2⟩ : ∃ w2, w2 = w.alloc (.cells #[.string ⟨#[]⟩, .string ⟨#[]⟩] 47) := ⟨_, rfl⟩
  have R1 : w2.heap[w.heap.size]? = some (.cells #[.string ⟨#[]⟩, .string ⟨#[]⟩] 47 (0, 0)) := by
    rw [hw2]; exact heap_alloc_new w _
  have hb2 : Below w.heap.size w w2 := by rw [hw2]; exact (Below.refl _ w).alloc (Nat.le_refl _) _
  have hz2 : w2.heap.size = w.heap.size + 1 := by rw [hw2]; simp
  have HR1 : Hid (_) := R1
  have HB2 : Hid (Below w.heap.size w w2) := hb2
  have HBw2 : Hid (Below w2.heap.size w2 w2) := Below.refl _ _
  have HE : Hid (Env w2) := hw.below hb2
  clear R1 hb2 hw
  go_enter Tryz.func121, Tryz.ntmps121
  go_wp2_with fail
  rw [← hw2]
  refine (HT1.out _).mono ?_
  rintro e w3 ⟨rfl, hb⟩
  have HBw3 : Hid (Below w2.heap.size w2 w3) := bel_trans HBw2.out hb
  clear hb
  go_wp2_with fail
  refine (HCut.out _ (HE.out.below HBw3.out).2).mono ?_
  rintro e w4 ⟨rfl, hb⟩
  have HBw4 : Hid (Below w2.heap.size w2 w4) := bel_trans HBw3.out hb
  clear hb
  go_wp2_with fail
  refine (HN.out _ (HE.out.below HBw4.out).1).mono ?_
  rintro e w5 ⟨rfl, hb⟩
  have HBw5 : Hid (Below w2.heap.size w2 w5) := bel_trans HBw4.out hb
  clear hb
  go_wp2_with fail
  refine (HF.out _ (HE.out.below HBw5.out).1).mono ?_
  rintro e w6 ⟨rfl, hb⟩
  have HBw6 : Hid (Below w2.heap.size w2 w6) := bel_trans HBw5.out hb
  clear hb
  have R1 := (HBw6.out.block _ (show w.heap.size < _ by omega)).trans HR1.out
  have c0 := Lib.cell_of_heap R1 0
  have c1 := Lib.cell_of_heap R1 1
  have fc0 := Lib.frozen_of_heap R1 0
  have fc1 := Lib.frozen_of_heap R1 1
  simp at c0 c1
  clear R1
  go_wp2
  refine bodyPost_ret (v := .tuple #[.agg #[.string ⟨#[]⟩, .string ⟨#[]⟩], .int .i64 (k : Int), .int .i64 60]) (by simp [results, Tryz.results121, go_sem, c0, c1]) rfl ?_
  exact ⟨rfl, (Below.setCell (p := ⟨w.heap.size, 1, none⟩) (Below.setCell (p := ⟨w.heap.size, 0, none⟩) (HB2.out.trans (HBw6.out.mono (by omega))) (by simp) _) (by simp) _)⟩
set_option maxRecDepth 100000 in
set_option maxHeartbeats 1000000 in
theorem line_E (s : ByteArray) (u : ByteArray) (hs : s.size ≤ 4000000000) (he : s.toList.isEmpty = false) (hz : 1 ≤ s.size) (HT1 : Hid (∀ w, Calls Tryz.prog 139 #[.string (s.extract 0 1)] w fun e w' => e = .returned (.string u) ∧ Below w.heap.size w w')) (hu : u.toList.isEmpty = false) (n r : ByteArray) (HCut : Hid (∀ w, ML w → Calls Tryz.prog 140 #[.string s, .string ⟨#[58]⟩] w fun e w' => e = .returned (.tuple #[.string n, .string r, .bool true]) ∧ Below w.heap.size w w')) (HN : Hid (∀ w, Tab w → Calls Tryz.prog 112 #[.string n] w fun e w' => e = .returned (.bool true) ∧ Below w.heap.size w w')) (v : ByteArray) (HV : Hid (∀ w, Calls Tryz.prog 139 #[.string r] w fun e w' => e = .returned (.string v) ∧ Below w.heap.size w w')) (HI : Hid (∀ w, Calls Tryz.prog 129 #[.string v] w fun e w' => e = .returned (.bool false) ∧ Below w.heap.size w w')) (k : Nat) (hk : k ≤ 4000010000) (hn : n.size ≤ 4000000000) (HG : Hid (∀ w, ML w → Calls Tryz.prog 142 #[.string r] w fun e w' => e = .returned (.int .i64 (k : Int)) ∧ Below w.heap.size w w')) (w : World) (hw : Env w) :
    Calls Tryz.prog 121 #[.string s] w fun e w' => e = .returned (.tuple #[.agg #[.string ⟨#[]⟩, .string ⟨#[]⟩], .int .i64 ((n.size : Int) + 1 + (k : Int)), .int .i64 61]) ∧ Below w.heap.size w w' := by
  obtain ⟨w2, hw2⟩ : ∃ w2, w2 = w.alloc (.cells #[.string ⟨#[]⟩, .string ⟨#[]⟩] 47) := ⟨_, rfl⟩
  have R1 : w2.heap[w.heap.size]? = some (.cells #[.string ⟨#[]⟩, .string ⟨#[]⟩] 47 (0, 0)) := by
    rw [hw2]; exact heap_alloc_new w _
  have hb2 : Below w.heap.size w w2 := by rw [hw2]; exact (Below.refl _ w).alloc (Nat.le_refl _) _
  have hz2 : w2.heap.size = w.heap.size + 1 := by rw [hw2]; simp
  have HR1 : Hid (_) := R1
  have HB2 : Hid (Below w.heap.size w w2) := hb2
  have HBw2 : Hid (Below w2.heap.size w2 w2) := Below.refl _ _
  have HE : Hid (Env w2) := hw.below hb2
  clear R1 hb2 hw
  go_enter Tryz.func121, Tryz.ntmps121
  go_wp2_with fail
  rw [← hw2]
  refine (HT1.out _).mono ?_
  rintro e w3 ⟨rfl, hb⟩
  have HBw3 : Hid (Below w2.heap.size w2 w3) := bel_trans HBw2.out hb
  clear hb
  go_wp2_with fail
  refine (HCut.out _ (HE.out.below HBw3.out).2).mono ?_
  rintro e w4 ⟨rfl, hb⟩
  have HBw4 : Hid (Below w2.heap.size w2 w4) := bel_trans HBw3.out hb
  clear hb
  go_wp2_with fail
  refine (HN.out _ (HE.out.below HBw4.out).1).mono ?_
  rintro e w5 ⟨rfl, hb⟩
  have HBw5 : Hid (Below w2.heap.size w2 w5) := bel_trans HBw4.out hb
  clear hb
  go_wp2_with fail
  refine (HV.out _).mono ?_
  rintro e w6 ⟨rfl, hb⟩
  have HBw6 : Hid (Below w2.heap.size w2 w6) := bel_trans HBw5.out hb
  clear hb
  go_wp2_with fail
  refine (HI.out _).mono ?_
  rintro e w7 ⟨rfl, hb⟩
  have HBw7 : Hid (Below w2.heap.size w2 w7) := bel_trans HBw6.out hb
  clear hb
  go_wp2_with fail
  refine (HG.out _ (HE.out.below HBw7.out).2).mono ?_
  rintro e w8 ⟨rfl, hb⟩
  have HBw8 : Hid (Below w2.heap.size w2 w8) := bel_trans HBw7.out hb
  clear hb
  have R1 := (HBw8.out.block _ (show w.heap.size < _ by omega)).trans HR1.out
  have c0 := Lib.cell_of_heap R1 0
  have c1 := Lib.cell_of_heap R1 1
  have fc0 := Lib.frozen_of_heap R1 0
  have fc1 := Lib.frozen_of_heap R1 1
  simp at c0 c1
  clear R1
  go_wp2
  refine bodyPost_ret (v := .tuple #[.agg #[.string ⟨#[]⟩, .string ⟨#[]⟩], .int .i64 ((n.size : Int) + 1 + (k : Int)), .int .i64 61]) (by simp [results, Tryz.results121, go_sem, c0, c1]) rfl ?_
  exact ⟨rfl, (Below.setCell (p := ⟨w.heap.size, 1, none⟩) (Below.setCell (p := ⟨w.heap.size, 0, none⟩) (HB2.out.trans (HBw8.out.mono (by omega))) (by simp) _) (by simp) _)⟩
set_option maxRecDepth 100000 in
set_option maxHeartbeats 1000000 in
theorem line_F (s : ByteArray) (u : ByteArray) (hs : s.size ≤ 4000000000) (he : s.toList.isEmpty = false) (hz : 1 ≤ s.size) (HT1 : Hid (∀ w, Calls Tryz.prog 139 #[.string (s.extract 0 1)] w fun e w' => e = .returned (.string u) ∧ Below w.heap.size w w')) (hu : u.toList.isEmpty = false) (n r : ByteArray) (HCut : Hid (∀ w, ML w → Calls Tryz.prog 140 #[.string s, .string ⟨#[58]⟩] w fun e w' => e = .returned (.tuple #[.string n, .string r, .bool true]) ∧ Below w.heap.size w w')) (HN : Hid (∀ w, Tab w → Calls Tryz.prog 112 #[.string n] w fun e w' => e = .returned (.bool true) ∧ Below w.heap.size w w')) (v : ByteArray) (HV : Hid (∀ w, Calls Tryz.prog 139 #[.string r] w fun e w' => e = .returned (.string v) ∧ Below w.heap.size w w')) (HI : Hid (∀ w, Calls Tryz.prog 129 #[.string v] w fun e w' => e = .returned (.bool true) ∧ Below w.heap.size w w')) (w : World) (hw : Env w) :
    Calls Tryz.prog 121 #[.string s] w fun e w' => e = .returned (.tuple #[.agg #[.string n, .string v], .int .i64 0, .int .i64 0]) ∧ Below w.heap.size w w' := by
  obtain ⟨w2, hw2⟩ : ∃ w2, w2 = w.alloc (.cells #[.string ⟨#[]⟩, .string ⟨#[]⟩] 47) := ⟨_, rfl⟩
  have R1 : w2.heap[w.heap.size]? = some (.cells #[.string ⟨#[]⟩, .string ⟨#[]⟩] 47 (0, 0)) := by
    rw [hw2]; exact heap_alloc_new w _
  have hb2 : Below w.heap.size w w2 := by rw [hw2]; exact (Below.refl _ w).alloc (Nat.le_refl _) _
  have hz2 : w2.heap.size = w.heap.size + 1 := by rw [hw2]; simp
  have HR1 : Hid (_) := R1
  have HB2 : Hid (Below w.heap.size w w2) := hb2
  have HBw2 : Hid (Below w2.heap.size w2 w2) := Below.refl _ _
  have HE : Hid (Env w2) := hw.below hb2
  clear R1 hb2 hw
  go_enter Tryz.func121, Tryz.ntmps121
  go_wp2_with fail
  rw [← hw2]
  refine (HT1.out _).mono ?_
  rintro e w3 ⟨rfl, hb⟩
  have HBw3 : Hid (Below w2.heap.size w2 w3) := bel_trans HBw2.out hb
  clear hb
  go_wp2_with fail
  refine (HCut.out _ (HE.out.below HBw3.out).2).mono ?_
  rintro e w4 ⟨rfl, hb⟩
  have HBw4 : Hid (Below w2.heap.size w2 w4) := bel_trans HBw3.out hb
  clear hb
  go_wp2_with fail
  refine (HN.out _ (HE.out.below HBw4.out).1).mono ?_
  rintro e w5 ⟨rfl, hb⟩
  have HBw5 : Hid (Below w2.heap.size w2 w5) := bel_trans HBw4.out hb
  clear hb
  go_wp2_with fail
  refine (HV.out _).mono ?_
  rintro e w6 ⟨rfl, hb⟩
  have HBw6 : Hid (Below w2.heap.size w2 w6) := bel_trans HBw5.out hb
  clear hb
  go_wp2_with fail
  refine (HI.out _).mono ?_
  rintro e w7 ⟨rfl, hb⟩
  have HBw7 : Hid (Below w2.heap.size w2 w7) := bel_trans HBw6.out hb
  clear hb
  have R1 := (HBw7.out.block _ (show w.heap.size < _ by omega)).trans HR1.out
  have c0 := Lib.cell_of_heap R1 0
  have c1 := Lib.cell_of_heap R1 1
  have fc0 := Lib.frozen_of_heap R1 0
  have fc1 := Lib.frozen_of_heap R1 1
  simp at c0 c1
  clear R1
  go_wp2
  refine bodyPost_ret (v := .tuple #[.agg #[.string n, .string v], .int .i64 0, .int .i64 0]) (by simp [results, Tryz.results121, go_sem, c0, c1]) rfl ?_
  exact ⟨rfl, (Below.setCell (p := ⟨w.heap.size, 1, none⟩) (Below.setCell (p := ⟨w.heap.size, 0, none⟩) (HB2.out.trans (HBw7.out.mono (by omega))) (by simp) _) (by simp) _)⟩
theorem empty_str {l : List UInt8} (h : l = []) : (str l).toList.isEmpty = true := empty_of (by rw [str_size, h]; rfl)
theorem nonempty_str {l : List UInt8} (h : l ≠ []) : (str l).toList.isEmpty = false := by
  rw [ByteArray.toList_eq, str_list]
  cases l with
  | nil => exact absurd rfl h
  | cons _ _ => rfl
def lineV (x : (List UInt8 × List UInt8) × Nat × Int) : Value := .tuple #[.agg #[.string (str x.1.1), .string (str x.1.2)], .int .i64 (x.2.1 : Nat), .int .i64 x.2.2]
theorem ParseLine_any (s : ByteArray) (hs : s.size ≤ 4000000000) (w : World) (hw : Env w) :
    Calls Tryz.prog 121 #[.string s] w fun e w' => e = .returned (lineV (parseL s.data.toList)) ∧ Below w.heap.size w w' := by
  have hml : s.size ≤ maxLen := by unfold maxLen; omega
  have HCut : Hid (∀ w, ML w → Calls Tryz.prog 140 #[.string s, .string ⟨#[58]⟩] w fun e w' => e = .returned (.tuple #[.string (str (cutA 58 s.data.toList)), .string (str (cutB 58 s.data.toList)), .bool (has 58 s.data.toList)]) ∧ Below w.heap.size w w') := fun w h => Cut_one s 58 hs w h
  have lA := cutA_len 58 s.data.toList
  have lB := cutB_len 58 s.data.toList
  rw [size_list] at lA lB
  by_cases hz : s.size = 0
  · have hl : s.data.toList = [] := List.length_eq_zero_iff.1 ((size_list s).trans hz)
    rw [show has 58 s.data.toList = false from by rw [hl]; rfl] at HCut
    have h := line_B s hz (empty_of hz) _ _ HCut w hw
    rw [hl]
    exact h
  · have he := nonempty_of hz
    obtain ⟨c, t, hl⟩ : ∃ c t, s.data.toList = c :: t := by
      cases e : s.data.toList with
      | nil => exact absurd e (list_ne hz)
      | cons c t => exact ⟨c, t, rfl⟩
    have h1 : (s.extract 0 1).data.toList = [c] := by rw [one_at s 0 (by omega), hl]; rfl
    have HT1 : Hid (∀ w, Calls Tryz.prog 139 #[.string (s.extract 0 1)] w fun e w' => e = .returned (.string (str (if blankB c then [] else [c]))) ∧ Below w.heap.size w w') := fun w => by
      have h := Trim_any (s.extract 0 1) (by simp; unfold maxLen; omega) w
      rw [h1, trim_one] at h
      exact h
    unfold parseL
    have hb0 : blank0 s.data.toList = blankB c := by rw [hl]; rfl
    rw [hb0]
    by_cases hb : blankB c = true
    · rw [if_pos hb] at HT1 ⊢
      exact line_A s _ hs he (by omega) HT1 (empty_str rfl) w hw
    · rw [if_neg hb] at HT1 ⊢
      have hu := nonempty_str (l := [c]) (by simp)
      by_cases hh : has 58 s.data.toList = true
      · rw [hh] at HCut
        rw [if_pos hh]
        have HN : Hid (∀ w, Tab w → Calls Tryz.prog 112 #[.string (str (cutA 58 s.data.toList))] w fun e w' => e = .returned (.bool (isName (cutA 58 s.data.toList))) ∧ Below w.heap.size w w') := fun w t => by
          have h := IsName_any (str (cutA 58 s.data.toList)) (by rw [str_size]; unfold maxLen; omega) w t
          rw [str_list] at h
          exact h
        by_cases hn : isName (cutA 58 s.data.toList) = true
        · rw [hn] at HN
          rw [if_pos hn]
          have HV : Hid (∀ w, Calls Tryz.prog 139 #[.string (str (cutB 58 s.data.toList))] w fun e w' => e = .returned (.string (str (trim (cutB 58 s.data.toList)))) ∧ Below w.heap.size w w') := fun w => by
            have h := Trim_any (str (cutB 58 s.data.toList)) (by rw [str_size]; unfold maxLen; omega) w
            rw [str_list] at h
            exact h
          have lT := trim_le (cutB 58 s.data.toList)
          have HI : Hid (∀ w, Calls Tryz.prog 129 #[.string (str (trim (cutB 58 s.data.toList)))] w fun e w' => e = .returned (.bool (isFld (cutB 58 s.data.toList) && decide ((trim (cutB 58 s.data.toList)).length ≤ 8192))) ∧ Below w.heap.size w w') := fun w => by
            have h := IsValue_any (str (trim (cutB 58 s.data.toList))) (by rw [str_size]; unfold maxLen; omega) w
            rw [str_list, isValue_trim] at h
            exact h
          have HG : (isFld (cutB 58 s.data.toList) = true → trim (cutB 58 s.data.toList) ≠ []) → Hid (∀ w, ML w → Calls Tryz.prog 142 #[.string (str (cutB 58 s.data.toList))] w fun e w' => e = .returned (.int .i64 (vfault (cutB 58 s.data.toList) : Nat)) ∧ Below w.heap.size w w') := fun h0 w hw => by
            have h := valueFault_any (str (cutB 58 s.data.toList)) (by rw [str_size]; omega) (by rw [str_list]; exact h0) w hw
            rw [str_list] at h
            exact h
          have lead0 := lead_le (cutB 58 s.data.toList)
          have fn0 := fnot_le fieldB (cutB 58 s.data.toList)
          by_cases hf : isFld (cutB 58 s.data.toList) = true
          · rw [if_pos hf]
            by_cases h8 : (trim (cutB 58 s.data.toList)).length ≤ 8192
            · rw [if_pos h8]
              rw [hf, decide_eq_true h8] at HI
              exact line_F s _ hs he (by omega) HT1 hu _ _ HCut HN _ HV HI w hw
            · rw [if_neg h8]
              rw [hf, decide_eq_false h8] at HI
              have HG := HG (fun _ e => h8 (by rw [e]; simp))
              rw [show vfault (cutB 58 s.data.toList) = lead (cutB 58 s.data.toList) + 8192 from by unfold vfault; rw [if_pos hf]] at HG
              have h := line_E s _ hs he (by omega) HT1 hu _ _ HCut HN _ HV HI _ (by omega) (by rw [str_size]; omega) HG w hw
              rw [str_size] at h
              refine h.mono ?_
              rintro e w' ⟨rfl, hb⟩
              refine ⟨?_, hb⟩
              unfold lineV
              rw [show (((cutA 58 s.data.toList).length : Int) + 1 + ((lead (cutB 58 s.data.toList) + 8192 : Nat) : Int)) = (((cutA 58 s.data.toList).length + 1 + (lead (cutB 58 s.data.toList) + 8192) : Nat) : Int) by omega]
              rfl
          · rw [if_neg hf]
            rw [show isFld (cutB 58 s.data.toList) = false by simpa using hf] at HI
            have HG := HG (fun e => absurd e hf)
            rw [show vfault (cutB 58 s.data.toList) = fnot fieldB (cutB 58 s.data.toList) from by unfold vfault; rw [if_neg hf]] at HG
            have h := line_E s _ hs he (by omega) HT1 hu _ _ HCut HN _ HV HI _ (by omega) (by rw [str_size]; omega) HG w hw
            rw [str_size] at h
            refine h.mono ?_
            rintro e w' ⟨rfl, hb⟩
            refine ⟨?_, hb⟩
            unfold lineV
            rw [show (((cutA 58 s.data.toList).length : Int) + 1 + ((fnot fieldB (cutB 58 s.data.toList) : Nat) : Int)) = (((cutA 58 s.data.toList).length + 1 + fnot fieldB (cutB 58 s.data.toList) : Nat) : Int) by omega]
            rfl
        · rw [if_neg hn]
          rw [show isName (cutA 58 s.data.toList) = false by simpa using hn] at HN
          have HF : Hid (∀ w, Tab w → Calls Tryz.prog 141 #[.string (str (cutA 58 s.data.toList))] w fun e w' => e = .returned (.int .i64 (min (fnot tokB (cutA 58 s.data.toList)) 128 : Nat)) ∧ Below w.heap.size w w') := fun w t => by
            have h := nameFault_any (str (cutA 58 s.data.toList)) (by rw [str_size]; unfold maxLen; omega) w t
            rw [str_list] at h
            exact h
          exact line_D s _ hs he (by omega) HT1 hu _ _ HCut HN _ HF w hw
      · rw [show has 58 s.data.toList = false by simpa using hh] at HCut
        rw [if_neg hh]
        have h := line_C s _ hs he (by omega) HT1 hu _ _ HCut w hw
        rw [← size_list] at h
        exact h
end Fd
end Go.Proofs.YtdcfhnbagldilaaGreatDoor
set_option linter.unusedVariables false
set_option linter.unusedSimpArgs false
namespace Go.Proofs.YtdcfhnbagldilaaGreatDoor
open Go.RowKit Go.Shelf
namespace Fd
open Oc Tg
abbrev Fl := List UInt8 × List UInt8
def encF1 (p : Fl) : List Value := [.string (str p.1), .string (str p.2)]
def encF (ps : List Fl) : List Value := ps.flatMap encF1
theorem encF_snoc (ps : List Fl) (p : Fl) : encF (ps ++ [p]) = encF ps ++ encF1 p := by unfold encF; rw [List.flatMap_append]; simp
theorem encF_len : ∀ ps : List Fl, (encF ps).length = ps.length * 2
  | [] => rfl
  | p :: ps => by
    have := encF_len ps
    unfold encF at *
    rw [List.flatMap_cons, List.length_append, this, List.length_cons]
    show 2 + _ = _
    omega
def OwnF (T B : Nat) (v : Value) (ps : List Fl) (w : World) : Prop := w.ownsRow B T 2 v ps.length (encF ps)
theorem ownF_nil (T B : Nat) (w : World) : OwnF T B (.slice none 0 0) [] w := World.ownsRow_nil w B T 2
theorem OwnF.below {T B : Nat} {v : Value} {t : List Fl} {w w' : World} (h : OwnF T B v t w) (b : Below w.heap.size w w') : OwnF T B v t w' := by
  refine ⟨h.1, ?_⟩
  rcases h.2 with hn | ⟨g, cap, cur, rfl, hb, hg, rest⟩
  · exact .inl hn
  · refine .inr ⟨g, cap, cur, rfl, hb, ?_, rest⟩
    have hlt : g < w.heap.size := by
      rcases Nat.lt_or_ge g w.heap.size with h | h
      · exact h
      · simp [Array.getElem?_eq_none h] at hg
    rw [b.block g hlt]
    exact hg
theorem wp_appF {ops : Array Oper} {rest : List Oper} {o : Oper} {a : Act} {Q : Exit → Act → World → Prop} (T S : Nat) (hinfo : (Tryz.prog.info? T).map (fun i => (i.zero, i.size, i.bytes)) = some (some (.agg #[.string ⟨#[]⟩, .string ⟨#[]⟩]), 2, 32))
    (hund : Tryz.prog.underlying S = some (.slice T)) (hgd : o.guard = none) (s x : Operand)
    (ho : o.op = .call { callee := .builtin .append, args := #[s, x], argTypes := #[S, S] }) (B : Nat) (v : Value) (t : List Fl) (W : World) (p : Fl) (n1 n2 : ByteArray) (h1 : n1 = str p.1) (h2 : n2 = str p.2)
    (hs : a.eval s = v) (hown : OwnF T B v t W) (g : Nat) (hx : a.eval x = .slice (some ⟨g, 0, none⟩) 1 1) (hg : g = W.heap.size) (hlen : t.length + 1 ≤ 2147483648) (hB : B ≤ W.heap.size)
    (h : ∀ v' w', OwnF T B v' (t ++ [p]) w' → Below B W w' → wpList Tryz.prog ops Q rest (a.put o.dst v') w') : wpList Tryz.prog ops Q (o :: rest) a (W.alloc (.cells #[.string n1, .string n2] T)) := by
  subst h1 h2 hg
  obtain ⟨i0, hi, hz0, hz1, hz2⟩ := info_parts hinfo
  refine wpList_append_own _ hgd s x S ho B T i0 (.agg #[.string ⟨#[]⟩, .string ⟨#[]⟩]) 2 32 hund hi hz0 hz1 hz2 rfl (by decide) v t.length _ hs (World.ownsRow.alloc hown _) ⟨W.heap.size, 0, none⟩ 1 1 (encF1 p) hx rfl ?_ ?_ ?_ ?_ ?_ ?_
  · intro j u hj
    unfold encF1 at hj
    match j, hj with
    | 0, hj => simp at hj; subst hj; simp [Addr.add]
    | 1, hj => simp at hj; subst hj; simp [Addr.add]
  · intro u hu
    unfold encF1 at hu
    simp at hu
    rcases hu with rfl | rfl <;> rfl
  · unfold maxLen; omega
  · omega
  · simp; omega
  · intro v' w' h1 h2 _
    refine h v' w' ?_ (((Below.refl B W).alloc hB _).grown h2 (by simp; omega) (fun k hk => (World.ownsRow.lt hown k hk).1))
    unfold OwnF
    rw [encF_snoc, List.length_append]
    exact h1
theorem infoF : (Tryz.prog.info? 47).map (fun i => (i.zero, i.size, i.bytes)) = some (some (.agg #[.string ⟨#[]⟩, .string ⟨#[]⟩]), 2, 32) := by kernel_rfl
def nth (t : List Fl) (j : Nat) : Fl := t.getD j ([], [])
def RdF (v : Value) (t : List Fl) (w : World) : Prop :=
  ∃ a c, v = .slice a t.length c ∧ (t = [] ∨ ∃ g o, a = some ⟨g, o, none⟩ ∧ t.length ≤ c ∧ ∀ j, j < t.length → w.cell? ⟨g, o + j * 2, none⟩ = some (.string (str (nth t j).1)) ∧ w.cell? ⟨g, o + j * 2 + 1, none⟩ = some (.string (str (nth t j).2)))
theorem encF_at : ∀ (t : List Fl) (j : Nat), j < t.length → (encF t)[j * 2]? = some (.string (str (nth t j).1)) ∧ (encF t)[j * 2 + 1]? = some (.string (str (nth t j).2))
  | [], j, h => by simp at h
  | p :: t, 0, _ => ⟨rfl, rfl⟩
  | p :: t, j + 1, h => by
    have ih := encF_at t j (by simpa using h)
    have e : encF (p :: t) = [.string (str p.1), .string (str p.2)] ++ encF t := rfl
    rw [e]
    have n : nth (p :: t) (j + 1) = nth t j := by unfold nth; simp
    rw [n, show (j + 1) * 2 = j * 2 + 2 by omega, show j * 2 + 2 + 1 = (j * 2 + 1) + 2 by omega]
    exact ih
theorem OwnF.rd {T B : Nat} {v : Value} {t : List Fl} {w : World} (h : OwnF T B v t w) : RdF v t w := by
  have hall := h
  rcases h.2 with ⟨rfl, h0⟩ | ⟨g, cap, cur, rfl, _, hg, hn, _⟩
  · exact ⟨none, 0, by rw [h0], .inl (List.length_eq_zero_iff.1 h0)⟩
  · refine ⟨_, _, rfl, .inr ⟨g, 0, rfl, by omega, fun j hj => ?_⟩⟩
    obtain ⟨e0, e1⟩ := encF_at t j hj
    have ea : ∀ k, Addr.add ⟨g, 0, none⟩ k = ⟨g, 0 + k, none⟩ := fun k => by unfold Addr.add; split <;> simp_all
    have c0 := World.ownsRow.cells hall (g := g) rfl _ _ e0
    have c1 := World.ownsRow.cells hall (g := g) rfl _ _ e1
    rw [ea] at c0 c1
    exact ⟨c0, c1⟩
theorem RdF.below {v : Value} {t : List Fl} {w w' : World} (h : RdF v t w) (b : Below w.heap.size w w') : RdF v t w' := by
  obtain ⟨a, c, rfl, h⟩ := h
  refine ⟨a, c, rfl, ?_⟩
  rcases h with h | ⟨g, o, e, hc, hcell⟩
  · exact .inl h
  · refine .inr ⟨g, o, e, hc, fun j hj => ?_⟩
    obtain ⟨h1, h2⟩ := hcell j hj
    rw [b.cell (p := ⟨g, o + j * 2, none⟩) (World.block_lt_of_cell? w _ h1), b.cell (p := ⟨g, o + j * 2 + 1, none⟩) (World.block_lt_of_cell? w _ h2)]
    exact ⟨h1, h2⟩
theorem infoF2 : (Tryz.prog.info? 64).map (fun i => (i.zero, i.size, i.bytes)) = some (some (.agg #[.string ⟨#[]⟩, .string ⟨#[]⟩]), 2, 32) := by kernel_rfl
theorem below_drew (w : World) (n : Nat) : Below w.heap.size w (w.drewN n) := below_drewN (Below.refl _ w) n
theorem RdF.drew {v : Value} {t : List Fl} {w : World} (h : RdF v t w) (n : Nat) : RdF v t (w.drewN n) := h.below (below_drew w n)
theorem take_nth (t : List Fl) (k : Nat) (h : k < t.length) : t.take (k + 1) = t.take k ++ [nth t k] := by
  unfold nth
  rw [List.take_add_one, List.getElem?_eq_getElem h, List.getD_eq_getElem?_getD, List.getElem?_eq_getElem h]; rfl
theorem rd_oneF (w : World) (T : Nat) (p : Fl) : RdF (.slice (some ⟨w.heap.size, 0, none⟩) 1 1) [p] (w.alloc (.cells #[.string (str p.1), .string (str p.2)] T)) := by
  refine ⟨_, _, rfl, .inr ⟨w.heap.size, 0, rfl, by simp, fun j hj => ?_⟩⟩
  obtain rfl : j = 0 := by simp at hj; omega
  exact ⟨by simp [nth], by simp [nth]⟩
end Fd
end Go.Proofs.YtdcfhnbagldilaaGreatDoor
set_option linter.unusedVariables false
set_option linter.unusedSimpArgs false
namespace Go.Proofs.YtdcfhnbagldilaaGreatDoor
namespace Oc
def qByte (c : UInt8) : List UInt8 := if c = 34 ∨ c = 92 then [92, c] else [c]
def qBody (l : List UInt8) : List UInt8 := l.flatMap qByte
def qText (l : List UInt8) : List UInt8 := 34 :: (qBody l ++ [34])
def quoteR (l : List UInt8) : List UInt8 × Int := if isFld l then (qText l, 0) else ([], 13)
theorem qBody_snoc (l : List UInt8) (c : UInt8) : qBody (l ++ [c]) = qBody l ++ qByte c := by unfold qBody; rw [List.flatMap_append]; simp
theorem qByte_le (c : UInt8) : (qByte c).length ≤ 2 := by unfold qByte; split <;> simp
theorem qBody_le : ∀ l : List UInt8, (qBody l).length ≤ 2 * l.length
  | [] => by simp [qBody]
  | c :: l => by
    have := qBody_le l
    have h := qByte_le c
    unfold qBody at *
    rw [List.flatMap_cons, List.length_append, List.length_cons]
    omega
def qscan : Bool → List UInt8 → Option Nat
  | _, [] => none
  | e, c :: l => if fieldB c = false then none else if e then (qscan false l).map (· + 1) else if c = 92 then (qscan true l).map (· + 1) else if c = 34 then some 1 else (qscan false l).map (· + 1)
def plusOne : Option Nat → Nat
  | some k => k + 1
  | none => 0
def qlen : List UInt8 → Nat
  | [] => 0
  | c :: l => if c = 34 then plusOne (qscan false l) else 0
theorem qlen_cons (c : UInt8) (l : List UInt8) : qlen (c :: l) = if c = 34 then plusOne (qscan false l) else 0 := rfl
def psay : Bool → List UInt8 → List UInt8
  | _, [] => []
  | e, c :: l => if c = 92 ∧ e = false then psay true l else c :: psay false l
def ru : Bool → List UInt8 → Option (List UInt8 × Nat)
  | _, [] => none
  | true, c :: l => if fieldB c then (ru false l).map (fun x => (c :: x.1, x.2 + 1)) else none
  | false, c :: l => if c = 34 then some ([], 1) else if c = 92 then (ru true l).map (fun x => (x.1, x.2 + 1)) else if fieldB c then (ru false l).map (fun x => (c :: x.1, x.2 + 1)) else none
theorem field34 : fieldB 34 = true := by decide
theorem field92 : fieldB 92 = true := by decide
theorem qscan_pos : ∀ (l : List UInt8) (e : Bool) (k : Nat), qscan e l = some k → 1 ≤ k ∧ k ≤ l.length
  | [], e, k, h => by simp [qscan] at h
  | c :: l, e, k, h => by
    unfold qscan at h
    split at h
    · cases h
    · split at h
      · obtain ⟨j, hj, rfl⟩ := Option.map_eq_some_iff.1 h
        have := qscan_pos l _ j hj
        simp; omega
      · split at h
        · obtain ⟨j, hj, rfl⟩ := Option.map_eq_some_iff.1 h
          have := qscan_pos l _ j hj
          simp; omega
        · split at h
          · cases h; simp
          · obtain ⟨j, hj, rfl⟩ := Option.map_eq_some_iff.1 h
            have := qscan_pos l _ j hj
            simp; omega
theorem ru_eq : ∀ (l : List UInt8) (e : Bool), ru e l = (qscan e l).map (fun k => (psay e (l.take (k - 1)), k))
  | [], e => by cases e <;> rfl
  | c :: l, true => by
    unfold ru qscan
    cases hf : fieldB c with
    | false => simp
    | true =>
      simp only [if_true, Bool.true_eq_false, if_false]
      rw [ru_eq l false]
      cases hq : qscan false l with
      | none => rfl
      | some k =>
        have hk := qscan_pos l false k hq
        simp only [Option.map_some, Option.some.injEq, Prod.mk.injEq, and_true]
        rw [show k + 1 - 1 = (k - 1) + 1 by omega, List.take_succ_cons, psay]
        simp
  | c :: l, false => by
    unfold ru qscan
    by_cases h34 : c = 34
    · subst h34
      simp [field34, psay]
    · rw [if_neg h34]
      by_cases h92 : c = 92
      · subst h92
        simp only [field92, if_true, Bool.true_eq_false, if_false, Bool.false_eq_true]
        rw [ru_eq l true]
        cases hq : qscan true l with
        | none => rfl
        | some k =>
          have hk := qscan_pos l true k hq
          simp only [Option.map_some, Option.some.injEq, Prod.mk.injEq, and_true]
          rw [show k + 1 - 1 = (k - 1) + 1 by omega, List.take_succ_cons, psay]
          simp
      · rw [if_neg h92]
        cases hf : fieldB c with
        | false => simp
        | true =>
          simp only [if_true, Bool.true_eq_false, if_false, Bool.false_eq_true, if_neg h92, if_neg h34]
          rw [ru_eq l false]
          cases hq : qscan false l with
          | none => rfl
          | some k =>
            have hk := qscan_pos l false k hq
            simp only [Option.map_some, Option.some.injEq, Prod.mk.injEq, and_true]
            rw [show k + 1 - 1 = (k - 1) + 1 by omega, List.take_succ_cons, psay]
            simp [h92]
def unqR (l : List UInt8) : List UInt8 × Int × Int :=
  if qlen l = 0 then ([], 0, 13) else (psay false ((l.drop 1).take (qlen l - 2)), (qlen l : Int), 0)
theorem qlen_bd (l : List UInt8) : qlen l ≤ l.length ∧ (qlen l ≠ 0 → 2 ≤ qlen l) := by
  cases l with
  | nil => simp [qlen]
  | cons c l =>
    by_cases hc : c = 34
    · cases hq : qscan false l with
      | none => simp [qlen, plusOne, hc, hq]
      | some k =>
        have := qscan_pos l false k hq
        have e : qlen (c :: l) = k + 1 := by simp [qlen, plusOne, hc, hq]
        rw [e]
        simp
        omega
    · simp [qlen, hc]
theorem psay_le : ∀ (l : List UInt8) (e : Bool), (psay e l).length ≤ l.length
  | [], e => by simp [psay]
  | c :: l, e => by
    unfold psay
    split
    · have := psay_le l true
      simp; omega
    · have := psay_le l false
      simp; omega
end Oc
end Go.Proofs.YtdcfhnbagldilaaGreatDoor
