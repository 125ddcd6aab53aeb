/-
  The document's small functions: in, IsUnreserved, isSub, triple, says.
-/
import Derived.Test.YtpoefoepmigbeaaDoorGOw
set_option linter.unusedVariables false
set_option linter.unusedSimpArgs false
namespace Go.Proofs.YtpoefoepmigbeaaDoor
open Go.RowKit Go.Shelf
namespace Tg
open Oc

theorem contains_of {c : UInt8} {s : ByteArray} {k : Nat} (hk : k < s.size) (h : byt s k = (c.toNat : Int)) : s.data.toList.contains c = true := by
  have : s.data.toList.getD k 0 = c := UInt8.toNat_inj.1 (by unfold byt at h; omega)
  rw [List.contains_iff_mem, ← this, List.getD_eq_getElem?_getD, List.getElem?_eq_getElem (by rw [size_list]; exact hk)]
  exact List.getElem_mem _
theorem contains_not {c : UInt8} {s : ByteArray} (h : ∀ k, k < s.size → byt s k ≠ (c.toNat : Int)) : s.data.toList.contains c = false := by
  cases hh : s.data.toList.contains c with
  | false => rfl
  | true =>
    rw [List.contains_iff_mem] at hh
    obtain ⟨k, hk, e⟩ := List.mem_iff_getElem.1 hh
    exfalso
    refine h k (by rw [← size_list]; exact hk) ?_
    unfold byt
    rw [List.getD_eq_getElem?_getD, List.getElem?_eq_getElem hk]
    simp [e]

theorem unr_eq (c : UInt8) : unr c = (lettI (c.toNat : Int) || digI (c.toNat : Int) || (⟨#[45, 46, 95, 126]⟩ : ByteArray).data.toList.contains c) := rfl

/-- A triple at a place. -/
theorem getD_of (s : ByteArray) (k : Nat) (h : k < s.size) : s.data.toList.getD k 0 = s[k] := at_lt s k h
theorem drop3 (s : ByteArray) (k : Nat) (h : k + 2 < s.size) : s.data.toList.drop k = s.data.toList.getD k 0 :: s.data.toList.getD (k + 1) 0 :: s.data.toList.getD (k + 2) 0 :: s.data.toList.drop (k + 3) := by
  rw [drop_cons s k (by omega), drop_cons s (k + 1) (by omega), drop_cons s (k + 2) (by omega)]
theorem trip_at (s : ByteArray) (k : Nat) (h : k + 2 < s.size) : trip (s.data.toList.drop k) = (s.data.toList.getD k 0 == 37 && (hx (s.data.toList.getD (k + 1) 0) && hx (s.data.toList.getD (k + 2) 0))) := by
  rw [drop3 s k h]; rfl
theorem trip_short (s : ByteArray) (k : Nat) (h : ¬ k + 2 < s.size) : trip (s.data.toList.drop k) = false := by
  cases hh : trip (s.data.toList.drop k) with
  | false => rfl
  | true => have := trip_len hh; rw [List.length_drop, size_list] at this; omega
theorem nxt3 (s : ByteArray) (k : Nat) (h : trip (s.data.toList.drop k) = true) : ∃ x : Sg, sg k (s.data.toList.drop k) = x :: sg (k + 3) (s.data.toList.drop (k + 3)) ∧ x.at_ = k ∧ x.z = [37, s.data.toList.getD (k + 1) 0, s.data.toList.getD (k + 2) 0] ∧ k + 2 < s.size := by
  have hl := trip_len h
  rw [List.length_drop, size_list] at hl
  refine ⟨_, by rw [sg_trip k _ h, List.drop_drop], rfl, ?_, by omega⟩
  dsimp only
  have h2 := trip_at s k (by omega)
  rw [h] at h2
  rw [drop3 s k (by omega)]
  have : s.data.toList.getD k 0 = 37 := by
    have := h2.symm
    simp only [Bool.and_eq_true, beq_iff_eq] at this
    exact this.1
  rw [this]
  rfl
theorem nxt1 (s : ByteArray) (k : Nat) (hk : k < s.size) (h : trip (s.data.toList.drop k) = false) : ∃ x : Sg, sg k (s.data.toList.drop k) = x :: sg (k + 1) (s.data.toList.drop (k + 1)) ∧ x.at_ = k ∧ x.z = [s.data.toList.getD k 0] := by
  rw [drop_cons s k hk] at h ⊢
  exact ⟨_, sg_one k _ _ h, rfl, rfl⟩

set_option maxRecDepth 100000 in
set_option maxHeartbeats 300000 in
theorem triple_any (s : ByteArray) (hs : s.size ≤ 140737488355328) (k : Nat) (hk : k ≤ s.size) (w : World) :
    Calls Tryd.prog 32 #[.string s, .int .i64 (k : Int)] w fun e w' => e = .returned (.bool (trip (s.data.toList.drop k))) ∧ w' = w := by
  by_cases h : k + 2 < s.size
  · have HT : Hid (_) := trip_at s k h
    have h0 : ((s[k].toNat : Nat) : Int) = ((s.data.toList.getD k 0).toNat : Int) := by rw [getD_of s k (by omega)]
    have h1 : ((s[k + 1].toNat : Nat) : Int) = ((s.data.toList.getD (k + 1) 0).toNat : Int) := by rw [getD_of s (k + 1) (by omega)]
    have h2 : ((s[k + 2].toNat : Nat) : Int) = ((s.data.toList.getD (k + 2) 0).toNat : Int) := by rw [getD_of s (k + 2) (by omega)]
    generalize s.data.toList.getD k 0 = c0 at *
    generalize s.data.toList.getD (k + 1) 0 = c1 at *
    generalize s.data.toList.getD (k + 2) 0 = c2 at *
    generalize trip (s.data.toList.drop k) = T at *
    have g1 := c1.toNat_lt
    have g2 := c2.toNat_lt
    have HA : Hid (∀ w, Calls Tryd.prog 49 #[.int .u8 (c1.toNat : Int)] w fun e w' => e = .returned (.bool (hx c1)) ∧ w' = w) := fun w => IsHex_any (c1.toNat : Int) (by omega) (by omega) w
    have HB : Hid (∀ w, Calls Tryd.prog 49 #[.int .u8 (c2.toNat : Int)] w fun e w' => e = .returned (.bool (hx c2)) ∧ w' = w) := fun w => IsHex_any (c2.toNat : Int) (by omega) (by omega) w
    generalize hx c1 = a at *
    generalize hx c2 = b at *
    by_cases hp : c0 = 37
    · have hp2 : ((c0.toNat : Int) == 37) = true := by rw [hp]; rfl
      have HT2 : Hid (T = (a && b)) := by
        have := HT.out
        rw [hp] at this
        exact this
      clear hp HT
      cases a with
      | false =>
        go_enter Tryd.func32, Tryd.ntmps32
        go_wp2_with (go_at_call 49; refine (HA.out _).mono ?_; rintro e w1 ⟨rfl, rfl⟩)
        go_ret
        exact ⟨ret_bool (by rw [HT2.out]; rfl), rfl⟩
      | true =>
        go_enter Tryd.func32, Tryd.ntmps32
        go_wp2_with fail
        refine (HA.out _).mono ?_
        rintro e w1 ⟨rfl, rfl⟩
        go_wp2_with fail
        refine (HB.out _).mono ?_
        rintro e w1 ⟨rfl, rfl⟩
        go_wp2
        go_ret
        exact ⟨ret_bool (by rw [HT2.out]; rfl), rfl⟩
    · have hp2 : ((c0.toNat : Int) == 37) = false := by
        rw [beq_eq_false_iff_ne]
        intro e
        exact hp (UInt8.toNat_inj.1 (by show _ = 37; omega))
      have HT2 : Hid (T = false) := by
        have := HT.out
        rw [show (c0 == 37) = false from by rw [beq_eq_false_iff_ne]; exact hp, Bool.false_and] at this
        exact this
      clear hp HT
      go_enter Tryd.func32, Tryd.ntmps32
      go_wp2
      go_ret
      exact ⟨ret_bool HT2.out.symm, rfl⟩
  · have HT : Hid (_) := trip_short s k h
    generalize trip (s.data.toList.drop k) = T at *
    have hl : ¬ (k : Int) + 2 < (s.size : Int) := by omega
    go_enter Tryd.func32, Tryd.ntmps32
    go_wp2
    go_ret
    exact ⟨ret_bool HT.out.symm, rfl⟩

set_option maxRecDepth 100000 in
set_option maxHeartbeats 300000 in
theorem says_any (s : ByteArray) (hs : s.size ≤ 140737488355328) (k : Nat) (h : k + 2 < s.size) (ht : trip (s.data.toList.drop k) = true) (w : World) :
    Calls Tryd.prog 33 #[.string s, .int .i64 (k : Int)] w fun e w' => e = .returned (.int .u8 ((byteOf (s.data.toList.getD (k + 1) 0) (s.data.toList.getD (k + 2) 0)).toNat : Int)) ∧ w' = w := by
  have h2 := trip_at s k h
  rw [ht] at h2
  have hh : (hx (s.data.toList.getD (k + 1) 0) && hx (s.data.toList.getD (k + 2) 0)) = true := by
    have := h2.symm
    rw [Bool.and_eq_true] at this
    exact this.2
  have he : s.extract (k + 1) (k + 3) = ⟨#[s.data.toList.getD (k + 1) 0, s.data.toList.getD (k + 2) 0]⟩ := eq_list (by
    rw [ext_list, drop_cons s (k + 1) (by omega), drop_cons s (k + 2) (by omega), show k + 3 - (k + 1) = 2 by omega]; rfl)
  clear h2 ht
  generalize s.data.toList.getD (k + 1) 0 = c1 at *
  generalize s.data.toList.getD (k + 2) 0 = c2 at *
  have HC : Hid (∀ w, Calls Tryd.prog 50 #[.string (s.extract (k + 1) (k + 3)), .int .i64 255] w fun e w' => e = .returned (.tuple #[.int .i64 ((byteOf c1 c2).toNat : Int), .int .i64 0]) ∧ w' = w) := fun w => by
    have := rHex_any (⟨#[c1, c2]⟩ : ByteArray) (by show 2 ≤ maxLen; unfold maxLen; decide) 255 (by omega) (by omega) w
    rw [show (⟨#[c1, c2]⟩ : ByteArray).data.toList = [c1, c2] from rfl, num_two, if_pos hh] at this
    rw [he]
    exact this
  have h1 := (byteOf c1 c2).toNat_lt
  clear hh he
  generalize (byteOf c1 c2).toNat = n at *
  have h3 : (n : Int) % 256 = n := by omega
  go_enter Tryd.func33, Tryd.ntmps33
  go_wp2_with (refine (HC.out _).mono ?_; rintro e w1 ⟨rfl, rfl⟩)
  go_ret
  exact ⟨ret_int (by simp), rfl⟩

end Tg
end Go.Proofs.YtpoefoepmigbeaaDoor
