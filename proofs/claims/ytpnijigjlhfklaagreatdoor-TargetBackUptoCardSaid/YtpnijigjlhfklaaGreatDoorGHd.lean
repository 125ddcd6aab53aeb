/-
  target: isHost, readPort, hostLength, Authority.
-/
import Derived.Test.YtpnijigjlhfklaaGreatDoorGHc
set_option linter.unusedVariables false
set_option linter.unusedSimpArgs false
set_option maxRecDepth 100000
namespace Go.Proofs.YtpnijigjlhfklaaGreatDoor
open Go.RowKit Go.Shelf
namespace Tg
open Oc

def hostR (l : List UInt8) : Bool :=
  if Lib.hasPrefix l [91] && Lib.hasSuffix l [93] then addrR ((l.drop 1).take (l.length - 2)) else decide (l ≠ []) && allOk nameOk l
def portR (l : List UInt8) : Int × Bool :=
  if l = [] ∨ l = [58] then (-1, true)
  else if Lib.hasPrefix l [58] = false ∨ 5 < (Lib.trimPrefix l [58]).length then (0, false)
  else ((numR 10 (Lib.trimPrefix l [58]) 65535).1, decide ((numR 10 (Lib.trimPrefix l [58]) 65535).2 = 0))
def hlR (l : List UInt8) : Nat :=
  if Lib.hasPrefix l [91] then (Lib.indexByte l 93 + 1).toNat else if 0 ≤ Lib.indexByte l 58 then (Lib.indexByte l 58).toNat else l.length
/-- What Authority answers. -/
def authP (l : List UInt8) : List UInt8 × Int × Int :=
  if (portR (l.drop (hlR l))).2 = false ∨ hostR (l.take (hlR l)) = false then ([], 0, 52) else (lower (l.take (hlR l)), (portR (l.drop (hlR l))).1, 0)
theorem ib_lt (l : List UInt8) (c : UInt8) : Lib.indexByte l c < l.length := by
  induction l with
  | nil => show (-1 : Int) < 0; decide
  | cons x t ih =>
    unfold Lib.indexByte
    split
    · simp only [List.length_cons]; omega
    · split
      · simp only [List.length_cons]; omega
      · simp only [List.length_cons]; omega
theorem hlR_le (l : List UInt8) : hlR l ≤ l.length := by
  have h1 := ib_lt l 93
  have h2 := ib_lt l 58
  unfold hlR
  split
  · omega
  · split
    · omega
    · omega

set_option maxHeartbeats 1000000 in
theorem hostLength_any (s : ByteArray) (hs : s.size ≤ 4000000) (w : World) :
    Calls Tryz.prog 70 #[.string s] w fun e w' => e = .returned (.int .i64 (hlR s.data.toList : Int)) ∧ w' = w := by
  have HP : Hid (∀ w, Calls Tryz.prog 67 #[.string s, .string ⟨#[91]⟩] w fun e w' => e = .returned (.bool (Lib.hasPrefix s.data.toList [91])) ∧ w' = w) := fun w => Tryz.strings_HasPrefix s ⟨#[91]⟩ w
  have HI : Hid (∀ w, Calls Tryz.prog 91 #[.string s, .int .u8 93] w fun e w' => e = .returned (.int .i64 (Lib.indexByte s.data.toList 93)) ∧ w' = w) := fun w => Tryz.strings_IndexByte s 93 w
  have HJ : Hid (∀ w, Calls Tryz.prog 91 #[.string s, .int .u8 58] w fun e w' => e = .returned (.int .i64 (Lib.indexByte s.data.toList 58)) ∧ w' = w) := fun w => Tryz.strings_IndexByte s 58 w
  have h1 := ib_lt s.data.toList 93
  have h2 := ib_lt s.data.toList 58
  have h3 := Lib.indexByte_ge s.data.toList 93
  have h4 := Lib.indexByte_ge s.data.toList 58
  rw [size_list] at h1 h2
  have HH : Hid (hlR s.data.toList = if Lib.hasPrefix s.data.toList [91] then (Lib.indexByte s.data.toList 93 + 1).toNat else if 0 ≤ Lib.indexByte s.data.toList 58 then (Lib.indexByte s.data.toList 58).toNat else s.size) := (by unfold hlR; rw [size_list] : _ = _)
  rw [HH.out]
  clear HH
  generalize Lib.indexByte s.data.toList 93 = x at *
  generalize Lib.indexByte s.data.toList 58 = y at *
  generalize Lib.hasPrefix s.data.toList [91] = b at *
  cases b with
  | true =>
    rw [if_pos rfl]
    have hw : IntKind.i64.wrap (x + 1) = x + 1 := by rw [IntKind.wrap_i64]; omega
    have hx : ((x + 1).toNat : Int) = x + 1 := by omega
    rw [hx]
    go_enter Tryz.func70, Tryz.ntmps70
    go_wp2_with fail
    refine (HP.out _).mono ?_
    rintro e w1 ⟨rfl, hw1⟩
    rw [hw1]
    clear hw1
    go_wp2_with fail
    refine (HI.out _).mono ?_
    rintro e w2 ⟨rfl, hw2⟩
    rw [hw2]
    clear hw2
    go_wp2
    go_ret
    exact ⟨rfl, rfl⟩
  | false =>
    rw [if_neg (show ¬ (false = true) by simp)]
    by_cases hy : 0 ≤ y
    · rw [if_pos hy]
      have hx : (y.toNat : Int) = y := by omega
      rw [hx]
      go_enter Tryz.func70, Tryz.ntmps70
      go_wp2_with fail
      refine (HP.out _).mono ?_
      rintro e w1 ⟨rfl, hw1⟩
      rw [hw1]
      clear hw1
      go_wp2_with fail
      refine (HJ.out _).mono ?_
      rintro e w2 ⟨rfl, hw2⟩
      rw [hw2]
      clear hw2
      go_wp2
      go_ret
      exact ⟨rfl, rfl⟩
    · rw [if_neg hy]
      go_enter Tryz.func70, Tryz.ntmps70
      go_wp2_with fail
      refine (HP.out _).mono ?_
      rintro e w1 ⟨rfl, hw1⟩
      rw [hw1]
      clear hw1
      go_wp2_with fail
      refine (HJ.out _).mono ?_
      rintro e w2 ⟨rfl, hw2⟩
      rw [hw2]
      clear hw2
      go_wp2
      go_ret
      exact ⟨rfl, rfl⟩

theorem trim_len (l p : List UInt8) : (Lib.trimPrefix l p).length ≤ l.length := by
  unfold Lib.trimPrefix
  split
  · rw [List.length_drop]; omega
  · exact Nat.le_refl _

set_option maxHeartbeats 2000000 in
theorem readPort_any (s : ByteArray) (hs : s.size ≤ 4000000) (w : World) :
    Calls Tryz.prog 71 #[.string s] w fun e w' => e = .returned (.tuple #[.int .i64 (portR s.data.toList).1, .bool (portR s.data.toList).2]) ∧ Below w.heap.size w w' := by
  by_cases h0 : s.size = 0
  · have hE : s.toList.isEmpty = true := empty_of h0
    have HR : Hid (portR s.data.toList = (-1, true)) := (by unfold portR; rw [if_pos (.inl (List.length_eq_zero_iff.1 (by rw [size_list]; exact h0)))] : _ = _)
    go_enter Tryz.func71, Tryz.ntmps71
    go_wp2
    go_ret2
    rw [HR.out]
    exact ⟨rfl, Below.refl _ _⟩
  have hE : s.toList.isEmpty = false := nonempty_of h0
  have hl0 : s.data.toList ≠ [] := fun e => h0 (by rw [← size_list, e]; rfl)
  by_cases h1 : s = ⟨#[58]⟩
  · have hq : (s.toList == [58]) = true := by rw [← show (⟨#[58]⟩ : ByteArray).toList = [58] by simp [ByteArray.toList_eq], eq_toList]; simp [h1]
    have HR : Hid (portR s.data.toList = (-1, true)) := (by unfold portR; rw [if_pos (.inr (by rw [h1]))] : _ = _)
    clear h1
    go_enter Tryz.func71, Tryz.ntmps71
    go_wp2
    go_ret2
    rw [HR.out]
    exact ⟨rfl, Below.refl _ _⟩
  have hq : (s.toList == [58]) = false := by rw [← show (⟨#[58]⟩ : ByteArray).toList = [58] by simp [ByteArray.toList_eq], eq_toList]; simp [h1]
  have hl1 : s.data.toList ≠ [58] := fun e => h1 (eq_list (by rw [e]))
  have HR : Hid (portR s.data.toList = if Lib.hasPrefix s.data.toList [58] = false ∨ 5 < (Lib.trimPrefix s.data.toList [58]).length then (0, false) else ((numR 10 (Lib.trimPrefix s.data.toList [58]) 65535).1, decide ((numR 10 (Lib.trimPrefix s.data.toList [58]) 65535).2 = 0))) := (by unfold portR; rw [if_neg (fun e => e.elim hl0 hl1)] : _ = _)
  have HP : Hid (∀ w, Calls Tryz.prog 92 #[.string s, .string ⟨#[58]⟩] w fun e w' => e = .returned (.tuple #[.string (str (Lib.trimPrefix s.data.toList [58])), .bool (Lib.hasPrefix s.data.toList [58])]) ∧ w' = w) := fun w => Tryz.strings_CutPrefix s ⟨#[58]⟩ w
  have htl := trim_len s.data.toList [58]
  rw [size_list] at htl
  have HD : Hid (∀ w, Calls Tryz.prog 93 #[.string (str (Lib.trimPrefix s.data.toList [58])), .int .i64 65535] w fun e w' => e = .returned (.tuple #[.int .i64 (numR 10 (Lib.trimPrefix s.data.toList [58]) 65535).1, .int .i64 (numR 10 (Lib.trimPrefix s.data.toList [58]) 65535).2]) ∧ Below w.heap.size w w') := fun w => by
    have := Decimal_any (str (Lib.trimPrefix s.data.toList [58])) (by rw [str_size]; unfold maxLen; omega) 65535 (by decide) (by decide) w
    rw [str_list] at this
    exact this
  have hts := str_size (Lib.trimPrefix s.data.toList [58])
  clear h0 hl0 hl1 h1 htl
  generalize str (Lib.trimPrefix s.data.toList [58]) = T at *
  generalize (numR 10 (Lib.trimPrefix s.data.toList [58]) 65535).1 = X at *
  generalize (numR 10 (Lib.trimPrefix s.data.toList [58]) 65535).2 = E at *
  generalize Lib.hasPrefix s.data.toList [58] = b at *
  rw [← hts] at HR
  clear hts
  cases b with
  | false =>
    rw [if_pos (.inl rfl)] at HR
    go_enter Tryz.func71, Tryz.ntmps71
    go_wp2_with fail
    refine (HP.out _).mono ?_
    rintro e w1 ⟨rfl, hw1⟩
    rw [hw1]
    clear hw1
    go_wp2
    go_ret2
    rw [HR.out]
    exact ⟨rfl, Below.refl _ _⟩
  | true =>
    by_cases h5 : 5 < T.size
    · rw [if_pos (.inr h5)] at HR
      have h5' : (5 : Int) < (T.size : Int) := by omega
      go_enter Tryz.func71, Tryz.ntmps71
      go_wp2_with fail
      refine (HP.out _).mono ?_
      rintro e w1 ⟨rfl, hw1⟩
      rw [hw1]
      clear hw1
      go_wp2
      go_ret2
      rw [HR.out]
      exact ⟨rfl, Below.refl _ _⟩
    · rw [if_neg (fun e => e.elim (by simp) h5)] at HR
      have h5' : ¬ (5 : Int) < (T.size : Int) := by omega
      have HEq : Hid (decide (E = 0) = (E == 0)) := (by rw [Bool.eq_iff_iff]; simp : _ = _)
      go_enter Tryz.func71, Tryz.ntmps71
      go_wp2_with fail
      refine (HP.out _).mono ?_
      rintro e w1 ⟨rfl, hw1⟩
      rw [hw1]
      clear hw1
      go_wp2_with fail
      refine (HD.out _).mono ?_
      rintro e w2 ⟨rfl, hb2⟩
      have HB2 : Hid (Below w.heap.size w w2) := hb2
      clear hb2
      go_wp2
      go_ret2
      rw [HR.out]
      refine ⟨?_, HB2.out⟩
      dsimp only
      rw [HEq.out]
      rfl

set_option maxHeartbeats 2000000 in
theorem isHost_any (s : ByteArray) (hs : s.size ≤ 4000000) (w : World) (he : HE w) :
    Calls Tryz.prog 72 #[.string s] w fun e w' => e = .returned (.bool (hostR s.data.toList)) ∧ Below w.heap.size w w' := by
  have HP : Hid (∀ w, Calls Tryz.prog 67 #[.string s, .string ⟨#[91]⟩] w fun e w' => e = .returned (.bool (Lib.hasPrefix s.data.toList [91])) ∧ w' = w) := fun w => Tryz.strings_HasPrefix s ⟨#[91]⟩ w
  have HSf : Hid (∀ w, Calls Tryz.prog 94 #[.string s, .string ⟨#[93]⟩] w fun e w' => e = .returned (.bool (Lib.hasSuffix s.data.toList [93])) ∧ w' = w) := fun w => Tryz.strings_HasSuffix s ⟨#[93]⟩ w (by omega)
  have HIs : Hid (∀ w, Calls Tryz.prog 68 #[.string s, .int .u8 3] w fun e w' => e = .returned (.bool (allOk nameOk s.data.toList)) ∧ Below w.heap.size w w') := fun w => isOf_any s (by omega) 3 nameOk ok_name name37 w
  have HEn : Hid (HE w) := he
  have HHo : Hid (hostR s.data.toList = if Lib.hasPrefix s.data.toList [91] && Lib.hasSuffix s.data.toList [93] then addrR ((s.data.toList.drop 1).take (s.size - 2)) else decide (s.data.toList ≠ []) && allOk nameOk s.data.toList) := (by unfold hostR; rw [size_list] : _ = _)
  have h2 : Lib.hasPrefix s.data.toList [91] = true → Lib.hasSuffix s.data.toList [93] = true → 2 ≤ s.size := fun h1 h2 => by
    rw [← size_list]
    revert h1 h2
    cases s.data.toList with
    | nil => intro h1; revert h1; decide
    | cons x t =>
      cases t with
      | cons y t => intro _ _; simp
      | nil =>
        intro h1 h2
        have e1 : 91 = x := by simpa [Lib.hasPrefix] using h1
        subst e1
        revert h2
        decide
  clear he
  cases hb : (Lib.hasPrefix s.data.toList [91] && Lib.hasSuffix s.data.toList [93]) with
  | true =>
    rw [hb, if_pos rfl] at HHo
    rw [Bool.and_eq_true] at hb
    have hsz := h2 hb.1 hb.2
    rw [hb.1] at HP
    rw [hb.2] at HSf
    have hex : (s.extract 1 (s.size - 1)).data.toList = (s.data.toList.drop 1).take (s.size - 2) := by
      rw [ext_list]
      congr 1
    have hes : (s.extract 1 (s.size - 1)).size ≤ 4000000 := by rw [ByteArray.size_extract]; omega
    have HAd : Hid (∀ w, HE w → Calls Tryz.prog 95 #[.string (s.extract 1 (s.size - 1))] w fun e w' => e = .returned (.bool (addrR ((s.data.toList.drop 1).take (s.size - 2)))) ∧ Below w.heap.size w w') := fun w hw => by
      have := isAddress_any (s.extract 1 (s.size - 1)) hes w hw
      rw [hex] at this
      exact this
    have hi1 : ((s.size : Nat) : Int) - 1 = ((s.size - 1 : Nat) : Int) := by omega
    have hi2 : (1 : Int) ≤ ((s.size : Nat) : Int) - 1 := by omega
    have hi3 : ((s.size : Nat) : Int) - 1 ≤ (s.size : Int) := by omega
    have hi4 : (((s.size : Nat) : Int) - 1).toNat = s.size - 1 := by omega
    clear hb h2 hex hi1
    generalize addrR ((s.data.toList.drop 1).take (s.size - 2)) = R at *
    go_enter Tryz.func72, Tryz.ntmps72
    go_wp2_with fail
    refine (HP.out _).mono ?_
    rintro e w1 ⟨rfl, hw1⟩
    rw [hw1]
    clear hw1
    go_wp2_with fail
    refine (HSf.out _).mono ?_
    rintro e w1 ⟨rfl, hw1⟩
    rw [hw1]
    clear hw1
    go_wp2_with fail
    refine (HAd.out _ HEn.out).mono ?_
    rintro e w3 ⟨rfl, hb3⟩
    have HB3 : Hid (Below w.heap.size w w3) := hb3
    clear hb3
    go_wp2
    go_ret
    rw [HHo.out]
    exact ⟨rfl, HB3.out⟩
  | false =>
    rw [hb, if_neg (by simp)] at HHo
    have HNe : Hid (decide (s.data.toList ≠ []) = !s.toList.isEmpty) := (by
      rw [ByteArray.toList_eq, Bool.eq_iff_iff]
      simp : _ = _)
    rw [HNe.out] at HHo
    generalize allOk nameOk s.data.toList = R at *
    clear h2
    cases hp : Lib.hasPrefix s.data.toList [91] with
    | false =>
      rw [hp] at HP
      cases hE : s.toList.isEmpty with
      | true =>
        rw [hE] at HHo
        clear hp hb
        go_enter Tryz.func72, Tryz.ntmps72
        go_wp2_with fail
        refine (HP.out _).mono ?_
        rintro e w1 ⟨rfl, hw1⟩
        rw [hw1]
        clear hw1
        go_wp2
        go_ret
        rw [HHo.out]
        exact ⟨rfl, Below.refl _ _⟩
      | false =>
        rw [hE] at HHo
        clear hp hb
        go_enter Tryz.func72, Tryz.ntmps72
        go_wp2_with fail
        refine (HP.out _).mono ?_
        rintro e w1 ⟨rfl, hw1⟩
        rw [hw1]
        clear hw1
        go_wp2_with fail
        refine (HIs.out _).mono ?_
        rintro e w3 ⟨rfl, hb3⟩
        have HB3 : Hid (Below w.heap.size w w3) := hb3
        clear hb3
        go_wp2
        go_ret
        rw [HHo.out]
        exact ⟨rfl, HB3.out⟩
    | true =>
      rw [hp] at HP hb
      rw [Bool.true_and] at hb
      rw [hb] at HSf
      have hE : s.toList.isEmpty = false := by
        cases hh : s.toList.isEmpty with
        | false => rfl
        | true =>
          rw [List.isEmpty_iff, ByteArray.toList_eq] at hh
          rw [hh] at hp
          revert hp
          decide
      rw [hE] at HHo
      clear hp hb
      go_enter Tryz.func72, Tryz.ntmps72
      go_wp2_with fail
      refine (HP.out _).mono ?_
      rintro e w1 ⟨rfl, hw1⟩
      rw [hw1]
      clear hw1
      go_wp2_with fail
      refine (HSf.out _).mono ?_
      rintro e w1 ⟨rfl, hw1⟩
      rw [hw1]
      clear hw1
      go_wp2_with fail
      refine (HIs.out _).mono ?_
      rintro e w3 ⟨rfl, hb3⟩
      have HB3 : Hid (Below w.heap.size w w3) := hb3
      clear hb3
      go_wp2
      go_ret
      rw [HHo.out]
      exact ⟨rfl, HB3.out⟩

set_option maxHeartbeats 2000000 in
theorem Authority_any (s : ByteArray) (hs : s.size ≤ 4000000) (w : World) (he : HE w) :
    Calls Tryz.prog 44 #[.string s] w fun e w' => e = .returned (.tuple #[.string (str (authP s.data.toList).1), .int .i64 (authP s.data.toList).2.1, .int .i64 (authP s.data.toList).2.2]) ∧ Below w.heap.size w w' := by
  have HH : Hid (∀ w, Calls Tryz.prog 70 #[.string s] w fun e w' => e = .returned (.int .i64 (hlR s.data.toList : Int)) ∧ w' = w) := fun w => hostLength_any s hs w
  have hle := hlR_le s.data.toList
  rw [size_list] at hle
  have e1 : (s.extract (hlR s.data.toList) s.size).data.toList = s.data.toList.drop (hlR s.data.toList) := Lib.extract_to_end s _
  have e2 : (s.extract 0 (hlR s.data.toList)).data.toList = s.data.toList.take (hlR s.data.toList) := Lib.extract_from_zero s _
  have z1 : (s.extract (hlR s.data.toList) s.size).size ≤ 4000000 := by rw [ByteArray.size_extract]; omega
  have z2 : (s.extract 0 (hlR s.data.toList)).size ≤ 4000000 := by rw [ByteArray.size_extract]; omega
  have HP : Hid (∀ w, Calls Tryz.prog 71 #[.string (s.extract (hlR s.data.toList) s.size)] w fun e w' => e = .returned (.tuple #[.int .i64 (portR (s.data.toList.drop (hlR s.data.toList))).1, .bool (portR (s.data.toList.drop (hlR s.data.toList))).2]) ∧ Below w.heap.size w w') := fun w => by
    have := readPort_any (s.extract (hlR s.data.toList) s.size) z1 w
    rw [e1] at this
    exact this
  have HHo : Hid (∀ w, HE w → Calls Tryz.prog 72 #[.string (s.extract 0 (hlR s.data.toList))] w fun e w' => e = .returned (.bool (hostR (s.data.toList.take (hlR s.data.toList)))) ∧ Below w.heap.size w w') := fun w hw => by
    have := isHost_any (s.extract 0 (hlR s.data.toList)) z2 w hw
    rw [e2] at this
    exact this
  have HLo : Hid (∀ w, Calls Tryz.prog 73 #[.string (s.extract 0 (hlR s.data.toList))] w fun e w' => e = .returned (.string (str (lower (s.data.toList.take (hlR s.data.toList))))) ∧ Below w.heap.size w w') := fun w => by
    have := Lower_any (s.extract 0 (hlR s.data.toList)) (by unfold maxLen; omega) w
    unfold lowS at this
    rw [e2] at this
    exact this
  have HEn : Hid (HE w) := he
  have HA : Hid (authP s.data.toList = if (portR (s.data.toList.drop (hlR s.data.toList))).2 = false ∨ hostR (s.data.toList.take (hlR s.data.toList)) = false then ([], 0, 52) else (lower (s.data.toList.take (hlR s.data.toList)), (portR (s.data.toList.drop (hlR s.data.toList))).1, 0)) := (rfl : _ = _)
  rw [HA.out]
  clear he e1 e2 z1 z2 HA
  generalize (portR (s.data.toList.drop (hlR s.data.toList))).1 = P at *
  generalize (portR (s.data.toList.drop (hlR s.data.toList))).2 = pb at *
  generalize hostR (s.data.toList.take (hlR s.data.toList)) = hb at *
  generalize lower (s.data.toList.take (hlR s.data.toList)) = LW at *
  generalize hlR s.data.toList = h at *
  have hle' : (h : Int) ≤ (s.size : Int) := by omega
  have hge' : (0 : Int) ≤ (h : Int) := by omega
  cases pb with
  | false =>
    rw [if_pos (.inl rfl)]
    go_enter Tryz.func44, Tryz.ntmps44
    go_wp2_with fail
    refine (HH.out _).mono ?_
    rintro e w1 ⟨rfl, hw1⟩
    rw [hw1]
    clear hw1
    go_wp2_with fail
    refine (HP.out _).mono ?_
    rintro e w2 ⟨rfl, hb2⟩
    have HB2 : Hid (Below w.heap.size w w2) := hb2
    clear hb2
    go_wp2
    go_ret3
    exact ⟨rfl, HB2.out⟩
  | true =>
    cases hb with
    | false =>
      rw [if_pos (.inr rfl)]
      go_enter Tryz.func44, Tryz.ntmps44
      go_wp2_with fail
      refine (HH.out _).mono ?_
      rintro e w1 ⟨rfl, hw1⟩
      rw [hw1]
      clear hw1
      go_wp2_with fail
      refine (HP.out _).mono ?_
      rintro e w2 ⟨rfl, hb2⟩
      have HB2 : Hid (Below w.heap.size w w2) := hb2
      have HE2 : Hid (HE w2) := HEn.out.below hb2
      clear hb2
      go_wp2_with fail
      refine (HHo.out _ HE2.out).mono ?_
      rintro e w3 ⟨rfl, hb3⟩
      have HB3 : Hid (Below w.heap.size w w3) := bel_trans HB2.out hb3
      clear hb3
      go_wp2
      go_ret3
      exact ⟨rfl, HB3.out⟩
    | true =>
      rw [if_neg (by simp)]
      go_enter Tryz.func44, Tryz.ntmps44
      go_wp2_with fail
      refine (HH.out _).mono ?_
      rintro e w1 ⟨rfl, hw1⟩
      rw [hw1]
      clear hw1
      go_wp2_with fail
      refine (HP.out _).mono ?_
      rintro e w2 ⟨rfl, hb2⟩
      have HB2 : Hid (Below w.heap.size w w2) := hb2
      have HE2 : Hid (HE w2) := HEn.out.below hb2
      clear hb2
      go_wp2_with fail
      refine (HHo.out _ HE2.out).mono ?_
      rintro e w3 ⟨rfl, hb3⟩
      have HB3 : Hid (Below w.heap.size w w3) := bel_trans HB2.out hb3
      clear hb3
      go_wp2_with fail
      refine (HLo.out _).mono ?_
      rintro e w4 ⟨rfl, hb4⟩
      have HB4 : Hid (Below w.heap.size w w4) := bel_trans HB3.out hb4
      clear hb4
      go_wp2
      go_ret3
      exact ⟨rfl, HB4.out⟩

end Tg
end Go.Proofs.YtpnijigjlhfklaaGreatDoor
