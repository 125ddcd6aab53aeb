/-
  Of the document: IsAddress, isName, HostPort.
-/
import Derived.Test.YtpnijigjlhfklaaGreatDoorGHe
set_option linter.unusedVariables false
set_option linter.unusedSimpArgs false
set_option maxRecDepth 100000
namespace Go.Proofs.YtpnijigjlhfklaaGreatDoor
open Go.RowKit Go.Shelf
namespace Tg
open Oc

theorem occ_two (l : List UInt8) (i : Nat) : Lib.occAt l [58, 58] i = (decide (l[i]? = some 58) && decide (l[i + 1]? = some 58)) := by
  unfold Lib.occAt
  have e1 : l[i]? = (l.drop i)[0]? := by rw [List.getElem?_drop]; simp
  have e2 : l[i + 1]? = (l.drop i)[1]? := by rw [List.getElem?_drop]
  rw [e1, e2]
  cases l.drop i with
  | nil => rfl
  | cons x t =>
    cases t with
    | nil => simp [List.isPrefixOf]
    | cons y t =>
      have a : ∀ z : UInt8, ((58 : UInt8) == z) = decide (z = 58) := fun z => by
        rw [Bool.eq_iff_iff, beq_iff_eq, decide_eq_true_iff]
        exact eq_comm
      simp only [List.isPrefixOf, List.getElem?_cons_zero, List.getElem?_cons_succ, Bool.and_true, Option.some.injEq]
      rw [a x, a y]
theorem get_two (s : ByteArray) (k : Nat) (h : k < s.size) : s.data.toList[k]? = some (s.data.toList.getD k 0) := by
  have h' : k < s.data.toList.length := by rw [size_list]; exact h
  rw [List.getD_eq_getElem?_getD, List.getElem?_eq_getElem h']
  rfl
theorem cut_at2 {l : List UInt8} {i : Nat} (hn : Lib.NoOcc l [58, 58] i) (hi : i ≤ l.length) (ho : Lib.occAt l [58, 58] i = true) : Lib.cut l [58, 58] = (l.take i, l.drop (i + 2), true) := by
  unfold Lib.cut
  rw [Lib.index_hit hn hi ho, if_pos (by omega)]
  rfl
theorem cut_no2 {l : List UInt8} {i : Nat} (hn : Lib.NoOcc l [58, 58] i) (hi : l.length < i + 2) : Lib.cut l [58, 58] = (l, [], false) := by
  unfold Lib.cut
  rw [Lib.index_past (by simp) hn hi, if_neg (by omega)]
theorem gI_bd {l : List UInt8} {last : Bool} : -1 ≤ gI (grpR l last) ∧ gI (grpR l last) ≤ 2 * ((l.length : Int) + 1) := by
  have := @cgR_bd l last
  cases h : grpR l last with
  | none => exact ⟨by decide, by show (-1 : Int) ≤ _; omega⟩
  | some n =>
    rw [h] at this
    exact ⟨by show (-1 : Int) ≤ (n : Int); omega, this.2⟩

set_option maxHeartbeats 4000000 in
theorem rIsAddress_any (s : ByteArray) (hs : s.size ≤ 4000000) (w : World) :
    Calls Tryz.prog 49 #[.string s] w fun e w' => e = .returned (.bool (addrR s.data.toList)) ∧ Below w.heap.size w w' := by
  go_enter Tryz.func49, Tryz.ntmps49
  go_wp2
  go_loopw [3] (fun i wr => ∃ k : Nat, k ≤ s.size ∧ i = .int .i64 k ∧ Hid (Lib.NoOcc s.data.toList [58, 58] k) ∧ Hid (wr = w)) (fun i _ => s.size - (intOf i).toNat)
  case atStart => exact ⟨0, Nat.zero_le _, rfl, Lib.NoOcc.zero _ _, (rfl : w = w)⟩
  case round =>
    obtain ⟨k, hk, rfl, hno, hww⟩ := hrel
    by_cases hlt : k + 1 < s.size
    · have hb0 : ((s[k].toNat : Nat) : Int) = ((s.data.toList.getD k 0).toNat : Int) := by rw [getD_of s k (by omega)]
      have hb1 : ((s[k + 1].toNat : Nat) : Int) = ((s.data.toList.getD (k + 1) 0).toNat : Int) := by rw [getD_of s (k + 1) hlt]
      have hoc := occ_two s.data.toList k
      rw [get_two s k (by omega), get_two s (k + 1) hlt] at hoc
      have hlt' : (k : Int) + 1 < (s.size : Int) := by omega
      have HC := fun (ho : Lib.occAt s.data.toList [58, 58] k = true) => cut_at2 hno.out (by rw [size_list]; exact hk) ho
      have HN := fun (ho : Lib.occAt s.data.toList [58, 58] k = false) => Lib.NoOcc.succ hno.out ho
      have hkk : k < s.size := by omega
      generalize s.data.toList.getD k 0 = c0 at *
      generalize s.data.toList.getD (k + 1) 0 = c1 at *
      by_cases h0 : c0 = 58
      · have g0 : (c0.toNat : Int) = 58 := by rw [h0]; rfl
        by_cases h1 : c1 = 58
        · have g1 : (c1.toNat : Int) = 58 := by rw [h1]; rfl
          have hcut := HC (by rw [hoc, h0, h1]; rfl)
          have e1 : (s.extract 0 k).data.toList = s.data.toList.take k := Lib.extract_from_zero s k
          have e2 : (s.extract (k + 2) s.size).data.toList = s.data.toList.drop (k + 2) := Lib.extract_to_end s (k + 2)
          have b1 := @gI_bd (s.data.toList.take k) false
          have b2 := @gI_bd (s.data.toList.drop (k + 2)) true
          have hl1 : ((s.data.toList.take k).length : Int) ≤ 4000000 := by rw [List.length_take, size_list]; omega
          have hl2 : ((s.data.toList.drop (k + 2)).length : Int) ≤ 4000000 := by rw [List.length_drop, size_list]; omega
          have HA : Hid (addrR s.data.toList = (decide (0 ≤ gI (grpR (s.data.toList.take k) false)) && decide (0 ≤ gI (grpR (s.data.toList.drop (k + 2)) true)) && decide (gI (grpR (s.data.toList.take k) false) + gI (grpR (s.data.toList.drop (k + 2)) true) ≤ 7))) := (by
            unfold addrR
            rw [hcut]
            dsimp only
            rw [if_pos rfl]
            cases h1 : grpR (s.data.toList.take k) false with
            | none => rfl
            | some x =>
              cases h2 : grpR (s.data.toList.drop (k + 2)) true with
              | none => simp [gI]
              | some y =>
                show decide (x + y < 8) = (decide ((0 : Int) ≤ (x : Int)) && decide ((0 : Int) ≤ (y : Int)) && decide ((x : Int) + (y : Int) ≤ 7))
                rw [Bool.eq_iff_iff]
                simp
                omega : _ = _)
          have HG1 : Hid (∀ w, Calls Tryz.prog 79 #[.string (s.extract 0 k), .bool false] w fun e w' => e = .returned (.int .i64 (gI (grpR (s.data.toList.take k) false))) ∧ Below w.heap.size w w') := fun w => by
            have := rgroups_any (s.extract 0 k) (by rw [ByteArray.size_extract]; omega) false w
            rw [e1] at this
            exact this
          have HG2 : Hid (∀ w, Calls Tryz.prog 79 #[.string (s.extract (k + 2) s.size), .bool true] w fun e w' => e = .returned (.int .i64 (gI (grpR (s.data.toList.drop (k + 2)) true))) ∧ Below w.heap.size w w') := fun w => by
            have := rgroups_any (s.extract (k + 2) s.size) (by rw [ByteArray.size_extract]; omega) true w
            rw [e2] at this
            exact this
          generalize gI (grpR (s.data.toList.take k) false) = x1 at *
          generalize gI (grpR (s.data.toList.drop (k + 2)) true) = x2 at *
          generalize (s.data.toList.take k).length = n1 at *
          generalize (s.data.toList.drop (k + 2)).length = n2 at *
          rw [g0] at hb0
          rw [g1] at hb1
          have hk2 : IntKind.i64.wrap ((k : Int) + 2) = (k : Int) + 2 := by rw [IntKind.wrap_i64]; omega
          have hk3 : (k : Int) + 2 ≤ (s.size : Int) := by omega
          have hk4 : (0 : Int) ≤ (k : Int) + 2 := by omega
          have hk5 : ((k : Int) + 2).toNat = k + 2 := by omega
          have hk6 : (k : Int) ≤ (s.size : Int) := by omega
          have hk7 : (0 : Int) ≤ (k : Int) := by omega
          have hsum : IntKind.i64.wrap (x1 + x2) = x1 + x2 := by rw [IntKind.wrap_i64]; omega
          clear HC HN hoc hcut e1 e2 h0 h1 g0 g1 b1 b2 hl1 hl2
          have HBn : Hid (Below w.heap.size w wr) := (by rw [hww.out]; exact Below.refl _ _ : Below _ _ _)
          go_wp2
          go_region_held3 (fun W => Below w.heap.size w W)
            ((first | with_reducible exact HBn.out | with_reducible exact Below.drew HBn.out))
            (first
              | (go_at_call 79; (with_reducible refine (HG1.out _).mono ?_); rintro e w5 ⟨rfl, hb5⟩; have HBn : Hid (Below w.heap.size w w5) := bel_trans (by assumption) hb5; clear hb5)
              | (go_at_call 79; (with_reducible refine (HG2.out _).mono ?_); rintro e w6 ⟨rfl, hb6⟩; have HBn : Hid (Below w.heap.size w w6) := bel_trans (by assumption) hb6; clear hb6))
          all_goals
            by_cases d1 : 0 ≤ x1
            · by_cases d2 : 0 ≤ x2
              · by_cases d3 : x1 + x2 ≤ 7
                · go_wp2
                  go_ret
                  rw [HA.out]
                  exact ⟨by simp [d1, d2, d3], HBn.out⟩
                · go_wp2
                  go_ret
                  rw [HA.out]
                  exact ⟨by simp [d1, d2, d3], HBn.out⟩
              · go_wp2
                go_ret
                rw [HA.out]
                exact ⟨by simp [d1, d2]; omega, HBn.out⟩
            · go_wp2
              go_ret
              rw [HA.out]
              exact ⟨by simp [d1]; omega, HBn.out⟩
        · have g1 : ((c1.toNat : Int) == 58) = false := by
            simp
            intro e
            exact h1 (UInt8.toNat_inj.1 (by show c1.toNat = 58; omega))
          have HN2 : Hid (Lib.NoOcc s.data.toList [58, 58] (k + 1)) := HN (by rw [hoc]; simp [h1])
          rw [g0] at hb0
          clear HC HN hoc h0 g0 h1
          generalize (c1.toNat : Int) = y1 at *
          go_wp2
          go_roundw
          case rel => exact ⟨k + 1, by omega, by go_num, HN2, hww⟩
          case measure => simp [intOf]; omega
      · have g0 : ((c0.toNat : Int) == 58) = false := by
          simp
          intro e
          exact h0 (UInt8.toNat_inj.1 (by show c0.toNat = 58; omega))
        have HN2 : Hid (Lib.NoOcc s.data.toList [58, 58] (k + 1)) := HN (by rw [hoc]; simp [h0])
        clear HC HN hoc h0
        generalize (c0.toNat : Int) = y0 at *
        go_wp2
        go_roundw
        case rel => exact ⟨k + 1, by omega, by go_num, HN2, hww⟩
        case measure => simp [intOf]; omega
    · have hcut := cut_no2 hno.out (by rw [size_list]; omega)
      have HA : Hid (addrR s.data.toList = decide (gI (grpR s.data.toList true) = 8)) := (by
        unfold addrR
        rw [hcut]
        dsimp only
        rw [if_neg (by simp)]
        cases h1 : grpR s.data.toList true with
        | none => rfl
        | some x =>
          show (some x == some 8) = decide ((x : Int) = 8)
          rw [Bool.eq_iff_iff]
          simp
          omega : _ = _)
      have HG : Hid (∀ w, Calls Tryz.prog 79 #[.string s, .bool true] w fun e w' => e = .returned (.int .i64 (gI (grpR s.data.toList true))) ∧ Below w.heap.size w w') := fun w => rgroups_any s hs true w
      generalize gI (grpR s.data.toList true) = x at *
      have hlt' : ¬ (k : Int) + 1 < (s.size : Int) := by omega
      clear hcut
      go_wp2_with fail
      refine (HG.out _).mono ?_
      rintro e w2 ⟨rfl, hb2⟩
      have HB2 : Hid (Below w.heap.size w w2) := (by rw [← hww.out]; exact hb2 : Below w.heap.size w w2)
      clear hb2
      by_cases h8 : x = 8
      · have hq : (x == 8) = true := by simp [h8]
        go_wp2
        go_ret
        rw [HA.out]
        exact ⟨by simp [h8], HB2.out⟩
      · have hq : (x == 8) = false := by simp [h8]
        go_wp2
        go_ret
        rw [HA.out]
        exact ⟨by simp [h8], HB2.out⟩

theorem ok_trip (ok : UInt8 → Bool) (l : List UInt8) (h : trip l = true) : allOk ok l = allOk ok (l.drop 3) := by
  unfold allOk
  rw [zs_trip l h, List.all_cons]
  have : goodZ ok (l.take 3) = true := by
    have := trip_len h
    unfold goodZ
    rw [List.length_take]
    simp
    left
    omega
  rw [this, Bool.true_and]
theorem ok_one (ok : UInt8 → Bool) (c : UInt8) (t : List UInt8) (h : trip (c :: t) = false) : allOk ok (c :: t) = (ok c && allOk ok t) := by
  unfold allOk
  rw [zs_one c t h, List.all_cons]
  rfl

set_option maxHeartbeats 4000000 in
theorem risName_any (s : ByteArray) (hs : s.size ≤ 4000000) (w : World) :
    Calls Tryz.prog 50 #[.string s] w fun e w' => e = .returned (.bool (decide (s.data.toList ≠ []) && allOk nameOk s.data.toList)) ∧ w' = w := by
  have HT : Hid (∀ k, k ≤ s.size → ∀ w, Calls Tryz.prog 62 #[.string s, .int .i64 (k : Int)] w fun e w' => e = .returned (.bool (trip (s.data.toList.drop k))) ∧ w' = w) := fun k hk w => triple_any s (by omega) k hk w
  go_enter Tryz.func50, Tryz.ntmps50
  go_wp2
  go_loopw [3] (fun i wr => ∃ k : Nat, k ≤ s.size ∧ i = .int .i64 k ∧ Hid (allOk nameOk s.data.toList = allOk nameOk (s.data.toList.drop k)) ∧ wr = w) (fun i _ => s.size - (intOf i).toNat)
  case atStart => exact ⟨0, Nat.zero_le _, rfl, (rfl : allOk nameOk s.data.toList = allOk nameOk (s.data.toList.drop 0)), rfl⟩
  case round =>
    obtain ⟨k, hk, rfl, hst, rfl⟩ := hrel
    by_cases hlt : k < s.size
    · have HT' := HT.out k hk
      have hdc := drop_cons s k hlt
      have h0 : ((s[k].toNat : Nat) : Int) = ((s.data.toList.getD k 0).toNat : Int) := by rw [getD_of s k hlt]
      cases ht : trip (s.data.toList.drop k) with
      | true =>
        have HTT : Hid (∀ w, Calls Tryz.prog 62 #[.string s, .int .i64 (k : Int)] w fun e w' => e = .returned (.bool true) ∧ w' = w) := (by rw [ht] at HT'; exact HT' : ∀ w, _)
        have h3 := trip_len ht
        rw [List.length_drop, size_list] at h3
        have hst2 : Hid (allOk nameOk s.data.toList = allOk nameOk (s.data.toList.drop (k + 3))) := (by rw [hst.out, ok_trip nameOk _ ht, List.drop_drop] : _ = _)
        clear ht HT' hdc hst
        go_wp2_with fail
        refine (HTT.out _).mono ?_
        rintro e w1 ⟨rfl, hw1⟩
        rw [hw1]
        clear hw1
        go_wp2
        go_roundw
        case rel => exact ⟨k + 3, by omega, by go_num, hst2, trivial⟩
        case measure => simp [intOf]; omega
      | false =>
        have HTT : Hid (∀ w, Calls Tryz.prog 62 #[.string s, .int .i64 (k : Int)] w fun e w' => e = .returned (.bool false) ∧ w' = w) := (by rw [ht] at HT'; exact HT' : ∀ w, _)
        have hst2 : Hid (allOk nameOk s.data.toList = (nameOk (s.data.toList.getD k 0) && allOk nameOk (s.data.toList.drop (k + 1)))) := (by
          rw [hst.out]
          rw [hdc] at ht ⊢
          exact ok_one nameOk _ _ ht : _ = _)
        have HU : Hid (∀ w, Calls Tryz.prog 57 #[.int .u8 ((s.data.toList.getD k 0).toNat : Int)] w fun e w' => e = .returned (.bool (unr (s.data.toList.getD k 0))) ∧ w' = w) := fun w => rUnr_any _ w
        have HS : Hid (∀ w, Calls Tryz.prog 64 #[.int .u8 ((s.data.toList.getD k 0).toNat : Int)] w fun e w' => e = .returned (.bool (sub (s.data.toList.getD k 0))) ∧ w' = w) := fun w => rSub_any _ w
        have hnm : nameOk (s.data.toList.getD k 0) = (unr (s.data.toList.getD k 0) || sub (s.data.toList.getD k 0)) := rfl
        rw [hnm] at hst2
        clear ht HT' hdc hst hnm
        generalize ((s.data.toList.getD k 0).toNat : Int) = x at *
        generalize unr (s.data.toList.getD k 0) = b1 at *
        generalize sub (s.data.toList.getD k 0) = b2 at *
        cases b1 with
        | true =>
          have hst3 : Hid (allOk nameOk s.data.toList = allOk nameOk (s.data.toList.drop (k + 1))) := (by rw [hst2.out]; rfl : _ = _)
          go_wp2_with fail
          refine (HTT.out _).mono ?_
          rintro e w1 ⟨rfl, hw1⟩
          rw [hw1]
          clear hw1
          go_wp2_with fail
          refine (HU.out _).mono ?_
          rintro e w2 ⟨rfl, hw2⟩
          rw [hw2]
          clear hw2
          go_wp2
          go_roundw
          case rel => exact ⟨k + 1, by omega, by go_num, hst3, trivial⟩
          case measure => simp [intOf]; omega
        | false =>
          cases b2 with
          | true =>
            have hst3 : Hid (allOk nameOk s.data.toList = allOk nameOk (s.data.toList.drop (k + 1))) := (by rw [hst2.out]; rfl : _ = _)
            go_wp2_with fail
            refine (HTT.out _).mono ?_
            rintro e w1 ⟨rfl, hw1⟩
            rw [hw1]
            clear hw1
            go_wp2_with fail
            refine (HU.out _).mono ?_
            rintro e w2 ⟨rfl, hw2⟩
            rw [hw2]
            clear hw2
            go_wp2_with fail
            refine (HS.out _).mono ?_
            rintro e w2 ⟨rfl, hw2⟩
            rw [hw2]
            clear hw2
            go_wp2
            go_roundw
            case rel => exact ⟨k + 1, by omega, by go_num, hst3, trivial⟩
            case measure => simp [intOf]; omega
          | false =>
            have HNo : Hid (allOk nameOk s.data.toList = false) := (by rw [hst2.out]; rfl : _ = _)
            go_wp2_with fail
            refine (HTT.out _).mono ?_
            rintro e w1 ⟨rfl, hw1⟩
            rw [hw1]
            clear hw1
            go_wp2_with fail
            refine (HU.out _).mono ?_
            rintro e w2 ⟨rfl, hw2⟩
            rw [hw2]
            clear hw2
            go_wp2_with fail
            refine (HS.out _).mono ?_
            rintro e w2 ⟨rfl, hw2⟩
            rw [hw2]
            clear hw2
            go_wp2
            go_ret
            rw [HNo.out, Bool.and_false]
            exact ⟨rfl, rfl⟩
    · have HYes : Hid (allOk nameOk s.data.toList = true) := (by rw [hst.out, List.drop_eq_nil_of_le (by rw [size_list]; omega)]; unfold allOk; rw [zs_nil]; rfl : _ = _)
      by_cases h0 : s.size = 0
      · have hE : s.toList.isEmpty = true := empty_of h0
        have hl0 : s.data.toList = [] := List.length_eq_zero_iff.1 (by rw [size_list]; exact h0)
        have HR : Hid ((decide (s.data.toList ≠ []) && allOk nameOk s.data.toList) = false) := (by rw [hl0]; rfl : _ = _)
        go_wp2
        go_ret
        rw [HR.out]
        exact ⟨rfl, rfl⟩
      · have hE : s.toList.isEmpty = false := nonempty_of h0
        have HR : Hid ((decide (s.data.toList ≠ []) && allOk nameOk s.data.toList) = true) := (by
          rw [HYes.out]
          have : s.data.toList ≠ [] := fun e => h0 (by rw [← size_list, e]; rfl)
          simp [this] : _ = _)
        go_wp2
        go_ret
        rw [HR.out]
        exact ⟨rfl, rfl⟩

end Tg
end Go.Proofs.YtpnijigjlhfklaaGreatDoor
