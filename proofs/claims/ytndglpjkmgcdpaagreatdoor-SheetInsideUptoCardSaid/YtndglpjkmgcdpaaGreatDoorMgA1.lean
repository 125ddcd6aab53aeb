/- Several texts as one. -/
import Derived.Test.YtndglpjkmgcdpaaGreatDoorMgZ
import Derived.BigQuiet
import Derived.Test.YtndglpjkmgcdpaaGreatDoorSrQ
import Derived.Test.YtndglpjkmgcdpaaGreatDoorMgU
/-
  The laws of sheet's pairs: IsBoundary of "B", awake, the law's pairs.
-/
set_option linter.unusedVariables false
set_option linter.unusedSimpArgs false
namespace Go.Proofs.YtndglpjkmgcdpaaGreatDoor
open Go.RowKit Go.Shelf
namespace Tg
open Oc


/-- The signs of a boundary. -/
def bndS : ByteArray := ⟨#[65, 66, 67, 68, 69, 70, 71, 72, 73, 74, 75, 76, 77, 78, 79, 80, 81, 82, 83, 84, 85, 86, 87, 88, 89, 90, 97, 98, 99, 100, 101, 102, 103, 104, 105, 106, 107, 108, 109, 110, 111, 112, 113, 114, 115, 116, 117, 118, 119, 120, 121, 122, 48, 49, 50, 51, 52, 53, 54, 55, 56, 57, 39, 40, 41, 43, 95, 44, 45, 46, 47, 58, 61, 63]⟩
theorem TrimB (w : World) : Calls Tryz.prog 41 #[.string ⟨#[66]⟩, .string bndS] w fun e w' => e = .returned (.string ⟨#[]⟩) ∧ Below w.heap.size w w' := by
  have hcon := Any.strings_TrimLeft_laid Tryz.lays161 (by kernel_rfl) ⟨#[66]⟩ bndS w (by decide) (ascii_of_all (by decide))
  exact hcon

set_option maxRecDepth 100000 in
set_option maxHeartbeats 1000000 in
theorem IsBoundary_B (w : World) : Calls Tryz.prog 20 #[.string ⟨#[66]⟩] w fun e w' => e = .returned (.bool true) ∧ Below w.heap.size w w' := by
  have HT : Hid (∀ w, _) := fun w => TrimB w
  unfold bndS at HT
  go_enter Tryz.func20, Tryz.ntmps20
  go_wp2_with fail
  refine (HT.out _).mono ?_
  rintro e w1 ⟨rfl, hb1⟩
  go_wp2
  go_ret
  exact ⟨rfl, hb1⟩

theorem awake_whole : whole [97, 61, 98, 43, 99] = true := by
  rw [whole_cons (by decide), whole_cons (by decide), whole_cons (by decide), whole_cons (by decide), whole_cons (by decide)]
  exact whole_nil
theorem awake_dec (c : UInt8) (h : c ≠ 37) : decR [c] = ([c], 0, 0) := by
  rw [decR_whole _ (by rw [whole_cons h]; exact whole_nil), zs_one c [] (trip_ne h []), zs_nil]; rfl
theorem awake_shp : shpR [97, 61, 98, 43, 99] = ([([97], [98, 32, 99], true)], 0, 0) := by
  unfold shpR
  rw [awake_whole, if_pos rfl]
  have e1 : splitB 38 [97, 61, 98, 43, 99] = [[97, 61, 98, 43, 99]] := by decide +kernel
  have e2 : cutA 61 [97, 61, 98, 43, 99] = [97] ∧ cutB 61 [97, 61, 98, 43, 99] = [98, 43, 99] ∧ has 61 [97, 61, 98, 43, 99] = true := by decide +kernel
  have e3 : ([97] : List UInt8).map sp = [97] ∧ ([98, 43, 99] : List UInt8).map sp = [98, 32, 99] := by decide +kernel
  have e4 : decR [98, 32, 99] = ([98, 32, 99], 0, 0) := by
    rw [decR_whole _ (by rw [whole_cons (by decide), whole_cons (by decide), whole_cons (by decide)]; exact whole_nil), zs_one _ _ (trip_ne (by decide) _), zs_one _ _ (trip_ne (by decide) _), zs_one _ _ (trip_ne (by decide) _), zs_nil]
    rfl
  unfold pairsR
  rw [e1]
  simp only [List.filter_cons, List.filter_nil, ne_eq, reduceCtorEq, not_false_eq_true, decide_true, if_true, List.map_cons, List.map_nil]
  unfold pairR spd
  rw [e2.1, e2.2.1, e2.2.2, e3.1, e3.2, awake_dec 97 (by decide), e4]

set_option maxRecDepth 100000 in
set_option maxHeartbeats 2000000 in
theorem awake15_any (w : World) (hm : ML w) :
    Calls Tryz.prog 11 #[] w fun e w' => e = .returned (.bool true) ∧ Below w.heap.size w w' := by
  have HP : Hid (Calls Tryz.prog 31 #[.string ⟨#[97, 61, 98, 43, 99]⟩] w fun e w' => ∃ v, e = .returned (.tuple #[v, .int .i64 0, .int .i64 0]) ∧ OwnQ 73 w.heap.size v [([97], [98, 32, 99], true)] w' ∧ Below w.heap.size w w') := by
    have h := Pairs_any ⟨#[97, 61, 98, 43, 99]⟩ (by decide) w hm
    rw [show (⟨#[97, 61, 98, 43, 99]⟩ : ByteArray).data.toList = [97, 61, 98, 43, 99] from rfl, awake_shp] at h
    exact h
  have HI : Hid (∀ w, _) := fun w => IsBoundary_B w
  clear hm
  go_enter Tryz.func11, Tryz.ntmps11
  go_wp2_with fail
  refine HP.out.mono ?_
  rintro e w1 ⟨v, rfl, ho, hb1⟩
  obtain ⟨a, c, rfl, hr⟩ := ho.rd
  obtain ⟨g, o, rfl, hc, hcell⟩ : ∃ g o, a = some ⟨g, o, none⟩ ∧ [(([97] : List UInt8), ([98, 32, 99] : List UInt8), true)].length ≤ c ∧ ∀ j, j < [(([97] : List UInt8), ([98, 32, 99] : List UInt8), true)].length → w1.cell? ⟨g, o + j * 3, none⟩ = some (.string (str (nth [([97], [98, 32, 99], true)] j).1)) ∧ w1.cell? ⟨g, o + j * 3 + 1, none⟩ = some (.string (str (nth [([97], [98, 32, 99], true)] j).2.1)) ∧ w1.cell? ⟨g, o + j * 3 + 2, none⟩ = some (.bool (nth [([97], [98, 32, 99], true)] j).2.2) := by
    rcases hr with h | h
    · cases h
    · exact h
  obtain ⟨c0, c1, c2⟩ := hcell 0 (by decide)
  have c0' : w1.cell? ⟨g, o, none⟩ = some (.string ⟨#[97]⟩) := c0
  have c1' : w1.cell? ⟨g, o + 1, none⟩ = some (.string ⟨#[98, 32, 99]⟩) := by have := c1; rw [Nat.zero_mul, Nat.add_zero] at this; exact this
  have c2' : w1.cell? ⟨g, o + 2, none⟩ = some (.bool true) := by have := c2; rw [Nat.zero_mul, Nat.add_zero] at this; exact this
  have hc1 : 1 ≤ c := hc
  have HB1 : Hid (Below w.heap.size w w1) := hb1
  clear c0 c1 c2 hcell hr hb1 ho hc
  have hln : [(([97] : List UInt8), ([98, 32, 99] : List UInt8), true)].length = 1 := rfl
  rw [hln]
  clear hln
  go_wp2_with fail
  refine (HI.out _).mono ?_
  rintro e w2 ⟨rfl, hb2⟩
  go_wp2
  go_ret
  exact ⟨rfl, HB1.out.trans (hb2.mono HB1.out.size)⟩

theorem qs_pairs_len (l : List UInt8) : (pairsR l).length ≤ l.length + 1 := by
  unfold pairsR
  rw [List.length_map]
  exact Nat.le_trans (List.length_filter_le _ _) (split_len 38 l)
theorem shpR_len (l : List UInt8) : (shpR l).1.length ≤ l.length + 1 := by
  unfold shpR
  split
  · exact qs_pairs_len l
  · exact Nat.zero_le _

end Tg
end Go.Proofs.YtndglpjkmgcdpaaGreatDoor

/-
  sheet: boundaries: the document's IsMark, the program's IsBoundary.
-/
set_option linter.unusedVariables false
set_option linter.unusedSimpArgs false
namespace Go.Proofs.YtndglpjkmgcdpaaGreatDoor
open Go.RowKit Go.Shelf
namespace Mf
open Oc Tg

def noM : List UInt8 := [39, 40, 41, 43, 95, 44, 45, 46, 47, 58, 61, 63]
def markI (c : Int) (h : Bool) : Bool := (decide (48 ≤ c) && decide (c ≤ 57)) || ((decide (65 ≤ c) && decide (c ≤ 90)) || ((decide (97 ≤ c) && decide (c ≤ 122)) || h))
/-- May a byte stand in a boundary? -/
def markB (c : UInt8) : Bool := markI (c.toNat : Int) (noM.contains c)
def bndR (l : List UInt8) : Bool := l.all markB && (decide (l ≠ []) && decide (l.length ≤ 70))

theorem bnd_bad {l : List UInt8} {k : Nat} (hk : k < l.length) (h : markB (l.getD k 0) = false) : bndR l = false := by
  unfold bndR
  rw [show l.all markB = false from by
    rw [List.all_eq_false]
    refine ⟨l[k], List.getElem_mem _, ?_⟩
    rw [List.getD_eq_getElem?_getD, List.getElem?_eq_getElem hk] at h
    simp at h
    simp [h]]
  rfl
theorem bnd_ok {l : List UInt8} (h : ∀ j, j < l.length → markB (l.getD j 0) = true) : bndR l = (decide (l ≠ []) && decide (l.length ≤ 70)) := by
  unfold bndR
  rw [show l.all markB = true from by
    rw [List.all_eq_true]
    intro x hx
    obtain ⟨k, hk, rfl⟩ := List.mem_iff_getElem.1 hx
    have := h k hk
    rw [List.getD_eq_getElem?_getD, List.getElem?_eq_getElem hk] at this
    simpa using this]
  rfl
def okK (c : UInt8) (j : Nat) : Bool := (lettI (c.toNat : Int) || digI (c.toNat : Int)) || (noM.take j).contains c
theorem okK_all (c : UInt8) : okK c 12 = markB c := by
  have h : ∀ n : Nat, n < 256 → okK (UInt8.ofNat n) 12 = markB (UInt8.ofNat n) := by decide +kernel
  have := h c.toNat c.toNat_lt
  rwa [UInt8.ofNat_toNat] at this
theorem okK_next (c : UInt8) (j : Nat) (h : j < 12) : okK c (j + 1) = (okK c j || decide ((c.toNat : Int) = ((noM.getD j 0).toNat : Int))) := by
  have k : ∀ j : Nat, j < 12 → ∀ n : Nat, n < 256 → okK (UInt8.ofNat n) (j + 1) = (okK (UInt8.ofNat n) j || decide (((UInt8.ofNat n).toNat : Int) = ((noM.getD j 0).toNat : Int))) := by decide +kernel
  have := k j h c.toNat c.toNat_lt
  rwa [UInt8.ofNat_toNat] at this
theorem noM_at (j : Nat) (h : j < (⟨#[39, 40, 41, 43, 95, 44, 45, 46, 47, 58, 61, 63]⟩ : ByteArray).size) : (((⟨#[39, 40, 41, 43, 95, 44, 45, 46, 47, 58, 61, 63]⟩ : ByteArray)[j].toNat : Nat) : Int) = ((noM.getD j 0).toNat : Int) := byt_at _ j h

set_option maxRecDepth 100000 in
set_option maxHeartbeats 1000000 in
theorem rIsMark_any (s : ByteArray) (hs : s.size ≤ 16777216) (w : World) :
    Calls Tryz.prog 25 #[.string s] w fun e w' => e = .returned (.bool (bndR s.data.toList)) ∧ Below w.heap.size w w' := by
  have HY : Hid (∀ k, k < s.size → markB (s.data.toList.getD k 0) = false → bndR s.data.toList = false) := fun k hk h => bnd_bad (by rw [size_list]; exact hk) h
  have HN : Hid ((∀ j, j < s.size → markB (s.data.toList.getD j 0) = true) → bndR s.data.toList = (decide (1 ≤ s.size) && decide (s.size ≤ 70))) := fun h => by
    have := bnd_ok (l := s.data.toList) (fun j hj => h j (by rw [size_list] at hj; exact hj))
    rw [size_list] at this
    rw [this]
    congr 1
    rw [decide_eq_decide, ← size_list]
    cases s.data.toList <;> simp
  generalize bndR s.data.toList = M at *
  go_enter Tryz.func25, Tryz.ntmps25
  go_wp2
  go_loopw [3] (fun i wr => ∃ k : Nat, k ≤ s.size ∧ i = .int .i64 k ∧ Hid (∀ j, j < k → markB (s.data.toList.getD j 0) = true) ∧ Hid (Below w.heap.size w wr)) (fun i _ => s.size - (intOf i).toNat)
  case atStart => exact ⟨0, Nat.zero_le _, rfl, (fun j hj => absurd hj (Nat.not_lt_zero _) : ∀ j, j < 0 → _), Below.refl _ _⟩
  case round =>
    obtain ⟨wo, rfl⟩ : ∃ wo, wo = wr := ⟨_, rfl⟩
    obtain ⟨k, hk, rfl, hA, hbl⟩ := hrel
    by_cases hlt : k < s.size
    · have hby : ((s[k].toNat : Nat) : Int) = ((s.data.toList.getD k 0).toNat : Int) := byt_at s k hlt
      have HYk : Hid (markB (s.data.toList.getD k 0) = false → M = false) := HY.out k hlt
      have HAn : Hid (markB (s.data.toList.getD k 0) = true → ∀ j, j < k + 1 → markB (s.data.toList.getD j 0) = true) := fun h j hj => by
        by_cases e : j = k
        · rw [e]; exact h
        · exact hA.out j (by omega)
      generalize s.data.toList.getD k 0 = u at HYk HAn hby
      have b0 : (0 : Int) ≤ (u.toNat : Int) := by omega
      have b1 : (u.toNat : Int) ≤ 255 := by have := u.toNat_lt; omega
      have HLe : Hid (∀ W, Calls Tryz.prog 46 #[.int .u8 ((s[k].toNat : Nat) : Int)] W fun e w' => e = .returned (.bool (lettI (u.toNat : Int))) ∧ w' = W) := fun W => by rw [hby]; exact IsLetter_any _ b0 b1 W
      have HDi : Hid (∀ W, Calls Tryz.prog 47 #[.int .u8 ((s[k].toNat : Nat) : Int)] W fun e w' => e = .returned (.bool (digI (u.toNat : Int))) ∧ w' = W) := fun W => by rw [hby]; exact IsDigit_any _ b0 b1 W
      have HK0 : Hid (okK u 0 = (lettI (u.toNat : Int) || digI (u.toNat : Int))) := (by simp [okK] : _ = _)
      have HKn : Hid (∀ j, j < 12 → okK u (j + 1) = (okK u j || (((s[k].toNat : Nat) : Int) == ((noM.getD j 0).toNat : Int)))) := fun j hj => by
        rw [okK_next u j hj, hby]
        first | rfl | (congr 1; rw [Bool.eq_iff_iff, decide_eq_true_iff, beq_iff_eq])
      have HKa : Hid (okK u 12 = markB u) := okK_all u
      clear hby b0 b1
      generalize markB u = mb at HYk HAn HKa
      cases hl : lettI (u.toNat : Int) with
      | true =>
        rw [hl] at HLe HK0
        have HK0' : Hid (okK u 0 = true) := HK0.out
        clear HK0 hl HDi
        have HK0 := HK0'
        clear HK0'
        go_wp2_with fail
        refine (HLe.out _).mono ?_
        rintro e w2 ⟨rfl, hw2⟩
        rw [hw2]
        clear hw2
        have HB2 : Hid (Below w.heap.size w wo) := hbl
        go_wp2
        go_loopw [4, 5] (fun ov jv wr => ∃ j : Nat, j ≤ 12 ∧ jv = .int .i64 j ∧ ov = .bool (okK u j) ∧ Hid (Below w.heap.size w wr)) (fun _ jv _ => 12 - (intOf jv).toNat)
        case atStart => exact ⟨0, by omega, rfl, by rw [HK0.out], HB2⟩
        case round =>
          obtain ⟨j, hj, rfl, rfl, hbj⟩ := hrel
          by_cases hjt : j < 12
          · have HKj : Hid (okK u (j + 1) = (okK u j || (((s[k].toNat : Nat) : Int) == ((noM.getD j 0).toNat : Int)))) := HKn.out j hjt
            have hj12 : j < (⟨#[39, 40, 41, 43, 95, 44, 45, 46, 47, 58, 61, 63]⟩ : ByteArray).size := hjt
            have hnm := noM_at j hj12
            have HBd : Hid (Below w.heap.size w wr.drew) := below_drewN hbj.out 1
            cases hB : okK u j with
            | true =>
              have HO : Hid (okK u (j + 1) = true) := (by rw [HKj.out, hB]; rfl : _ = _)
              clear HKj hB
              go_wp2_with fail
              go_quiet (fail)
              all_goals
                go_wp2
                go_roundw
                case rel => exact ⟨j + 1, by omega, by go_num, by rw [HO.out], below_drewN hbj.out _⟩
                case measure => simp [intOf]; omega
            | false =>
              have HO : Hid (okK u (j + 1) = (((s[k].toNat : Nat) : Int) == ((noM.getD j 0).toNat : Int))) := (by rw [HKj.out, hB]; rfl : _ = _)
              clear HKj hB
              go_wp2_with fail
              go_quiet (fail)
              all_goals
                go_wp2
                go_roundw
                case rel => exact ⟨j + 1, by omega, by go_num, by rw [HO.out, List.getD_eq_getElem?_getD], below_drewN hbj.out _⟩
                case measure => simp [intOf]; omega
          · obtain rfl : j = 12 := by omega
            rw [HKa.out]
            cases mb with
            | false =>
              have hM : Hid (M = false) := HYk.out rfl
              go_wp2
              go_ret
              rw [hM.out]
              exact ⟨rfl, hbj.out⟩
            | true =>
              have HAk : Hid (∀ j, j < k + 1 → markB (s.data.toList.getD j 0) = true) := HAn.out rfl
              go_wp2
              go_roundw
              case rel => exact ⟨k + 1, by omega, by go_num, HAk, hbj⟩
              case measure => simp [intOf]; omega
      | false =>
        rw [hl] at HLe HK0
        have HK0' : Hid (okK u 0 = digI (u.toNat : Int)) := HK0.out
        clear HK0 hl
        generalize digI (u.toNat : Int) = dg at *
        have HK0 := HK0'
        clear HK0'
        go_wp2_with fail
        refine (HLe.out _).mono ?_
        rintro e w2 ⟨rfl, hw2⟩
        rw [hw2]
        clear hw2
        go_wp2_with fail
        refine (HDi.out _).mono ?_
        rintro e w3 ⟨rfl, hw3⟩
        rw [hw3]
        clear hw3
        have HB2 : Hid (Below w.heap.size w wo) := hbl
        go_wp2
        go_loopw [4, 5] (fun ov jv wr => ∃ j : Nat, j ≤ 12 ∧ jv = .int .i64 j ∧ ov = .bool (okK u j) ∧ Hid (Below w.heap.size w wr)) (fun _ jv _ => 12 - (intOf jv).toNat)
        case atStart => exact ⟨0, by omega, rfl, by rw [HK0.out], HB2⟩
        case round =>
          obtain ⟨j, hj, rfl, rfl, hbj⟩ := hrel
          by_cases hjt : j < 12
          · have HKj : Hid (okK u (j + 1) = (okK u j || (((s[k].toNat : Nat) : Int) == ((noM.getD j 0).toNat : Int)))) := HKn.out j hjt
            have hj12 : j < (⟨#[39, 40, 41, 43, 95, 44, 45, 46, 47, 58, 61, 63]⟩ : ByteArray).size := hjt
            have hnm := noM_at j hj12
            have HBd : Hid (Below w.heap.size w wr.drew) := below_drewN hbj.out 1
            cases hB : okK u j with
            | true =>
              have HO : Hid (okK u (j + 1) = true) := (by rw [HKj.out, hB]; rfl : _ = _)
              clear HKj hB
              go_wp2_with fail
              go_quiet (fail)
              all_goals
                go_wp2
                go_roundw
                case rel => exact ⟨j + 1, by omega, by go_num, by rw [HO.out], below_drewN hbj.out _⟩
                case measure => simp [intOf]; omega
            | false =>
              have HO : Hid (okK u (j + 1) = (((s[k].toNat : Nat) : Int) == ((noM.getD j 0).toNat : Int))) := (by rw [HKj.out, hB]; rfl : _ = _)
              clear HKj hB
              go_wp2_with fail
              go_quiet (fail)
              all_goals
                go_wp2
                go_roundw
                case rel => exact ⟨j + 1, by omega, by go_num, by rw [HO.out, List.getD_eq_getElem?_getD], below_drewN hbj.out _⟩
                case measure => simp [intOf]; omega
          · obtain rfl : j = 12 := by omega
            rw [HKa.out]
            cases mb with
            | false =>
              have hM : Hid (M = false) := HYk.out rfl
              go_wp2
              go_ret
              rw [hM.out]
              exact ⟨rfl, hbj.out⟩
            | true =>
              have HAk : Hid (∀ j, j < k + 1 → markB (s.data.toList.getD j 0) = true) := HAn.out rfl
              go_wp2
              go_roundw
              case rel => exact ⟨k + 1, by omega, by go_num, HAk, hbj⟩
              case measure => simp [intOf]; omega
    · obtain rfl : k = s.size := by omega
      have hM : Hid (M = (decide (1 ≤ s.size) && decide (s.size ≤ 70))) := HN.out hA.out
      go_wp2
      all_goals
        go_ret
        refine ⟨ret_bool ?_, hbl.out⟩
        rw [hM.out]
        first
        | (simp; done)
        | (simp; omega)
        | (rw [Bool.eq_iff_iff]; simp; omega)


def inB (c : UInt8) : Bool := bndS.data.toList.contains c
theorem inB_mark (c : UInt8) : inB c = markB c := by
  have h : ∀ n : Nat, n < 256 → inB (UInt8.ofNat n) = markB (UInt8.ofNat n) := by decide +kernel
  have := h c.toNat c.toNat_lt
  rwa [UInt8.ofNat_toNat] at this
theorem drop_all (p : UInt8 → Bool) (l : List UInt8) : (l.dropWhile p = []) ↔ l.all p = true := by
  induction l with
  | nil => simp
  | cons c t ih =>
    rw [List.dropWhile_cons, List.all_cons]
    cases h : p c with
    | true => simpa using ih
    | false => simp
theorem bnd_trim (l : List UInt8) : bndR l = (decide (l.dropWhile inB = []) && (decide (l ≠ []) && decide (l.length ≤ 70))) := by
  unfold bndR
  congr 1
  rw [Bool.eq_iff_iff, decide_eq_true_iff, drop_all, show inB = markB from funext inB_mark]
theorem emp_iff (l : List UInt8) : (str l).toList.isEmpty = decide (l = []) := by
  rw [ByteArray.toList_eq, str_list, Bool.eq_iff_iff, decide_eq_true_iff]
  simp

set_option maxRecDepth 100000 in
set_option maxHeartbeats 1000000 in
theorem IsBoundary_any (s : ByteArray) (hs : s.size ≤ 16777216) (w : World) : Calls Tryz.prog 20 #[.string s] w fun e w' => e = .returned (.bool (bndR s.data.toList)) ∧ Below w.heap.size w w' := by
  have hcon := fun w => Any.strings_TrimLeft_laid Tryz.lays161 (by kernel_rfl) s bndS w (by decide) (ascii_of_all (by decide))
  have HT : Hid (∀ w, Calls Tryz.prog 41 #[.string s, .string bndS] w fun e w' => e = .returned (.string (str (s.data.toList.dropWhile inB))) ∧ Below w.heap.size w w') := hcon
  unfold bndS at HT
  clear hcon
  have HR : Hid (bndR s.data.toList = (decide (s.data.toList.dropWhile inB = []) && (decide (s.data.toList ≠ []) && decide (s.data.toList.length ≤ 70)))) := bnd_trim _
  have HE : Hid ((str (s.data.toList.dropWhile inB)).toList.isEmpty = decide (s.data.toList.dropWhile inB = [])) := emp_iff _
  have HS : Hid (s.toList.isEmpty = decide (s.data.toList = [])) := (by rw [← emp_iff, str_self] : _ = _)
  have hsl : s.data.toList.length = s.size := size_list s
  rw [hsl] at HR
  generalize bndR s.data.toList = V at *
  generalize str (s.data.toList.dropWhile inB) = X at *
  generalize decide (s.data.toList.dropWhile inB = []) = dX at *
  by_cases h0 : s.data.toList = []
  · have h0' : s.toList.isEmpty = true := by rw [HS.out, decide_eq_true h0]
    have HV : Hid (V = false) := (by rw [HR.out]; simp [h0] : V = false)
    clear HR HE HS hsl h0
    go_enter Tryz.func20, Tryz.ntmps20
    go_wp2
    go_ret
    exact ⟨by rw [HV.out]; rfl, Below.refl _ _⟩
  · have h0' : s.toList.isEmpty = false := by rw [HS.out, decide_eq_false h0]
    by_cases h70 : s.size ≤ 70
    · have h70' : (s.size : Int) ≤ 70 := by omega
      have HV : Hid (V = dX) := (by rw [HR.out]; simp [h0, h70] : V = dX)
      have HXe : Hid (X.toList.isEmpty = dX) := HE.out
      clear HR HE HS hsl h0
      cases dX with
      | true =>
        have hXe : X.toList.isEmpty = true := HXe.out
        go_enter Tryz.func20, Tryz.ntmps20
        go_wp2_with fail
        refine (HT.out _).mono ?_
        rintro e w1 ⟨rfl, hb1⟩
        go_wp2
        go_ret
        exact ⟨by rw [HV.out]; rfl, hb1⟩
      | false =>
        have hXe : X.toList.isEmpty = false := HXe.out
        go_enter Tryz.func20, Tryz.ntmps20
        go_wp2_with fail
        refine (HT.out _).mono ?_
        rintro e w1 ⟨rfl, hb1⟩
        go_wp2
        go_ret
        exact ⟨by rw [HV.out]; rfl, hb1⟩
    · have h70' : ¬ (s.size : Int) ≤ 70 := by omega
      have HV : Hid (V = false) := (by rw [HR.out]; simp [h70] : V = false)
      clear HR HE HS hsl h0
      go_enter Tryz.func20, Tryz.ntmps20
      go_wp2
      go_ret
      exact ⟨by rw [HV.out]; rfl, Below.refl _ _⟩

end Mf
end Go.Proofs.YtndglpjkmgcdpaaGreatDoor

/-
  sheet: Parse.
-/
set_option linter.unusedVariables false
set_option linter.unusedSimpArgs false
namespace Go.Proofs.YtndglpjkmgcdpaaGreatDoor
open Go.RowKit Go.Shelf
namespace Sr
open Oc Tg Mf

/-- What Parse answers. -/
def errN : Option (Int × Int) → Int × Int
  | none => (0, 0)
  | some q => q
def parR (b s : List UInt8) (most : Int) : List Pt.P5 × Int × Int :=
  if bndR b = false then ([], 0, 151)
  else if most < 1 then ([], 0, 1)
  else ((allP s ([45, 45] ++ b) most.toNat).1, errN (allP s ([45, 45] ++ b) most.toNat).2)

theorem told_any (q : Option (Int × Int)) (w : World) (hg : Er.Gw w) : Calls Tryz.prog 33 #[errV q] w fun e w' => e = .returned (.tuple #[.int .i64 (errN q).1, .int .i64 (errN q).2]) ∧ Below w.heap.size w w' := by
  cases q with
  | none => exact Er.told_nil w
  | some q => exact Er.told_fault q.1 q.2 w hg

set_option maxRecDepth 100000 in
set_option maxHeartbeats 2000000 in
theorem Parse_any (b s : ByteArray) (most : Int) (hb1 : b.size ≤ 1048576) (hs : s.size ≤ 1073741820) (hmost : most < 9223372036854775808) (w : World) (ht : Tab w) (hml : ML w) (he : Fd.Env w) (hg : Er.Gw w) :
    Calls Tryz.prog 12 #[.string b, .string s, .int .i64 most] w fun e w' => ∃ lv, e = .returned (.tuple #[lv, .int .i64 (parR b.data.toList s.data.toList most).2.1, .int .i64 (parR b.data.toList s.data.toList most).2.2]) ∧ Pt.OwnT 41 w.heap.size lv (parR b.data.toList s.data.toList most).1 w' ∧ Below w.heap.size w w' := by
  have HIb : Hid (Calls _ _ _ w _) := IsBoundary_any b (by omega) w
  obtain ⟨R, HRR⟩ : ∃ R, Hid (R = parR b.data.toList s.data.toList most) := ⟨_, rfl⟩
  have HRd : Hid (R = _) := HRR.out.trans (by unfold parR; exact rfl)
  rw [← HRR.out]
  clear HRR
  generalize bndR b.data.toList = B at *
  cases B with
  | false =>
    have HQ : Hid (R = ([], 0, 151)) := (by rw [HRd.out, if_pos rfl] : R = _)
    go_enter Tryz.func12, Tryz.ntmps12
    go_wp2_with fail
    refine HIb.out.mono ?_
    rintro e w1 ⟨rfl, hw1⟩
    go_wp2
    refine bodyPost_ret (v := .tuple #[.slice none 0 0, .int .i64 0, .int .i64 151]) (by simp [results, Tryz.results12, go_sem]; try rfl) rfl ?_
    rw [HQ.out]
    exact ⟨_, rfl, Pt.ownT_nil _ _ _, hw1⟩
  | true =>
    by_cases hm1 : most < 1
    · have HQ : Hid (R = ([], 0, 1)) := (by rw [HRd.out, if_neg (by simp), if_pos hm1] : R = _)
      go_enter Tryz.func12, Tryz.ntmps12
      go_wp2_with fail
      refine HIb.out.mono ?_
      rintro e w1 ⟨rfl, hw1⟩
      go_wp2
      refine bodyPost_ret (v := .tuple #[.slice none 0 0, .int .i64 0, .int .i64 1]) (by simp [results, Tryz.results12, go_sem]; try rfl) rfl ?_
      rw [HQ.out]
      exact ⟨_, rfl, Pt.ownT_nil _ _ _, hw1⟩
    · have HQ0 : Hid (R = ((allP s.data.toList ([45, 45] ++ b.data.toList) most.toNat).1, errN (allP s.data.toList ([45, 45] ++ b.data.toList) most.toNat).2)) := (by rw [HRd.out, if_neg (by simp), if_neg hm1] : R = _)
      obtain ⟨k, hk⟩ : ∃ k : Nat, most = (k : Int) := ⟨most.toNat, by omega⟩
      subst hk
      have hkn : (k : Int).toNat = k := by simp
      rw [hkn] at HQ0
      have hcat : (⟨#[45, 45]⟩ : ByteArray) ++ b = str ([45, 45] ++ b.data.toList) := by
        apply eq_list
        rw [str_list, ByteArray.data_append, Array.toList_append]
      have hml2 : ([45, 45] ++ b.data.toList).length ≤ 4000000 := by simp [size_list]; omega
      have HCat : Hid ((⟨#[45, 45]⟩ : ByteArray) ++ b = str ([45, 45] ++ b.data.toList)) := hcat
      clear HRd hcat hkn
      generalize [45, 45] ++ b.data.toList = mk at *
      have HPs : Hid (∀ g w1, w.heap.size ≤ g → Below w.heap.size w w1 → SR w1 g s (str mk) 0 → Calls _ _ _ w1 _) := fun g w1 h1 h2 h3 => parts_any g s mk k (by omega) (by omega) hs hml2 w h1 w1 h2 h3 ht hml he
      have HTd : Hid (∀ q W, Below w.heap.size w W → Calls _ _ _ W _) := fun q W h => told_any q W (hg.below h)
      generalize allP s.data.toList mk k = A at *
      obtain ⟨ps, er⟩ := A
      dsimp only at HQ0 HPs
      obtain ⟨zb, hzb⟩ : ∃ zb, b.size = zb := ⟨_, rfl⟩
      have hk2 : (⟨#[45, 45]⟩ : ByteArray).size = 2 := rfl
      have had1 : ¬ (9223372036854775807 < 2 + zb) := by omega
      have hm2 : decide ((k : Int) < 1) = false := by simpa using hm1
      clear hml2 hb1
      go_enter Tryz.func12, Tryz.ntmps12
      go_wp2_with fail
      refine HIb.out.mono ?_
      rintro e w1 ⟨rfl, hw1⟩
      have HB1 : Hid (Below w.heap.size w w1) := hw1
      clear hw1 HIb
      go_wp2_with fail
      rw [HCat.out]
      obtain ⟨w2, hw2⟩ : ∃ w2, w2 = w1.alloc (.cells #[.string s, .string (str mk), .int .i64 0] 75) := ⟨_, rfl⟩
      rw [← hw2]
      have hb2 : Below w1.heap.size w1 w2 := by rw [hw2]; exact (Below.refl _ w1).alloc (Nat.le_refl _) _
      have HB2 : Hid (Below w.heap.size w w2) := HB1.out.trans (hb2.mono HB1.out.size)
      have HR2 : Hid (SR w2 w1.heap.size s (str mk) 0) := (by rw [hw2]; exact heap_alloc_new w1 _ : SR _ _ _ _ _)
      have hz1 : w.heap.size ≤ w1.heap.size := HB1.out.size
      clear hb2 hw2 hm1 hm2 had1 hk2
      refine (HPs.out w1.heap.size w2 hz1 HB2.out HR2.out).mono ?_
      rintro e w3 ⟨lv, rfl, hO3, hC3⟩
      have HB3 : Hid (Below w.heap.size w w3) := HB2.out.trans (hC3.below hz1 (HB2.out.size))
      have HO3 : Hid (Pt.OwnT 41 w.heap.size lv ps w3) := ⟨hO3.1, hO3.2.imp id (fun ⟨g, c, cur, e, hg, r⟩ => ⟨g, c, cur, e, Nat.le_trans HB2.out.size hg, r⟩)⟩
      clear hO3 hC3 HPs HR2 HB2
      go_wp2_with fail
      refine (HTd.out er w3 HB3.out).mono ?_
      rintro e w4 ⟨rfl, hb4⟩
      have HB4 : Hid (Below w.heap.size w w4) := HB3.out.trans (hb4.mono HB3.out.size)
      have HO4 : Hid (Pt.OwnT 41 w.heap.size lv ps w4) := HO3.out.below hb4
      clear hb4 HB3 HO3 HTd
      generalize errN er = E at *
      obtain ⟨e1, e2⟩ := E
      dsimp only
      go_wp2
      refine bodyPost_ret (v := .tuple #[lv, .int .i64 e1, .int .i64 e2]) (by simp [results, Tryz.results12, go_sem]; try rfl) rfl ?_
      rw [HQ0.out]
      exact ⟨_, rfl, HO4.out, HB4.out⟩

end Sr
end Go.Proofs.YtndglpjkmgcdpaaGreatDoor
