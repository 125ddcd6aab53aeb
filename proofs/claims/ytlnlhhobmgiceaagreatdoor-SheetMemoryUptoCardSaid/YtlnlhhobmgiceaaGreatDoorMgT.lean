/- Several texts as one. -/
import Derived.Test.YtlnlhhobmgiceaaGreatDoorMgE
import Derived.Test.YtlnlhhobmgiceaaGreatDoorMgS
import Derived.Test.YtlnlhhobmgiceaaGreatDoorMgD
import Derived.Test.YtlnlhhobmgiceaaGreatDoorMgG
namespace Go.Proofs
end Go.Proofs

/-
  The laws of sheet's pairs: IsBoundary of "B", awake, the law's pairs.
-/
set_option linter.unusedVariables false
set_option linter.unusedSimpArgs false
namespace Go.Proofs.YtlnlhhobmgiceaaGreatDoor
open Go.RowKit Go.Shelf
namespace Tg
open Oc

set_option maxRecDepth 100000 in
set_option maxHeartbeats 1000000 in
theorem pairs15_any (v1 v2 : Value) (t : List Prm) (w : World) (h1 : RdQ v1 t w) (h2 : RdQ v2 t w) (hl : t.length ≤ 4294967296) :
    Calls Tryz.prog 10 #[v1, v2] w fun e w' => e = .returned (.bool true) ∧ ∃ n, w' = w.drewN n := by
  obtain ⟨a1, c1, rfl, h1⟩ := h1
  obtain ⟨a2, c2, rfl, h2⟩ := h2
  have hne : ((t.length : Int) != (t.length : Int)) = false := by simp
  go_enter Tryz.func10, Tryz.ntmps10
  go_wp2
  go_loopw [5] (fun i wr => ∃ k : Nat, k ≤ t.length ∧ i = .int .i64 k ∧ Hid (∃ n, wr = w.drewN n)) (fun i _ => t.length - (intOf i).toNat)
  case atStart => exact ⟨0, Nat.zero_le _, rfl, (⟨0, rfl⟩ : ∃ n, w = w.drewN n)⟩
  case round =>
    obtain ⟨k, hk, rfl, hw⟩ := hrel
    obtain ⟨n, rfl⟩ := hw.out
    clear hw
    by_cases hlt : k < t.length
    · rcases h1 with h | ⟨g1, o1, rfl, hc1, hcell1⟩
      · rw [h] at hlt; simp at hlt
      rcases h2 with h | ⟨g2, o2, rfl, hc2, hcell2⟩
      · rw [h] at hlt; simp at hlt
      obtain ⟨p0, p1, p2⟩ := hcell1 k hlt
      obtain ⟨q0, q1, q2⟩ := hcell2 k hlt
      clear hcell1 hcell2
      generalize str (nth t k).1 = x at p0 q0
      generalize str (nth t k).2.1 = y at p1 q1
      generalize (nth t k).2.2 = z at p2 q2
      have hz : (z != z) = false := by simp
      go_wp2_with fail
      go_quiet (fail)
      go_wp2
      go_roundw
      case rel => exact ⟨k + 1, by omega, by go_num, drawn_again w _ _⟩
      case measure => simp [intOf]; omega
    · go_wp2
      go_ret
      exact ⟨rfl, _, rfl⟩


/-- The signs of a boundary. -/
def bndS : ByteArray := ⟨#[65, 66, 67, 68, 69, 70, 71, 72, 73, 74, 75, 76, 77, 78, 79, 80, 81, 82, 83, 84, 85, 86, 87, 88, 89, 90, 97, 98, 99, 100, 101, 102, 103, 104, 105, 106, 107, 108, 109, 110, 111, 112, 113, 114, 115, 116, 117, 118, 119, 120, 121, 122, 48, 49, 50, 51, 52, 53, 54, 55, 56, 57, 39, 40, 41, 43, 95, 44, 45, 46, 47, 58, 61, 63]⟩
theorem TrimB (w : World) : Calls Tryz.prog 66 #[.string ⟨#[66]⟩, .string bndS] w fun e w' => e = .returned (.string ⟨#[]⟩) ∧ Below w.heap.size w w' := by
  have hcon := Any.strings_TrimLeft_laid Tryz.lays161 (by kernel_rfl) ⟨#[66]⟩ bndS w (by decide) (ascii_of_all (by decide))
  exact hcon

set_option maxRecDepth 100000 in
set_option maxHeartbeats 1000000 in
theorem IsBoundary_B (w : World) : Calls Tryz.prog 33 #[.string ⟨#[66]⟩] w fun e w' => e = .returned (.bool true) ∧ Below w.heap.size w w' := by
  have HT : Hid (∀ w, _) := fun w => TrimB w
  unfold bndS at HT
  go_enter Tryz.func33, Tryz.ntmps33
  go_wp2_with fail
  refine (HT.out _).mono ?_
  rintro e w1 ⟨rfl, hb1⟩
  go_wp2
  go_ret
  exact ⟨rfl, hb1⟩

theorem awake_whole : whole [97, 61, 98, 43, 99] = true := by
  rw [whole_cons (by decide), whole_cons (by decide), whole_cons (by decide), whole_cons (by decide), whole_cons (by decide)]
  exact whole_nil
theorem awake_dec (c : UInt8) (h : c ≠ 37) : decR [c] = ([c], 0, 0) := by
  rw [decR_whole _ (by rw [whole_cons h]; exact whole_nil), zs_one c [] (trip_ne h []), zs_nil]; rfl
theorem awake_shp : shpR [97, 61, 98, 43, 99] = ([([97], [98, 32, 99], true)], 0, 0) := by
  unfold shpR
  rw [awake_whole, if_pos rfl]
  have e1 : splitB 38 [97, 61, 98, 43, 99] = [[97, 61, 98, 43, 99]] := by decide +kernel
  have e2 : cutA 61 [97, 61, 98, 43, 99] = [97] ∧ cutB 61 [97, 61, 98, 43, 99] = [98, 43, 99] ∧ has 61 [97, 61, 98, 43, 99] = true := by decide +kernel
  have e3 : ([97] : List UInt8).map sp = [97] ∧ ([98, 43, 99] : List UInt8).map sp = [98, 32, 99] := by decide +kernel
  have e4 : decR [98, 32, 99] = ([98, 32, 99], 0, 0) := by
    rw [decR_whole _ (by rw [whole_cons (by decide), whole_cons (by decide), whole_cons (by decide)]; exact whole_nil), zs_one _ _ (trip_ne (by decide) _), zs_one _ _ (trip_ne (by decide) _), zs_one _ _ (trip_ne (by decide) _), zs_nil]
    rfl
  unfold pairsR
  rw [e1]
  simp only [List.filter_cons, List.filter_nil, ne_eq, reduceCtorEq, not_false_eq_true, decide_true, if_true, List.map_cons, List.map_nil]
  unfold pairR spd
  rw [e2.1, e2.2.1, e2.2.2, e3.1, e3.2, awake_dec 97 (by decide), e4]

set_option maxRecDepth 100000 in
set_option maxHeartbeats 2000000 in
theorem awake15_any (w : World) (hm : ML w) :
    Calls Tryz.prog 13 #[] w fun e w' => e = .returned (.bool true) ∧ Below w.heap.size w w' := by
  have HP : Hid (Calls Tryz.prog 7 #[.string ⟨#[97, 61, 98, 43, 99]⟩] w fun e w' => ∃ v, e = .returned (.tuple #[v, .int .i64 0, .int .i64 0]) ∧ OwnQ 47 w.heap.size v [([97], [98, 32, 99], true)] w' ∧ Below w.heap.size w w') := by
    have h := Pairs_any ⟨#[97, 61, 98, 43, 99]⟩ (by decide) w hm
    rw [show (⟨#[97, 61, 98, 43, 99]⟩ : ByteArray).data.toList = [97, 61, 98, 43, 99] from rfl, awake_shp] at h
    exact h
  have HI : Hid (∀ w, _) := fun w => IsBoundary_B w
  clear hm
  go_enter Tryz.func13, Tryz.ntmps13
  go_wp2_with fail
  refine HP.out.mono ?_
  rintro e w1 ⟨v, rfl, ho, hb1⟩
  obtain ⟨a, c, rfl, hr⟩ := ho.rd
  obtain ⟨g, o, rfl, hc, hcell⟩ : ∃ g o, a = some ⟨g, o, none⟩ ∧ [(([97] : List UInt8), ([98, 32, 99] : List UInt8), true)].length ≤ c ∧ ∀ j, j < [(([97] : List UInt8), ([98, 32, 99] : List UInt8), true)].length → w1.cell? ⟨g, o + j * 3, none⟩ = some (.string (str (nth [([97], [98, 32, 99], true)] j).1)) ∧ w1.cell? ⟨g, o + j * 3 + 1, none⟩ = some (.string (str (nth [([97], [98, 32, 99], true)] j).2.1)) ∧ w1.cell? ⟨g, o + j * 3 + 2, none⟩ = some (.bool (nth [([97], [98, 32, 99], true)] j).2.2) := by
    rcases hr with h | h
    · cases h
    · exact h
  obtain ⟨c0, c1, c2⟩ := hcell 0 (by decide)
  have c0' : w1.cell? ⟨g, o, none⟩ = some (.string ⟨#[97]⟩) := c0
  have c1' : w1.cell? ⟨g, o + 1, none⟩ = some (.string ⟨#[98, 32, 99]⟩) := by have := c1; rw [Nat.zero_mul, Nat.add_zero] at this; exact this
  have c2' : w1.cell? ⟨g, o + 2, none⟩ = some (.bool true) := by have := c2; rw [Nat.zero_mul, Nat.add_zero] at this; exact this
  have hc1 : 1 ≤ c := hc
  have HB1 : Hid (Below w.heap.size w w1) := hb1
  clear c0 c1 c2 hcell hr hb1 ho hc
  have hln : [(([97] : List UInt8), ([98, 32, 99] : List UInt8), true)].length = 1 := rfl
  rw [hln]
  clear hln
  go_wp2_with fail
  refine (HI.out _).mono ?_
  rintro e w2 ⟨rfl, hb2⟩
  go_wp2
  go_ret
  exact ⟨rfl, HB1.out.trans (hb2.mono HB1.out.size)⟩

theorem qs_pairs_len (l : List UInt8) : (pairsR l).length ≤ l.length + 1 := by
  unfold pairsR
  rw [List.length_map]
  exact Nat.le_trans (List.length_filter_le _ _) (split_len 38 l)
theorem shpR_len (l : List UInt8) : (shpR l).1.length ≤ l.length + 1 := by
  unfold shpR
  split
  · exact qs_pairs_len l
  · exact Nat.zero_le _

end Tg
end Go.Proofs.YtlnlhhobmgiceaaGreatDoor

/-
  Parameters, plainly: over lists of bytes.
-/
set_option linter.unusedVariables false
set_option linter.unusedSimpArgs false
namespace Go.Proofs.YtlnlhhobmgiceaaGreatDoor
namespace Oc

/-- A parameter: its name, its value, whether it has one. -/
abbrev Prm := List UInt8 × List UInt8 × Bool
/-- How many blanks stand at the front. -/
def bl (r : List UInt8) : Nat := (r.takeWhile blankB).length
/-- A value at the front, and how many bytes it has. -/
def rv (r : List UInt8) : Option (List UInt8 × Nat) :=
  if 0 < tokLen r then some (r.take (tokLen r), tokLen r) else if qlen r = 0 then none else some (psay false ((r.drop 1).take (qlen r - 2)), qlen r)
/-- Whether a value is told behind a name of n bytes. -/
def told (r : List UInt8) (n : Nat) : Bool := decide (0 < n ∧ n < r.length ∧ r.getD n 0 = 61)
/-- A parameter at the front, and how many bytes it has. -/
def rp (r : List UInt8) : Option (Prm × Nat) :=
  if told r (tokLen r) then (rv (r.drop (tokLen r + 1))).map (fun x => ((r.take (tokLen r), x.1, true), tokLen r + 1 + x.2)) else some ((r.take (tokLen r), [], false), tokLen r)
/-- Whether a semicolon stands there. -/
def semi (r : List UInt8) (n : Nat) : Bool := decide (n < r.length ∧ r.getD n 0 = 59)
/-- One step: an error; the end; or bytes, and what they say. -/
def pstep (r : List UInt8) : Option (Option (Nat × List Prm)) :=
  if semi r (bl r) then
    (rp ((r.drop (bl r + 1)).drop (bl (r.drop (bl r + 1))))).map (fun x => some (if x.2 = 0 then (bl r + 1, []) else (bl r + 1 + bl (r.drop (bl r + 1)) + x.2, [x.1])))
  else some none
def pgo : Nat → List UInt8 → Option (List Prm × Nat)
  | 0, _ => none
  | f + 1, r => match pstep r with
    | none => none
    | some none => some ([], 0)
    | some (some x) => (pgo f (r.drop x.1)).map (fun y => (x.2 ++ y.1, x.1 + y.2))
def prm (r : List UInt8) : Option (List Prm × Nat) := pgo (r.length + 1) r

theorem bl_le (r : List UInt8) : bl r ≤ r.length := by
  unfold bl
  exact (List.takeWhile_prefix blankB).length_le
theorem tokLen_le (r : List UInt8) : tokLen r ≤ r.length := by
  unfold tokLen
  exact (List.takeWhile_prefix tokB).length_le
theorem bl_trim (r : List UInt8) : bl r + (trimL r).length = r.length := by
  unfold bl trimL
  have := congrArg List.length (List.takeWhile_append_dropWhile (p := blankB) (l := r))
  rw [List.length_append] at this
  exact this
theorem rv_le (r : List UInt8) (x : List UInt8 × Nat) (h : rv r = some x) : x.2 ≤ r.length ∧ 0 < x.2 ∧ x.1.length ≤ r.length := by
  unfold rv at h
  split at h
  · cases h
    have := tokLen_le r
    rename_i h0
    simp
    omega
  · split at h
    · cases h
    · cases h
      have hb := qlen_bd r
      have hp := psay_le ((r.drop 1).take (qlen r - 2)) false
      rw [List.length_take, List.length_drop] at hp
      rename_i h1 h2
      refine ⟨hb.1, by have := hb.2 h2; omega, ?_⟩
      show (psay _ _).length ≤ _
      omega
theorem rp_le (r : List UInt8) (x : Prm × Nat) (h : rp r = some x) : x.2 ≤ r.length ∧ x.1.1.length ≤ r.length ∧ x.1.2.1.length ≤ r.length := by
  unfold rp at h
  have ht := tokLen_le r
  split at h
  · rename_i hh
    obtain ⟨y, hy, rfl⟩ := Option.map_eq_some_iff.1 h
    have hb := rv_le _ y hy
    rw [List.length_drop] at hb
    have := of_decide_eq_true hh
    simp
    omega
  · cases h
    simp
    omega
theorem pstep_le (r : List UInt8) (x : Nat × List Prm) (h : pstep r = some (some x)) : 0 < x.1 ∧ x.1 ≤ r.length ∧ x.2.length ≤ 1 := by
  unfold pstep at h
  split at h
  · rename_i hs
    have hs := of_decide_eq_true hs
    obtain ⟨y, hy, e⟩ := Option.map_eq_some_iff.1 h
    have hy2 := rp_le _ y hy
    rw [List.length_drop, List.length_drop] at hy2
    have hb2 := bl_le (r.drop (bl r + 1))
    rw [List.length_drop] at hb2
    split at e
    · cases e
      simp
      omega
    · cases e
      simp
      omega
  · cases h
theorem pgo_fuel : ∀ (n : Nat) (r : List UInt8) (f : Nat), r.length ≤ n → r.length < f → pgo f r = prm r
  | n, r, 0, _, h => by simp at h
  | n, r, f + 1, hn, hf => by
    unfold prm
    rw [pgo, pgo]
    cases hp : pstep r with
    | none => rfl
    | some o =>
      cases o with
      | none => rfl
      | some x =>
        have hx := pstep_le r x hp
        have hd : (r.drop x.1).length < r.length := by rw [List.length_drop]; omega
        show Option.map _ (pgo f (r.drop x.1)) = Option.map _ (pgo r.length (r.drop x.1))
        cases n with
        | zero => omega
        | succ n => rw [pgo_fuel n (r.drop x.1) f (by omega) (by omega), pgo_fuel n (r.drop x.1) r.length (by omega) (by omega)]
theorem prm_none {r : List UInt8} (h : pstep r = none) : prm r = none := by unfold prm; rw [pgo, h]
theorem prm_end {r : List UInt8} (h : pstep r = some none) : prm r = some ([], 0) := by unfold prm; rw [pgo, h]
theorem prm_on {r : List UInt8} {x : Nat × List Prm} (h : pstep r = some (some x)) : prm r = (prm (r.drop x.1)).map (fun y => (x.2 ++ y.1, x.1 + y.2)) := by
  have hx := pstep_le r x h
  have hd : (r.drop x.1).length < r.length := by rw [List.length_drop]; omega
  rw [← pgo_fuel (r.drop x.1).length (r.drop x.1) r.length (Nat.le_refl _) hd]
  unfold prm
  rw [pgo, h]
/-- What Params answers. -/
def paramsR (l : List UInt8) : List Prm × Int × Int := match prm l with | some x => (x.1, (x.2 : Int), 0) | none => ([], 0, 15)
theorem paramsR_some {l : List UInt8} {x : List Prm × Nat} (h : prm l = some x) : paramsR l = (x.1, (x.2 : Int), 0) := by unfold paramsR; rw [h]
theorem paramsR_none {l : List UInt8} (h : prm l = none) : paramsR l = ([], 0, 15) := by unfold paramsR; rw [h]

theorem pstep_stop {r : List UInt8} (h : semi r (bl r) = false) : pstep r = some none := by unfold pstep; rw [h]; rfl
theorem pstep_bad {r : List UInt8} (h : semi r (bl r) = true) (h2 : rp ((r.drop (bl r + 1)).drop (bl (r.drop (bl r + 1)))) = none) : pstep r = none := by unfold pstep; rw [if_pos h, h2]; rfl
theorem pstep_empty {r : List UInt8} {x : Prm × Nat} (h : semi r (bl r) = true) (h2 : rp ((r.drop (bl r + 1)).drop (bl (r.drop (bl r + 1)))) = some x) (h3 : x.2 = 0) : pstep r = some (some (bl r + 1, [])) := by
  unfold pstep; rw [if_pos h, h2]; simp [h3]
theorem pstep_one {r : List UInt8} {x : Prm × Nat} (h : semi r (bl r) = true) (h2 : rp ((r.drop (bl r + 1)).drop (bl (r.drop (bl r + 1)))) = some x) (h3 : x.2 ≠ 0) :
    pstep r = some (some (bl r + 1 + bl (r.drop (bl r + 1)) + x.2, [x.1])) := by
  unfold pstep; rw [if_pos h, h2]; simp [h3]

end Oc
end Go.Proofs.YtlnlhhobmgiceaaGreatDoor
