/-
  Parameters, plainly: over lists of bytes.
-/
import Derived.Test.YtifhbjkgdnemjaaGreatDoorLPlain
import Derived.Test.YtifhbjkgdnemjaaGreatDoorRSay
set_option linter.unusedVariables false
set_option linter.unusedSimpArgs false
namespace Go.Proofs.YtifhbjkgdnemjaaGreatDoor
namespace Oc

/-- A parameter: its name, its value, whether it has one. -/
abbrev Prm := List UInt8 × List UInt8 × Bool
/-- How many blanks stand at the front. -/
def bl (r : List UInt8) : Nat := (r.takeWhile blankB).length
/-- A value at the front, and how many bytes it has. -/
def rv (r : List UInt8) : Option (List UInt8 × Nat) :=
  if 0 < tokLen r then some (r.take (tokLen r), tokLen r) else if qlen r = 0 then none else some (psay false ((r.drop 1).take (qlen r - 2)), qlen r)
/-- Whether a value is told behind a name of n bytes. -/
def told (r : List UInt8) (n : Nat) : Bool := decide (0 < n ∧ n < r.length ∧ r.getD n 0 = 61)
/-- A parameter at the front, and how many bytes it has. -/
def rp (r : List UInt8) : Option (Prm × Nat) :=
  if told r (tokLen r) then (rv (r.drop (tokLen r + 1))).map (fun x => ((r.take (tokLen r), x.1, true), tokLen r + 1 + x.2)) else some ((r.take (tokLen r), [], false), tokLen r)
/-- Whether a semicolon stands there. -/
def semi (r : List UInt8) (n : Nat) : Bool := decide (n < r.length ∧ r.getD n 0 = 59)
/-- One step: an error; the end; or bytes, and what they say. -/
def pstep (r : List UInt8) : Option (Option (Nat × List Prm)) :=
  if semi r (bl r) then
    (rp ((r.drop (bl r + 1)).drop (bl (r.drop (bl r + 1))))).map (fun x => some (if x.2 = 0 then (bl r + 1, []) else (bl r + 1 + bl (r.drop (bl r + 1)) + x.2, [x.1])))
  else some none
def pgo : Nat → List UInt8 → Option (List Prm × Nat)
  | 0, _ => none
  | f + 1, r => match pstep r with
    | none => none
    | some none => some ([], 0)
    | some (some x) => (pgo f (r.drop x.1)).map (fun y => (x.2 ++ y.1, x.1 + y.2))
def prm (r : List UInt8) : Option (List Prm × Nat) := pgo (r.length + 1) r

theorem bl_le (r : List UInt8) : bl r ≤ r.length := by
  unfold bl
  exact (List.takeWhile_prefix blankB).length_le
theorem tokLen_le (r : List UInt8) : tokLen r ≤ r.length := by
  unfold tokLen
  exact (List.takeWhile_prefix tokB).length_le
theorem bl_trim (r : List UInt8) : bl r + (trimL r).length = r.length := by
  unfold bl trimL
  have := congrArg List.length (List.takeWhile_append_dropWhile (p := blankB) (l := r))
  rw [List.length_append] at this
  exact this
theorem rv_le (r : List UInt8) (x : List UInt8 × Nat) (h : rv r = some x) : x.2 ≤ r.length ∧ 0 < x.2 ∧ x.1.length ≤ r.length := by
  unfold rv at h
  split at h
  · cases h
    have := tokLen_le r
    rename_i h0
    simp
    omega
  · split at h
    · cases h
    · cases h
      have hb := qlen_bd r
      have hp := psay_le ((r.drop 1).take (qlen r - 2)) false
      rw [List.length_take, List.length_drop] at hp
      rename_i h1 h2
      refine ⟨hb.1, by have := hb.2 h2; omega, ?_⟩
      show (psay _ _).length ≤ _
      omega
theorem rp_le (r : List UInt8) (x : Prm × Nat) (h : rp r = some x) : x.2 ≤ r.length ∧ x.1.1.length ≤ r.length ∧ x.1.2.1.length ≤ r.length := by
  unfold rp at h
  have ht := tokLen_le r
  split at h
  · rename_i hh
    obtain ⟨y, hy, rfl⟩ := Option.map_eq_some_iff.1 h
    have hb := rv_le _ y hy
    rw [List.length_drop] at hb
    have := of_decide_eq_true hh
    simp
    omega
  · cases h
    simp
    omega
theorem pstep_le (r : List UInt8) (x : Nat × List Prm) (h : pstep r = some (some x)) : 0 < x.1 ∧ x.1 ≤ r.length ∧ x.2.length ≤ 1 := by
  unfold pstep at h
  split at h
  · rename_i hs
    have hs := of_decide_eq_true hs
    obtain ⟨y, hy, e⟩ := Option.map_eq_some_iff.1 h
    have hy2 := rp_le _ y hy
    rw [List.length_drop, List.length_drop] at hy2
    have hb2 := bl_le (r.drop (bl r + 1))
    rw [List.length_drop] at hb2
    split at e
    · cases e
      simp
      omega
    · cases e
      simp
      omega
  · cases h
theorem pgo_fuel : ∀ (n : Nat) (r : List UInt8) (f : Nat), r.length ≤ n → r.length < f → pgo f r = prm r
  | n, r, 0, _, h => by simp at h
  | n, r, f + 1, hn, hf => by
    unfold prm
    rw [pgo, pgo]
    cases hp : pstep r with
    | none => rfl
    | some o =>
      cases o with
      | none => rfl
      | some x =>
        have hx := pstep_le r x hp
        have hd : (r.drop x.1).length < r.length := by rw [List.length_drop]; omega
        show Option.map _ (pgo f (r.drop x.1)) = Option.map _ (pgo r.length (r.drop x.1))
        cases n with
        | zero => omega
        | succ n => rw [pgo_fuel n (r.drop x.1) f (by omega) (by omega), pgo_fuel n (r.drop x.1) r.length (by omega) (by omega)]
theorem prm_none {r : List UInt8} (h : pstep r = none) : prm r = none := by unfold prm; rw [pgo, h]
theorem prm_end {r : List UInt8} (h : pstep r = some none) : prm r = some ([], 0) := by unfold prm; rw [pgo, h]
theorem prm_on {r : List UInt8} {x : Nat × List Prm} (h : pstep r = some (some x)) : prm r = (prm (r.drop x.1)).map (fun y => (x.2 ++ y.1, x.1 + y.2)) := by
  have hx := pstep_le r x h
  have hd : (r.drop x.1).length < r.length := by rw [List.length_drop]; omega
  rw [← pgo_fuel (r.drop x.1).length (r.drop x.1) r.length (Nat.le_refl _) hd]
  unfold prm
  rw [pgo, h]
/-- What Params answers. -/
def paramsR (l : List UInt8) : List Prm × Int × Int := match prm l with | some x => (x.1, (x.2 : Int), 0) | none => ([], 0, 15)
theorem paramsR_some {l : List UInt8} {x : List Prm × Nat} (h : prm l = some x) : paramsR l = (x.1, (x.2 : Int), 0) := by unfold paramsR; rw [h]
theorem paramsR_none {l : List UInt8} (h : prm l = none) : paramsR l = ([], 0, 15) := by unfold paramsR; rw [h]

theorem pstep_stop {r : List UInt8} (h : semi r (bl r) = false) : pstep r = some none := by unfold pstep; rw [h]; rfl
theorem pstep_bad {r : List UInt8} (h : semi r (bl r) = true) (h2 : rp ((r.drop (bl r + 1)).drop (bl (r.drop (bl r + 1)))) = none) : pstep r = none := by unfold pstep; rw [if_pos h, h2]; rfl
theorem pstep_empty {r : List UInt8} {x : Prm × Nat} (h : semi r (bl r) = true) (h2 : rp ((r.drop (bl r + 1)).drop (bl (r.drop (bl r + 1)))) = some x) (h3 : x.2 = 0) : pstep r = some (some (bl r + 1, [])) := by
  unfold pstep; rw [if_pos h, h2]; simp [h3]
theorem pstep_one {r : List UInt8} {x : Prm × Nat} (h : semi r (bl r) = true) (h2 : rp ((r.drop (bl r + 1)).drop (bl (r.drop (bl r + 1)))) = some x) (h3 : x.2 ≠ 0) :
    pstep r = some (some (bl r + 1 + bl (r.drop (bl r + 1)) + x.2, [x.1])) := by
  unfold pstep; rw [if_pos h, h2]; simp [h3]

end Oc
end Go.Proofs.YtifhbjkgdnemjaaGreatDoor
