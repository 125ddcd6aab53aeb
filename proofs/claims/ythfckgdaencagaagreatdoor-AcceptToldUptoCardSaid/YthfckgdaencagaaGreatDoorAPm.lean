/-
  Parameters: how long they are; names turned to small letters in their place.
-/
import Derived.Test.YthfckgdaencagaaGreatDoorMgU
import Derived.Test.YthfckgdaencagaaGreatDoorMgV
set_option linter.unusedVariables false
set_option linter.unusedSimpArgs false
namespace Go.Proofs.YthfckgdaencagaaGreatDoor
open Go.RowKit Go.Shelf
namespace Ac
open Oc Tg

theorem pstep_each (r : List UInt8) (x : Nat × List Prm) (h : pstep r = some (some x)) : ∀ p ∈ x.2, p.1.length ≤ r.length ∧ p.2.1.length ≤ r.length := by
  unfold pstep at h
  split at h
  · obtain ⟨y, hy, e⟩ := Option.map_eq_some_iff.1 h
    have hl := rp_le _ y hy
    rw [List.length_drop, List.length_drop] at hl
    cases e
    intro p hp
    split at hp
    · cases hp
    · simp at hp
      subst hp
      omega
  · cases h
theorem pgo_each : ∀ (f : Nat) (r : List UInt8) (y : List Prm × Nat), pgo f r = some y → y.2 ≤ r.length ∧ EachP r.length y.1
  | 0, r, y, h => by cases h
  | f + 1, r, y, h => by
    rw [pgo] at h
    cases hp : pstep r with
    | none => rw [hp] at h; cases h
    | some o =>
      rw [hp] at h
      cases o with
      | none => cases h; exact ⟨Nat.zero_le _, fun p hp => by cases hp⟩
      | some x =>
        have hx := pstep_le r x hp
        have he := pstep_each r x hp
        obtain ⟨z, hz, e⟩ := Option.map_eq_some_iff.1 h
        have ih := pgo_each f _ z hz
        rw [List.length_drop] at ih
        cases e
        refine ⟨by show x.1 + z.2 ≤ _; omega, fun p hp => ?_⟩
        rcases List.mem_append.1 hp with h | h
        · exact he p h
        · have := ih.2 p h
          omega
theorem params_bd (l : List UInt8) : 0 ≤ (paramsR l).2.1 ∧ (paramsR l).2.1 ≤ l.length ∧ EachP l.length (paramsR l).1 ∧ (paramsR l).1.length ≤ l.length := by
  refine ⟨?_, ?_, ?_, paramsR_short l⟩
  all_goals
    unfold paramsR
    cases h : prm l with
    | none => first | (exact Int.le_refl _) | (simp; done) | (intro p hp; cases hp)
    | some y =>
      have := pgo_each _ _ _ h
      first | (simp; done) | (simp; omega) | exact this.2
theorem lower_len (l : List UInt8) : (lower l).length = l.length := by unfold lower; simp
theorem EachP.low {M : Nat} {l : List Prm} (h : EachP M l) : EachP M (l.map lowP) := by
  intro p hp
  obtain ⟨q, hq, rfl⟩ := List.mem_map.1 hp
  have := h q hq
  unfold lowP
  rw [lower_len]
  exact this
theorem EachP.mono {M N : Nat} {l : List Prm} (h : EachP M l) (hN : M ≤ N) : EachP N l := fun p hp => by have := h p hp; omega

/-- The first k names turned. -/
def lowK (k : Nat) (ps : List Prm) : List Prm := (ps.take k).map lowP ++ ps.drop k
theorem lowK_zero (ps : List Prm) : lowK 0 ps = ps := by simp [lowK]
theorem lowK_all (ps : List Prm) : lowK ps.length ps = ps.map lowP := by simp [lowK]
theorem lowK_len (k : Nat) (ps : List Prm) : (lowK k ps).length = ps.length := by simp [lowK]; omega
theorem lowK_at (k : Nat) (ps : List Prm) (hk : k < ps.length) : nth (lowK k ps) k = nth ps k := by
  unfold nth lowK
  rw [List.getD_eq_getElem?_getD, List.getD_eq_getElem?_getD, List.getElem?_append_right (by simp; omega), List.getElem?_drop]
  congr 2
  simp
  omega
theorem lowK_set (k : Nat) (ps : List Prm) (hk : k < ps.length) : (lowK k ps).set k (lower (nth ps k).1, (nth ps k).2.1, (nth ps k).2.2) = lowK (k + 1) ps := by
  have e : ps.drop k = nth ps k :: ps.drop (k + 1) := by
    rw [List.drop_eq_getElem_cons hk]
    unfold nth
    rw [List.getD_eq_getElem?_getD, List.getElem?_eq_getElem hk]
    rfl
  have e2 : ps.take (k + 1) = ps.take k ++ [nth ps k] := by
    rw [List.take_succ_eq_append_getElem hk]
    unfold nth
    rw [List.getD_eq_getElem?_getD, List.getElem?_eq_getElem hk]
    rfl
  unfold lowK
  rw [e2, List.map_append, e, List.set_append_right _ _ (by simp; omega)]
  have : k - (List.map lowP (List.take k ps)).length = 0 := by simp; omega
  rw [this]
  simp [lowP]
theorem encP_set : ∀ (t : List Prm) (k : Nat) (n : List UInt8), k < t.length → encP (t.set k (n, (nth t k).2.1, (nth t k).2.2)) = (encP t).set (k * 3) (.string (str n))
  | [], k, n, h => by simp at h
  | p :: t, 0, n, _ => rfl
  | p :: t, k + 1, n, h => by
    have ih := encP_set t k n (by simpa using h)
    have en : nth (p :: t) (k + 1) = nth t k := by unfold nth; simp
    have e : ∀ u, encP (p :: u) = [.string (str p.1), .string (str p.2.1), .bool p.2.2] ++ encP u := fun u => rfl
    rw [List.set_cons_succ, en, e, ih, e, List.set_append_right _ _ (by simp; omega)]
    congr 2
    simp
    omega
theorem OwnP.mono {T B B' : Nat} {v : Value} {t : List Prm} {w : World} (h : OwnP T B v t w) (hB : B' ≤ B) : OwnP T B' v t w := by
  refine ⟨h.1, ?_⟩
  rcases h.2 with hn | ⟨g, cap, cur, rfl, hb, rest⟩
  · exact .inl hn
  · exact .inr ⟨g, cap, cur, rfl, by omega, rest⟩
theorem OwnP.setName {T B g n cap : Nat} {t : List Prm} {w : World} (h : OwnP T B (.slice (some ⟨g, 0, none⟩) n cap) t w) (k : Nat) (hk : k < t.length) (m : List UInt8) :
    OwnP T B (.slice (some ⟨g, 0, none⟩) n cap) (t.set k (m, (nth t k).2.1, (nth t k).2.2)) (w.setCell ⟨g, k * 3, none⟩ (.string (str m))) := by
  have hn : n = t.length := by
    obtain ⟨a, c, e, _⟩ := OwnP.rd h
    injection e with _ e2 _
  subst hn
  unfold OwnP at *
  rw [encP_set t k m hk, List.length_set]
  exact (World.ownsRow.stored h (k * 3) _).1

end Ac
end Go.Proofs.YthfckgdaencagaaGreatDoor
