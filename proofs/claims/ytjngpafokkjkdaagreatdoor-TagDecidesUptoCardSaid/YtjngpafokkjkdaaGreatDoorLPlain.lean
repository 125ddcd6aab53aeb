/-
  Lists, plainly: over lists of bytes.
-/
import Derived.Test.YtjngpafokkjkdaaGreatDoorQPlain
import Derived.Test.YtjngpafokkjkdaaGreatDoorTrim
set_option linter.unusedVariables false
set_option linter.unusedSimpArgs false
namespace Go.Proofs.YtjngpafokkjkdaaGreatDoor
namespace Oc

/-- An element that is not empty comes ahead. -/
def addEl (x : List UInt8) (t : List (List UInt8)) : List (List UInt8) := if x = [] then t else x :: t
/-- The elements: what stands since the last comma, and what is left; by fuel. -/
def lgo : Nat → List UInt8 → List UInt8 → Option (List (List UInt8))
  | 0, _, _ => none
  | f + 1, cur, [] => some (addEl (trim cur) [])
  | f + 1, cur, c :: r =>
    if c = 44 then (lgo f [] r).map (addEl (trim cur))
    else if c = 34 then (if qlen (c :: r) = 0 then none else lgo f (cur ++ (c :: r).take (qlen (c :: r))) ((c :: r).drop (qlen (c :: r))))
    else lgo f (cur ++ [c]) r
def lst (cur r : List UInt8) : Option (List (List UInt8)) := lgo (r.length + 1) cur r

theorem lgo_fuel : ∀ (n : Nat) (r : List UInt8) (f : Nat) (cur : List UInt8), r.length ≤ n → r.length < f → lgo f cur r = lst cur r
  | n, [], 0, cur, _, h => by simp at h
  | n, [], f + 1, cur, _, _ => rfl
  | 0, c :: r, f, cur, h, _ => by simp at h
  | n + 1, c :: r, 0, cur, _, h => by simp at h
  | n + 1, c :: r, f + 1, cur, hn, hf => by
    have hl : r.length ≤ n := by simpa using hn
    have hf' : r.length < f := by simpa using hf
    unfold lst
    show lgo (f + 1) cur (c :: r) = lgo (r.length + 1 + 1) cur (c :: r)
    rw [lgo, lgo]
    by_cases h44 : c = 44
    · rw [if_pos h44, if_pos h44, lgo_fuel n r f [] hl hf', lgo_fuel n r (r.length + 1) [] hl (by omega)]
    · rw [if_neg h44, if_neg h44]
      by_cases h34 : c = 34
      · rw [if_pos h34, if_pos h34]
        by_cases hq : qlen (c :: r) = 0
        · rw [if_pos hq, if_pos hq]
        · rw [if_neg hq, if_neg hq]
          have hd : ((c :: r).drop (qlen (c :: r))).length ≤ r.length := by
            rw [List.length_drop]
            simp
            omega
          rw [lgo_fuel n _ f _ (by omega) (by omega), lgo_fuel n _ (r.length + 1) _ (by omega) (by omega)]
      · rw [if_neg h34, if_neg h34, lgo_fuel n r f _ hl hf', lgo_fuel n r (r.length + 1) _ hl (by omega)]

theorem lst_nil (cur : List UInt8) : lst cur [] = some (addEl (trim cur) []) := rfl
theorem lst_comma (cur r : List UInt8) (c : UInt8) (h : c = 44) : lst cur (c :: r) = (lst [] r).map (addEl (trim cur)) := by
  unfold lst
  show lgo (r.length + 1 + 1) cur (c :: r) = _
  rw [lgo, if_pos h]
theorem lst_bad (cur r : List UInt8) (c : UInt8) (h : c = 34) (hq : qlen (c :: r) = 0) : lst cur (c :: r) = none := by
  unfold lst
  show lgo (r.length + 1 + 1) cur (c :: r) = _
  rw [lgo, if_neg (by rw [h]; decide), if_pos h, if_pos hq]
theorem lst_quote (cur r : List UInt8) (c : UInt8) (h : c = 34) (hq : ¬ qlen (c :: r) = 0) : lst cur (c :: r) = lst (cur ++ (c :: r).take (qlen (c :: r))) ((c :: r).drop (qlen (c :: r))) := by
  have hd : ((c :: r).drop (qlen (c :: r))).length ≤ r.length := by
    rw [List.length_drop]
    simp
    omega
  rw [← lgo_fuel ((c :: r).drop (qlen (c :: r))).length _ (r.length + 1) _ (Nat.le_refl _) (by omega)]
  unfold lst
  show lgo (r.length + 1 + 1) cur (c :: r) = _
  rw [lgo, if_neg (by rw [h]; decide), if_pos h, if_neg hq]
theorem lst_on (cur r : List UInt8) (c : UInt8) (h : c ≠ 44) (h2 : c ≠ 34) : lst cur (c :: r) = lst (cur ++ [c]) r := by
  unfold lst
  show lgo (r.length + 1 + 1) cur (c :: r) = _
  rw [lgo, if_neg h, if_neg h2]

/-- What List answers. -/
def listR (l : List UInt8) : List (List UInt8) × Int := match lst [] l with | some t => (t, 0) | none => ([], 14)
theorem listR_some {l : List UInt8} {t : List (List UInt8)} (h : lst [] l = some t) : listR l = (t, 0) := by unfold listR; rw [h]
theorem listR_none {l : List UInt8} (h : lst [] l = none) : listR l = ([], 14) := by unfold listR; rw [h]
theorem addEl_none {x : List UInt8} (h : x = []) (t : List (List UInt8)) : addEl x t = t := by unfold addEl; rw [if_pos h]
theorem addEl_some {x : List UInt8} (h : x ≠ []) (t : List (List UInt8)) : addEl x t = x :: t := by unfold addEl; rw [if_neg h]
theorem addEl_app (x : List UInt8) (t : List (List UInt8)) : addEl x t = addEl x [] ++ t := by unfold addEl; split <;> simp

/-! What follows -/
theorem scan_append : ∀ (l x : List UInt8) (e : Bool) (k : Nat), qscan e l = some k → qscan e (l ++ x) = some k
  | [], x, e, k, h => by simp [qscan] at h
  | c :: l, x, e, k, h => by
    rw [List.cons_append]
    rw [qscan] at h ⊢
    split at h
    · cases h
    · rename_i hf
      rw [if_neg hf]
      split at h
      · rename_i he
        rw [if_pos he]
        obtain ⟨j, hj, rfl⟩ := Option.map_eq_some_iff.1 h
        rw [scan_append l x _ j hj]
        rfl
      · rename_i he
        rw [if_neg he]
        split at h
        · rename_i h92
          rw [if_pos h92]
          obtain ⟨j, hj, rfl⟩ := Option.map_eq_some_iff.1 h
          rw [scan_append l x _ j hj]
          rfl
        · rename_i h92
          rw [if_neg h92]
          split at h
          · rename_i h34
            rw [if_pos h34]
            exact h
          · rename_i h34
            rw [if_neg h34]
            obtain ⟨j, hj, rfl⟩ := Option.map_eq_some_iff.1 h
            rw [scan_append l x _ j hj]
            rfl
theorem qlen_append (l x : List UInt8) (h : ¬ qlen l = 0) : qlen (l ++ x) = qlen l := by
  cases l with
  | nil => exact absurd rfl h
  | cons c l =>
    rw [List.cons_append, qlen_cons, qlen_cons]
    rw [qlen_cons] at h
    by_cases hc : c = 34
    · rw [if_pos hc] at h ⊢
      rw [if_pos hc]
      cases hq : qscan false l with
      | none => rw [hq] at h; exact absurd rfl h
      | some k => rw [scan_append l x false k hq]
    · rw [if_neg hc] at h; exact absurd rfl h

theorem lst_split : ∀ (n : Nat) (a : List UInt8) (cur b : List UInt8) (t : List (List UInt8)), a.length ≤ n → lst cur a = some t → lst cur (a ++ 44 :: b) = (lst [] b).map (t ++ ·)
  | n, [], cur, b, t, _, h => by
    rw [lst_nil] at h
    cases h
    rw [List.nil_append, lst_comma _ _ _ rfl]
    congr 1
    funext x
    exact addEl_app _ x
  | 0, c :: a, cur, b, t, hn, _ => by simp at hn
  | n + 1, c :: a, cur, b, t, hn, h => by
    have hl : a.length ≤ n := by simpa using hn
    rw [List.cons_append]
    by_cases h44 : c = 44
    · rw [lst_comma _ _ _ h44] at h ⊢
      obtain ⟨u, hu, rfl⟩ := Option.map_eq_some_iff.1 h
      rw [lst_split n a [] b u hl hu, Option.map_map]
      congr 1
      funext x
      show addEl _ (u ++ x) = addEl _ u ++ x
      unfold addEl
      split <;> rfl
    · by_cases h34 : c = 34
      · by_cases hq : qlen (c :: a) = 0
        · rw [lst_bad _ _ _ h34 hq] at h; cases h
        · rw [lst_quote _ _ _ h34 hq] at h
          have e := qlen_append (c :: a) (44 :: b) hq
          rw [List.cons_append] at e
          rw [lst_quote _ _ _ h34 (by rw [e]; exact hq), e]
          have hb := qlen_bd (c :: a)
          have e1 : (c :: (a ++ 44 :: b)).take (qlen (c :: a)) = (c :: a).take (qlen (c :: a)) := by
            rw [← List.cons_append, List.take_append_of_le_length hb.1]
          have e2 : (c :: (a ++ 44 :: b)).drop (qlen (c :: a)) = (c :: a).drop (qlen (c :: a)) ++ 44 :: b := by
            rw [← List.cons_append, List.drop_append_of_le_length hb.1]
          rw [e1, e2]
          exact lst_split n _ _ b t (by rw [List.length_drop]; simp; omega) h
      · rw [lst_on _ _ _ h44 h34] at h ⊢
        exact lst_split n a _ b t hl h

theorem trim_blank (l : List UInt8) : trim (32 :: l) = trim l := by
  unfold trim
  rw [trimL_cons, if_pos (by decide)]
theorem lst_blank : ∀ (n : Nat) (r cur : List UInt8), r.length ≤ n → lst (32 :: cur) r = lst cur r
  | n, [], cur, _ => by rw [lst_nil, lst_nil, trim_blank]
  | 0, c :: r, cur, h => by simp at h
  | n + 1, c :: r, cur, h => by
    have hl : r.length ≤ n := by simpa using h
    by_cases h44 : c = 44
    · rw [lst_comma _ _ _ h44, lst_comma _ _ _ h44, trim_blank]
    · by_cases h34 : c = 34
      · by_cases hq : qlen (c :: r) = 0
        · rw [lst_bad _ _ _ h34 hq, lst_bad _ _ _ h34 hq]
        · rw [lst_quote _ _ _ h34 hq, lst_quote _ _ _ h34 hq, List.cons_append]
          exact lst_blank n _ _ (by rw [List.length_drop]; simp; omega)
      · rw [lst_on _ _ _ h44 h34, lst_on _ _ _ h44 h34, List.cons_append]
        exact lst_blank n r _ hl

end Oc
end Go.Proofs.YtjngpafokkjkdaaGreatDoor
