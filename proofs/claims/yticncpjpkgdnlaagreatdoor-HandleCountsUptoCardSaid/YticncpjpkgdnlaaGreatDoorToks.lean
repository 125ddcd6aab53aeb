/-
  Lists of tokens; texts held against texts.
-/
import Derived.Test.YticncpjpkgdnlaaGreatDoorMgF
set_option linter.unusedVariables false
set_option linter.unusedSimpArgs false
namespace Go.Proofs.YticncpjpkgdnlaaGreatDoor
open Go.RowKit Go.Shelf
namespace Oc

def tokensR (l : List UInt8) : List (List UInt8) × Int := if (listR l).2 = 0 then (if (listR l).1.all isTok then ((listR l).1, 0) else ([], 10)) else ([], (listR l).2)
theorem listR_err (l : List UInt8) : (listR l).2 = 0 ∨ (listR l).1 = [] ∧ (listR l).2 = 14 := by
  unfold listR
  split
  · exact .inl rfl
  · exact .inr ⟨rfl, rfl⟩
theorem tokensR_err {l : List UInt8} (h : (listR l).2 = 14) : tokensR l = ([], 14) := by unfold tokensR; rw [if_neg (by omega), h]
theorem tokensR_bad {l : List UInt8} (h : (listR l).2 = 0) (k : Nat) (hk : k < (listR l).1.length) (hb : isTok ((listR l).1.getD k []) = false) : tokensR l = ([], 10) := by
  unfold tokensR
  rw [if_pos h, if_neg]
  rw [all_not isTok [] _ k hk hb]
  simp
theorem tokensR_ok {l : List UInt8} (h : (listR l).2 = 0) (hb : ∀ k, k < (listR l).1.length → isTok ((listR l).1.getD k []) = true) : tokensR l = ((listR l).1, 0) := by
  unfold tokensR
  rw [if_pos h, if_pos (all_of isTok [] _ hb)]

/-- Elements are no longer than the text, and as many. -/
def Short (n : Nat) (t : List (List UInt8)) : Prop := t.length ≤ n ∧ ∀ x ∈ t, x.length ≤ n
theorem short_lst : ∀ (m : Nat) (r cur : List UInt8) (t : List (List UInt8)), r.length ≤ m → lst cur r = some t → t.length ≤ r.length + 1 ∧ ∀ x ∈ t, x.length ≤ cur.length + r.length
  | m, [], cur, t, _, h => by
    rw [lst_nil] at h
    cases h
    have := addEl_len (trim cur)
    refine ⟨by simpa using this, fun x hx => ?_⟩
    unfold addEl at hx
    split at hx
    · simp at hx
    · simp at hx
      subst hx
      have := trim_le cur
      simp
      omega
  | 0, c :: r, cur, t, hm, _ => by simp at hm
  | m + 1, c :: r, cur, t, hm, h => by
    have hl : r.length ≤ m := by simpa using hm
    by_cases h44 : c = 44
    · rw [lst_comma _ _ _ h44] at h
      obtain ⟨u, hu, rfl⟩ := Option.map_eq_some_iff.1 h
      obtain ⟨i1, i2⟩ := short_lst m r [] u hl hu
      constructor
      · unfold addEl
        split <;> simp <;> omega
      · intro x hx
        unfold addEl at hx
        split at hx
        · have := i2 x hx
          simp at this ⊢
          omega
        · rcases List.mem_cons.1 hx with rfl | hx
          · have := trim_le cur
            simp
            omega
          · have := i2 x hx
            simp at this ⊢
            omega
    · by_cases h34 : c = 34
      · by_cases hq : qlen (c :: r) = 0
        · rw [lst_bad _ _ _ h34 hq] at h; cases h
        · rw [lst_quote _ _ _ h34 hq] at h
          have hb := qlen_bd (c :: r)
          obtain ⟨i1, i2⟩ := short_lst m _ _ t (by rw [List.length_drop]; simp; omega) h
          rw [List.length_drop] at i1 i2
          rw [List.length_append, List.length_take] at i2
          refine ⟨by omega, fun x hx => ?_⟩
          have := i2 x hx
          omega
      · rw [lst_on _ _ _ h44 h34] at h
        obtain ⟨i1, i2⟩ := short_lst m r _ t hl h
        rw [List.length_append] at i2
        refine ⟨by simp; omega, fun x hx => ?_⟩
        have := i2 x hx
        simp at this ⊢
        omega
theorem listR_short (l : List UInt8) : (listR l).1.length ≤ l.length + 1 ∧ ∀ x ∈ (listR l).1, x.length ≤ l.length := by
  unfold listR
  split
  · rename_i t h
    obtain ⟨a, b⟩ := short_lst l.length l [] t (Nat.le_refl _) h
    exact ⟨a, fun x hx => by have := b x hx; simpa using this⟩
  · simp
theorem getD_short {n : Nat} {t : List (List UInt8)} (h : ∀ x ∈ t, x.length ≤ n) (k : Nat) (hk : k < t.length) : (t.getD k []).length ≤ n := by
  refine h _ ?_
  rw [List.getD_eq_getElem?_getD, List.getElem?_eq_getElem hk]
  exact List.getElem_mem _

end Oc
end Go.Proofs.YticncpjpkgdnlaaGreatDoor
