/-
  Tags that were printed, with gaps and commas between, are read as a list of these. Plain.
-/
import Derived.Test.YtheeloaebilgiabGreatDoorTLi
set_option linter.unusedVariables false
set_option linter.unusedSimpArgs false
namespace Go.Proofs.YtheeloaebilgiabGreatDoor
namespace Tt
open Oc

theorem body_more : ∀ (l tl : List UInt8) (k : Nat), l.all inT = true → k + l.length ≤ 256 → bodyR (l ++ 34 :: tl) k = (k + l.length, true)
  | [], tl, k, _, _ => by simp [bodyR]
  | c :: r, tl, k, h, hk => by
    rw [List.all_cons, Bool.and_eq_true] at h
    have h34 : c ≠ 34 := by
      intro e
      rw [e] at h
      exact absurd h.1 (by decide)
    have ih := body_more r tl (k + 1) h.2 (by simp at hk; omega)
    rw [List.cons_append, bodyR, if_neg h34, if_pos ⟨h.1, by simp at hk; omega⟩, ih]
    simp
    omega
theorem front_more (t : Tg1) (h : okT t.2 = true) (tl : List UInt8) : frontR ((printT t).1 ++ tl) = (t, (printT t).1.length, true) := by
  obtain ⟨w, T⟩ := t
  have hb := h
  unfold okT at hb
  rw [Bool.and_eq_true, decide_eq_true_iff] at hb
  have hr : ∀ (w : Bool) (off : Nat), restR w off (T ++ 34 :: tl) = ((w, T), off + T.length + 1, true) := by
    intro w off
    unfold restR
    rw [body_more T tl 0 hb.1 (by dsimp only at hb; omega)]
    simp
  unfold printT
  rw [if_pos h]
  dsimp only
  cases w with
  | true =>
    rw [show (if true = true then [87, 47] else ([] : List UInt8)) = [87, 47] from rfl]
    have e : frontR ([87, 47] ++ 34 :: (T ++ [34]) ++ tl) = restR true 3 (T ++ 34 :: tl) := by simp [frontR]
    rw [e, hr]
    simp
    omega
  | false =>
    rw [show (if false = true then [87, 47] else ([] : List UInt8)) = [] from rfl]
    have e : frontR ([] ++ 34 :: (T ++ [34]) ++ tl) = restR false 1 (T ++ 34 :: tl) := by simp [frontR]
    rw [e, hr]
    simp
    omega
theorem print_head (t : Tg1) (h : okT t.2 = true) : ∃ c r, (printT t).1 = c :: r ∧ blankB c = false ∧ c ≠ 44 := by
  obtain ⟨w, T⟩ := t
  unfold printT
  rw [if_pos h]
  cases w with
  | true => exact ⟨87, _, rfl, by decide, by decide⟩
  | false => exact ⟨34, _, rfl, by decide, by decide⟩
/-- What stands there is read to its end: these tags in all. -/
inductive Gd : List UInt8 → Bool → List Tg1 → List Tg1 → Prop
  | nil (fl : Bool) (acc : List Tg1) : acc ≠ [] → Gd [] fl acc acc
  | blank (c : UInt8) (r : List UInt8) (fl : Bool) (acc res : List Tg1) : blankB c = true → Gd r fl acc res → Gd (c :: r) fl acc res
  | comma (r : List UInt8) (fl : Bool) (acc res : List Tg1) : Gd r false acc res → Gd (44 :: r) fl acc res
  | tag (t : Tg1) (r : List UInt8) (acc res : List Tg1) : okT t.2 = true → Gd r true (acc ++ [t]) res → Gd ((printT t).1 ++ r) false acc res
theorem drop_cons {L r : List UInt8} {k : Nat} {c : UInt8} (h : L.drop k = c :: r) : k < L.length ∧ L.getD k 0 = c ∧ L.drop (k + 1) = r := by
  have hk : k < L.length := by
    rcases Nat.lt_or_ge k L.length with h' | h'
    · exact h'
    · rw [List.drop_eq_nil_of_le h'] at h; cases h
  rw [List.drop_eq_getElem_cons hk] at h
  obtain ⟨e1, e2⟩ := List.cons.inj h
  refine ⟨hk, ?_, e2⟩
  rw [List.getD_eq_getElem?_getD, List.getElem?_eq_getElem hk]
  exact e1
theorem gd_tags {m : List UInt8} {fl : Bool} {acc res : List Tg1} (g : Gd m fl acc res) : ∀ (L : List UInt8) (k f : Nat), L.drop k = m → k ≤ L.length → L.length < k + f → tagsR L f k fl acc = (res, L.length, true) := by
  induction g with
  | nil fl acc h =>
    intro L k f hm hk hf
    obtain ⟨n, rfl⟩ : ∃ n, f = n + 1 := ⟨f - 1, by omega⟩
    have hl := congrArg List.length hm
    rw [List.length_drop] at hl
    simp at hl
    rw [tagsR, if_neg (by omega)]
    have e : k = L.length := by omega
    rw [e]
    cases acc with
    | nil => exact absurd rfl h
    | cons a r => rfl
  | blank c r fl acc res hc g ih =>
    intro L k f hm hk hf
    obtain ⟨n, rfl⟩ : ∃ n, f = n + 1 := ⟨f - 1, by omega⟩
    obtain ⟨h1, h2, h3⟩ := drop_cons hm
    rw [tagsR, if_pos h1, h2, if_pos hc]
    exact ih L (k + 1) n h3 h1 (by omega)
  | comma r fl acc res g ih =>
    intro L k f hm hk hf
    obtain ⟨n, rfl⟩ : ∃ n, f = n + 1 := ⟨f - 1, by omega⟩
    obtain ⟨h1, h2, h3⟩ := drop_cons hm
    rw [tagsR, if_pos h1, h2, if_neg (by decide), if_pos rfl]
    exact ih L (k + 1) n h3 h1 (by omega)
  | tag t r acc res ht g ih =>
    intro L k f hm hk hf
    obtain ⟨n, rfl⟩ : ∃ n, f = n + 1 := ⟨f - 1, by omega⟩
    obtain ⟨c, q, e, hc, h44⟩ := print_head t ht
    have hm2 : L.drop k = c :: (q ++ r) := by rw [hm, e]; rfl
    obtain ⟨h1, h2, _⟩ := drop_cons hm2
    rw [tagsR, if_pos h1, h2, if_neg (by rw [hc]; simp), if_neg h44, if_neg (by simp), hm, front_more t ht r, if_pos rfl]
    dsimp only
    have hlen := congrArg List.length hm
    rw [List.length_drop, List.length_append] at hlen
    have hp : 1 ≤ (printT t).1.length := by rw [e]; simp
    refine ih L _ n ?_ (by omega) (by omega)
    rw [← List.drop_drop, hm, List.drop_left]
def gaps : List (List UInt8) := [[], [32], [9, 32], [44], [32, 44, 32]]
theorem gd_gap {g : List UInt8} (hg : g ∈ gaps) {m : List UInt8} {fl : Bool} {acc res : List Tg1} (h1 : Gd m fl acc res) (h2 : Gd m false acc res) : Gd (g ++ m) fl acc res := by
  have b32 : blankB 32 = true := by decide
  have b9 : blankB 9 = true := by decide
  simp only [gaps, List.mem_cons, List.not_mem_nil, or_false] at hg
  rcases hg with rfl | rfl | rfl | rfl | rfl
  · exact h1
  · exact .blank _ _ _ _ _ b32 h1
  · exact .blank _ _ _ _ _ b9 (.blank _ _ _ _ _ b32 h1)
  · exact .comma _ _ _ _ h2
  · exact .blank _ _ _ _ _ b32 (.comma _ _ _ _ (.blank _ _ _ _ _ b32 h2))
theorem gd_seg {g : List UInt8} (hg : g ∈ gaps) (t : Tg1) (ht : okT t.2 = true) {m : List UInt8} {acc res : List Tg1} (h : Gd m false (acc ++ [t]) res) : Gd (g ++ (printT t).1 ++ g ++ [44] ++ m) false acc res := by
  have h1 : ∀ fl, Gd (44 :: m) fl (acc ++ [t]) res := fun fl => .comma _ _ _ _ h
  have h2 : Gd (g ++ 44 :: m) true (acc ++ [t]) res := gd_gap hg (h1 _) (h1 _)
  have h3 : Gd ((printT t).1 ++ (g ++ 44 :: m)) false acc res := .tag _ _ _ _ ht h2
  have h4 := gd_gap hg h3 h3
  simpa using h4
theorem gd_trimL {m : List UInt8} {res : List Tg1} (h : Gd m false [] res) : Gd (trimL m) false [] res := by
  generalize hf : false = fl at h
  generalize ha : ([] : List Tg1) = acc at h
  induction h with
  | nil fl acc h => exact absurd ha.symm h
  | blank c r fl acc res hc g ih => rw [trimL_cons, if_pos hc]; exact ih hf ha
  | comma r fl acc res g ih => rw [trimL_cons, if_neg (by decide)]; exact .comma _ _ _ _ g
  | tag t r acc res ht g ih =>
    obtain ⟨c, q, e, hc, _⟩ := print_head t ht
    have : trimL ((printT t).1 ++ r) = (printT t).1 ++ r := by rw [e, List.cons_append, trimL_cons, if_neg (by rw [hc]; simp)]
    rw [this]
    exact .tag _ _ _ _ ht g
theorem trimL_snoc : ∀ (x : List UInt8), ∃ y, trimL (x ++ [44]) = y ++ [44]
  | [] => ⟨[], rfl⟩
  | c :: r => by
    rw [List.cons_append, trimL_cons]
    split
    · exact trimL_snoc r
    · exact ⟨c :: r, rfl⟩
theorem list_back (x : List UInt8) (acc : List Tg1) (h : Gd (x ++ [44]) false [] acc) : listT (x ++ [44]) = (acc, false, 0, 0) := by
  obtain ⟨y, hy⟩ := trimL_snoc x
  have ht : trim (x ++ [44]) = y ++ [44] := by
    unfold trim
    rw [hy, trimR_snoc, if_neg (by decide)]
  have hg := gd_trimL h
  rw [hy] at hg
  have hl := gd_tags hg (y ++ [44]) 0 ((y ++ [44]).length + 1) (by simp) (by omega) (by omega)
  unfold listT
  rw [ht, if_neg (by cases y with | nil => decide | cons a r => simp)]
  have hl2 : tagsL (y ++ [44]) = (acc, (y ++ [44]).length, true) := hl
  rw [hl2]
  rfl

end Tt
end Go.Proofs.YtheeloaebilgiabGreatDoor
