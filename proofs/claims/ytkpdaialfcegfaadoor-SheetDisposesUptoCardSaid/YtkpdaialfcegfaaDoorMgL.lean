/- Several texts as one. -/
import Derived.Test.YtkpdaialfcegfaaDoorMgK
import Derived.Lib.IndexMore
import Derived.Test.YtkpdaialfcegfaaDoorMgJ
/-
  Plain: what the library's cut says of one byte.
-/
set_option linter.unusedVariables false
set_option linter.unusedSimpArgs false
namespace Go.Proofs.YtkpdaialfcegfaaDoor
namespace Tg

theorem index_cons_one (b c : UInt8) (t : List UInt8) : Lib.index (c :: t) [b] = if c = b then 0 else if Lib.index t [b] = -1 then -1 else Lib.index t [b] + 1 := by
  by_cases h : c = b
  · subst h; simp [Lib.index, List.isPrefixOf]
  · have h2 : ¬ b = c := fun e => h e.symm
    simp [Lib.index, List.isPrefixOf, h, h2]
theorem index_one (b : UInt8) (l : List UInt8) : Lib.index l [b] = if has b l then ((cutA b l).length : Int) else -1 := by
  induction l with
  | nil => rfl
  | cons c t ih =>
    rw [index_cons_one, ih]
    by_cases h : c = b
    · subst h; simp [has, cutA]
    · have h2 : ¬ b = c := fun e => h e.symm
      have e1 : cutA b (c :: t) = c :: cutA b t := by simp [cutA, h]
      have e3 : has b (c :: t) = has b t := by simp [has, h2]
      rw [if_neg h, e1, e3]
      cases has b t with
      | true => simp
      | false => simp
theorem cutA_all (b : UInt8) (l : List UInt8) (h : has b l = false) : cutA b l = l := by
  induction l with
  | nil => rfl
  | cons c t ih =>
    have h' : ¬ b = c ∧ has b t = false := by simpa [has] using h
    have h2 : ¬ c = b := fun e => h'.1 e.symm
    have e1 : cutA b (c :: t) = c :: cutA b t := by simp [cutA, h2]
    rw [e1, ih h'.2]
theorem cutB_none (b : UInt8) (l : List UInt8) (h : has b l = false) : cutB b l = [] := by
  induction l with
  | nil => rfl
  | cons c t ih =>
    have h' : ¬ b = c ∧ has b t = false := by simpa [has] using h
    have h2 : ¬ c = b := fun e => h'.1 e.symm
    have e2 : cutB b (c :: t) = cutB b t := by simp [cutB, h2]
    rw [e2, ih h'.2]
theorem cut_app (b : UInt8) (l : List UInt8) (h : has b l = true) : cutA b l ++ b :: cutB b l = l := by
  induction l with
  | nil => simp [has] at h
  | cons c t ih =>
    by_cases e : c = b
    · subst e; simp [cutA, cutB]
    · have h2 : ¬ b = c := fun x => e x.symm
      have e1 : cutA b (c :: t) = c :: cutA b t := by simp [cutA, e]
      have e2 : cutB b (c :: t) = cutB b t := by simp [cutB, e]
      have e3 : has b t = true := by simpa [has, h2] using h
      rw [e1, e2, List.cons_append, ih e3]
theorem cut_one (b : UInt8) (l : List UInt8) : Lib.cut l [b] = (cutA b l, cutB b l, has b l) := by
  unfold Lib.cut
  rw [index_one]
  cases h : has b l with
  | true =>
    rw [if_pos rfl, if_pos (by omega)]
    have e := cut_app b l h
    generalize cutA b l = A at *
    generalize cutB b l = B at *
    subst e
    simp
  | false =>
    rw [if_neg (by simp)]
    simp [cutA_all b l h, cutB_none b l h]

end Tg
end Go.Proofs.YtkpdaialfcegfaaDoor

/-
  sheet: dispositions, plain: cut at the first semicolon, or read sign by sign: the same.
-/
set_option linter.unusedVariables false
set_option linter.unusedSimpArgs false
namespace Go.Proofs.YtkpdaialfcegfaaDoor
namespace Ds
open Oc

abbrev Prm3 := List UInt8 × List UInt8 × Bool
def lowN (p : Prm3) : Prm3 := (lower p.1, p.2.1, p.2.2)
/-- All have values, no name stands twice. -/
def noTwo : List (List UInt8) → Bool
  | [] => true
  | x :: r => !r.contains x && noTwo r
def lowOk (ps : List Prm3) : Bool := ps.all (fun p => p.2.2) && noTwo (ps.map fun p => lower p.1)
/-- The program's way. -/
def prgR (l : List UInt8) : List UInt8 × List Prm3 × Int :=
  let s := trim l
  let A := Tg.cutA 59 s
  let P := paramsR (s.drop A.length)
  if P.2.2 ≠ 0 ∨ P.2.1 < ((s.drop A.length).length : Int) ∨ isTok (trim A) = false ∨ lowOk P.1 = false then ([], [], 152) else (lower (trim A), P.1.map lowN, 0)
/-- The document's way. -/
def disR (l : List UInt8) : List UInt8 × List Prm3 × Int :=
  let s := trim l
  let P := paramsR (s.drop (tokLen s))
  if tokLen s = 0 ∨ P.2.2 ≠ 0 ∨ (tokLen s : Int) + P.2.1 ≠ (s.length : Int) ∨ lowOk P.1 = false then ([], [], 152) else (lower (s.take (tokLen s)), P.1.map lowN, 0)

theorem dropWhile_head (p : UInt8 → Bool) (l : List UInt8) : ∀ x t, l.dropWhile p = x :: t → p x = false := by
  induction l with
  | nil => intro x t h; cases h
  | cons c r ih =>
    intro x t h
    rw [List.dropWhile_cons] at h
    split at h
    · exact ih x t h
    · rename_i hp
      injection h with h1 h2
      rw [← h1]
      simpa using hp
/-- What is trimmed neither begins nor ends with a blank. -/
theorem trim_head (l : List UInt8) (x : UInt8) (t : List UInt8) (h : trim l = x :: t) : blankB x = false := by
  have h' : trimL (trimR l) = x :: t := by rw [trim_comm]; exact h
  exact dropWhile_head blankB _ x t h'
theorem trim_last (l : List UInt8) (x : UInt8) (t : List UInt8) (h : trim l = t ++ [x]) : blankB x = false := by
  unfold trim trimR at h
  have h2 := congrArg List.reverse h
  rw [List.reverse_reverse, List.reverse_append] at h2
  exact dropWhile_head blankB _ x t.reverse h2
theorem trimR_keep (Y : List UInt8) (c : UInt8) (X : List UInt8) (hc : blankB c = false) : ∃ X', trimR (Y ++ c :: X) = Y ++ c :: X' := by
  induction Y with
  | nil =>
    rw [List.nil_append, trimR_cons]
    split
    · rw [hc]; exact ⟨[], rfl⟩
    · exact ⟨trimR X, rfl⟩
  | cons y Y ih =>
    obtain ⟨X', e⟩ := ih
    refine ⟨X', ?_⟩
    rw [List.cons_append, trimR_cons]
    have hn : ((Y ++ c :: X).all blankB) = false := by
      rw [List.all_append, List.all_cons, hc]; simp
    rw [hn, if_neg (by simp), e]
    rfl
theorem trimR_none (l : List UInt8) (h : ∀ x ∈ l, blankB x = false) (b : List UInt8) (hb : b.all blankB = true) : trimR (l ++ b) = l := by
  unfold trimR
  rw [List.reverse_append, List.dropWhile_append_of_pos (by
    intro x hx
    exact List.all_eq_true.1 hb x (by simpa using hx))]
  have e : l.reverse.dropWhile blankB = l.reverse := by
    cases hl : l.reverse with
    | nil => rfl
    | cons x t =>
      rw [List.dropWhile_cons, if_neg (by
        have : x ∈ l := by rw [← List.mem_reverse, hl]; simp
        rw [h x this]; simp)]
  rw [e, List.reverse_reverse]
theorem trimL_none (x : UInt8) (t : List UInt8) (h : blankB x = false) : trimL (x :: t) = x :: t := by rw [trimL_cons, h]; rfl
theorem tok_fine : ∀ n : Nat, n < 256 → tokB (UInt8.ofNat n) = true → blankB (UInt8.ofNat n) = false ∧ UInt8.ofNat n ≠ 59 := by decide +kernel
theorem tok_not (c : UInt8) (h : tokB c = true) : blankB c = false ∧ c ≠ 59 := by
  have e : UInt8.ofNat c.toNat = c := by simp
  have f := tok_fine c.toNat c.toNat_lt (by rw [e]; exact h)
  rw [e] at f
  exact f
theorem blank_fine : ∀ n : Nat, n < 256 → blankB (UInt8.ofNat n) = true → tokB (UInt8.ofNat n) = false ∧ UInt8.ofNat n ≠ 59 := by decide +kernel
theorem blank_not (c : UInt8) (h : blankB c = true) : tokB c = false ∧ c ≠ 59 := by
  have e : UInt8.ofNat c.toNat = c := by simp
  have f := blank_fine c.toNat c.toNat_lt (by rw [e]; exact h)
  rw [e] at f
  exact f
theorem cutA_skip (b : UInt8) (Y X : List UInt8) (h : ∀ c ∈ Y, c ≠ b) : Tg.cutA b (Y ++ X) = Y ++ Tg.cutA b X := by
  unfold Tg.cutA
  rw [List.takeWhile_append_of_pos (fun c hc => by simpa using h c hc)]
theorem isTok_eq (T : List UInt8) (h : T.all tokB = true) : isTok T = decide (T ≠ []) := by
  unfold isTok
  cases T with
  | nil => rfl
  | cons c t => simp at h ⊢; exact h
theorem isTok_no (T : List UInt8) (c : UInt8) (hc : c ∈ T) (h : tokB c = false) : isTok T = false := by
  unfold isTok
  have : T.all tokB = false := by
    rw [List.all_eq_false]
    exact ⟨c, hc, by simp [h]⟩
  cases T with
  | nil => cases hc
  | cons x t => simp only [List.isEmpty_cons, Bool.not_false, Bool.true_and]; exact this
/-- Blanks ahead of a semicolon. -/
theorem bl_app (b r : List UInt8) (hb : b.all blankB = true) (hr : bl r = 0) : bl (b ++ r) = b.length := by
  unfold bl at *
  rw [List.takeWhile_append_of_pos (fun x hx => List.all_eq_true.1 hb x hx), List.length_append, hr, Nat.add_zero]
theorem prm_blanks (b t : List UInt8) (hb : b.all blankB = true) : prm (b ++ 59 :: t) = (prm (59 :: t)).map fun y => (y.1, b.length + y.2) := by
  have h0 : bl (59 :: t) = 0 := by unfold bl; rw [List.takeWhile_cons, if_neg (by decide)]; rfl
  have h1 : bl (b ++ 59 :: t) = b.length := bl_app b _ hb h0
  have s0 : semi (59 :: t) (bl (59 :: t)) = true := by rw [h0]; unfold semi; simp
  have s1 : semi (b ++ 59 :: t) (bl (b ++ 59 :: t)) = true := by rw [h1]; unfold semi; simp
  have d0 : (59 :: t).drop (bl (59 :: t) + 1) = t := by rw [h0]; rfl
  have d1 : (b ++ 59 :: t).drop (bl (b ++ 59 :: t) + 1) = t := by rw [h1, List.drop_append, List.drop_of_length_le (by omega)]; simp
  cases hp : rp (t.drop (bl t)) with
  | none =>
    rw [prm_none (pstep_bad s1 (by rw [d1]; exact hp)), prm_none (pstep_bad s0 (by rw [d0]; exact hp))]
    rfl
  | some x =>
    by_cases hx : x.2 = 0
    · have e0 := pstep_empty s0 (by rw [d0]; exact hp) hx
      have e1 := pstep_empty s1 (by rw [d1]; exact hp) hx
      rw [prm_on e0, prm_on e1]
      simp only
      rw [d0, d1, h0, h1]
      cases prm t with
      | none => rfl
      | some y => simp; omega
    · have e0 := pstep_one s0 (by rw [d0]; exact hp) hx
      have e1 := pstep_one s1 (by rw [d1]; exact hp) hx
      rw [prm_on e0, prm_on e1]
      simp only
      rw [d0, d1, h0, h1]
      have f0 : (59 :: t).drop (0 + 1 + bl t + x.2) = t.drop (bl t + x.2) := by rw [show 0 + 1 + bl t + x.2 = (bl t + x.2) + 1 by omega, List.drop_succ_cons]
      have f1 : (b ++ 59 :: t).drop (b.length + 1 + bl t + x.2) = t.drop (bl t + x.2) := by
        rw [List.drop_append, List.drop_of_length_le (by omega), show b.length + 1 + bl t + x.2 - b.length = (bl t + x.2) + 1 by omega, List.drop_succ_cons]
        rfl
      rw [f0, f1]
      cases prm (t.drop (bl t + x.2)) with
      | none => rfl
      | some y => simp; omega
theorem params_blanks (b t : List UInt8) (hb : b.all blankB = true) : (paramsR (b ++ 59 :: t)).1 = (paramsR (59 :: t)).1 ∧ (paramsR (b ++ 59 :: t)).2.2 = (paramsR (59 :: t)).2.2 ∧ ((paramsR (59 :: t)).2.2 = 0 → (paramsR (b ++ 59 :: t)).2.1 = b.length + (paramsR (59 :: t)).2.1) := by
  have h := prm_blanks b t hb
  cases hp : prm (59 :: t) with
  | none =>
    rw [hp] at h
    rw [paramsR_none hp, paramsR_none (by rw [h]; rfl)]
    exact ⟨rfl, rfl, fun h => by cases h⟩
  | some y =>
    rw [hp] at h
    rw [paramsR_some hp, paramsR_some (x := (y.1, b.length + y.2)) (by rw [h]; rfl)]
    exact ⟨rfl, rfl, fun _ => by simp⟩
theorem params_other (b t : List UInt8) (c : UInt8) (hb : b.all blankB = true) (hc : blankB c = false) (h59 : c ≠ 59) : paramsR (b ++ c :: t) = ([], 0, 0) := by
  have h0 : bl (c :: t) = 0 := by unfold bl; rw [List.takeWhile_cons, if_neg (by simp [hc])]; rfl
  have h1 : bl (b ++ c :: t) = b.length := bl_app b _ hb h0
  exact paramsR_some (x := ([], 0)) (prm_end (pstep_stop (by rw [h1]; unfold semi; simp [h59])))
theorem params_nil : paramsR [] = ([], 0, 0) := paramsR_some (x := ([], 0)) (prm_end (pstep_stop (by unfold semi; simp)))
theorem pgo_fits : ∀ (f : Nat) (r : List UInt8) (y : List Prm × Nat), pgo f r = some y → y.2 ≤ r.length
  | 0, r, y, h => by cases h
  | f + 1, r, y, h => by
    rw [pgo] at h
    cases hp : pstep r with
    | none => rw [hp] at h; cases h
    | some o =>
      rw [hp] at h
      cases o with
      | none => cases h; exact Nat.zero_le _
      | some x =>
        have hx := pstep_le r x hp
        obtain ⟨z, hz, e⟩ := Option.map_eq_some_iff.1 h
        have ih := pgo_fits f _ z hz
        rw [List.length_drop] at ih
        cases e
        show x.1 + z.2 ≤ _
        omega
theorem params_fit (l : List UInt8) : 0 ≤ (paramsR l).2.1 ∧ (paramsR l).2.1 ≤ (l.length : Int) := by
  unfold paramsR
  cases h : prm l with
  | none => simp
  | some y => have := pgo_fits _ _ _ h; simp; omega
theorem all_take (p : UInt8 → Bool) (l : List UInt8) : (l.takeWhile p).all p = true := by
  induction l with
  | nil => rfl
  | cons c t ih =>
    rw [List.takeWhile_cons]
    split
    · rename_i h; rw [List.all_cons, h, ih]; rfl
    · rfl

theorem ite_same {α : Type} {P Q : Prop} [Decidable P] [Decidable Q] (h : P ↔ Q) (a b : α) : (if P then a else b) = if Q then a else b := by
  by_cases hp : P
  · rw [if_pos hp, if_pos (h.1 hp)]
  · rw [if_neg hp, if_neg (fun q => hp (h.2 q))]

theorem prg_dis (l : List UInt8) : prgR l = disR l := by
  have hh := trim_head l
  have hl := trim_last l
  unfold prgR disR
  dsimp only
  generalize trim l = s at *
  have hT : (s.takeWhile tokB).all tokB = true := all_take _ _
  have hB : ((s.dropWhile tokB).takeWhile blankB).all blankB = true := all_take _ _
  have es : s = s.takeWhile tokB ++ ((s.dropWhile tokB).takeWhile blankB ++ (s.dropWhile tokB).dropWhile blankB) := by rw [List.takeWhile_append_dropWhile, List.takeWhile_append_dropWhile]
  have hr := dropWhile_head blankB (s.dropWhile tokB)
  have hr2 := dropWhile_head tokB s
  have ek : tokLen s = (s.takeWhile tokB).length := rfl
  rw [ek]
  have edr : s.drop (s.takeWhile tokB).length = (s.dropWhile tokB).takeWhile blankB ++ (s.dropWhile tokB).dropWhile blankB := by
    conv => lhs; arg 2; rw [es]
    rw [List.drop_append, List.drop_of_length_le (by omega)]; simp
  have etk : s.take (s.takeWhile tokB).length = s.takeWhile tokB := by
    conv => lhs; arg 2; rw [es]
    rw [List.take_append, List.take_of_length_le (by omega)]; simp
  have hr2' : ∀ x t, (s.dropWhile tokB).takeWhile blankB ++ (s.dropWhile tokB).dropWhile blankB = x :: t → tokB x = false := fun x t e => hr2 x t (by rw [← e, List.takeWhile_append_dropWhile])
  rw [edr, etk]
  clear edr etk ek hr2
  generalize s.takeWhile tokB = T at *
  generalize (s.dropWhile tokB).takeWhile blankB = b at *
  generalize (s.dropWhile tokB).dropWhile blankB = r at *
  have hTn : ∀ c ∈ T, blankB c = false ∧ c ≠ 59 := fun c hc => tok_not c (List.all_eq_true.1 hT c hc)
  have hBn : ∀ c ∈ b, tokB c = false ∧ c ≠ 59 := fun c hc => blank_not c (List.all_eq_true.1 hB c hc)
  subst es
  cases r with
  | nil =>
    have hb0 : b = [] := by
      rcases List.eq_nil_or_concat b with h | ⟨b', x, h⟩
      · exact h
      · have := hl x (T ++ b') (by rw [h, List.append_nil, List.concat_eq_append, List.append_assoc])
        have h2 := List.all_eq_true.1 hB x (by rw [h]; simp)
        rw [this] at h2; cases h2
    subst hb0
    have hA : Tg.cutA 59 (T ++ ([] ++ [])) = T := by rw [cutA_skip 59 T _ (fun c hc => (hTn c hc).2)]; simp [Tg.cutA]
    have hW : trim T = T := by
      unfold trim
      have e1 : trimL T = T := by
        cases T with
        | nil => rfl
        | cons x t => exact trimL_none x t (hTn x (by simp)).1
      rw [e1]
      have := trimR_none T (fun x hx => (hTn x hx).1) [] rfl
      rwa [List.append_nil] at this
    rw [hA, hW, isTok_eq T hT]
    have hd : (T ++ (([] : List UInt8) ++ [])).drop T.length = [] := by simp
    rw [hd, show ([] : List UInt8) ++ [] = [] from rfl, params_nil]
    simp [lowOk, noTwo]
  | cons c t =>
    have hcb := hr c t rfl
    by_cases h59 : c = 59
    · subst h59
      have hA : Tg.cutA 59 (T ++ (b ++ 59 :: t)) = T ++ b := by
        rw [cutA_skip 59 T _ (fun c hc => (hTn c hc).2), cutA_skip 59 b _ (fun c hc => (hBn c hc).2)]; simp [Tg.cutA]
      have hW : trim (T ++ b) = T := by
        unfold trim
        cases T with
        | nil =>
          cases b with
          | nil => rfl
          | cons x b' =>
            have := hh x (b' ++ 59 :: t) rfl
            have h2 := List.all_eq_true.1 hB x (by simp)
            rw [this] at h2; cases h2
        | cons x T' =>
          rw [List.cons_append, trimL_none x _ (hTn x (by simp)).1, ← List.cons_append]
          exact trimR_none _ (fun y hy => (hTn y hy).1) b hB
      have hd : (T ++ (b ++ 59 :: t)).drop (T ++ b).length = 59 :: t := by rw [← List.append_assoc, List.drop_left]
      rw [hA, hW, hd, isTok_eq T hT]
      obtain ⟨p1, p2, p3⟩ := params_blanks b t hB
      have hf := params_fit (59 :: t)
      rw [p1, p2]
      generalize hP : paramsR (59 :: t) = P at *
      obtain ⟨P1, P2, P3⟩ := P
      dsimp only at *
      have hTl : (T = []) ↔ T.length = 0 := List.length_eq_zero_iff.symm
      by_cases hz : P3 = 0
      · have p3' := p3 hz
        rw [p3']
        refine ite_same ?_ _ _
        simp only [List.length_append, List.length_cons, decide_eq_false_iff_not, ne_eq, Decidable.not_not] at hf ⊢
        constructor
        · rintro (h | h | h | h)
          · exact .inr (.inl h)
          · exact .inr (.inr (.inl (by omega)))
          · exact .inl (hTl.1 h)
          · exact .inr (.inr (.inr h))
        · rintro (h | h | h | h)
          · exact .inr (.inr (.inl (hTl.2 h)))
          · exact .inl h
          · exact .inr (.inl (by omega))
          · exact .inr (.inr (.inr h))
      · rw [if_pos (.inl hz), if_pos (.inr (.inl hz))]
    · have hq := params_other b t c hB hcb h59
      rw [hq]
      rw [if_pos (c := T.length = 0 ∨ _) (.inr (.inr (.inl (by simp; omega))))]
      have hA : ∃ X, Tg.cutA 59 (T ++ (b ++ c :: t)) = T ++ (b ++ c :: X) := by
        refine ⟨Tg.cutA 59 t, ?_⟩
        rw [cutA_skip 59 T _ (fun c hc => (hTn c hc).2), cutA_skip 59 b _ (fun c hc => (hBn c hc).2)]
        have : Tg.cutA 59 (c :: t) = c :: Tg.cutA 59 t := by simp [Tg.cutA, h59]
        rw [this]
      obtain ⟨X, hA⟩ := hA
      rw [hA]
      have hno : isTok (trim (T ++ (b ++ c :: X))) = false := by
        have hL : trimL (T ++ (b ++ c :: X)) = T ++ (b ++ c :: X) := by
          cases T with
          | nil =>
            cases b with
            | nil => exact trimL_none c X hcb
            | cons x b' =>
              have := hh x (b' ++ c :: t) rfl
              have h2 := List.all_eq_true.1 hB x (by simp)
              rw [this] at h2; cases h2
          | cons x T' => rw [List.cons_append]; exact trimL_none x _ (hTn x (by simp)).1
        unfold trim
        rw [hL]
        obtain ⟨X', e⟩ := trimR_keep (T ++ b) c X hcb
        rw [← List.append_assoc, e]
        cases b with
        | nil => exact isTok_no _ c (by simp) (hr2' c t rfl)
        | cons x b' => exact isTok_no _ x (by simp) (hBn x (by simp)).1
      rw [if_pos (.inr (.inr (.inl hno)))]

end Ds
end Go.Proofs.YtkpdaialfcegfaaDoor
