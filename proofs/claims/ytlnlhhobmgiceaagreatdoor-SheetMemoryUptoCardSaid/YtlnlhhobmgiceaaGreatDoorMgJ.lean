/- Several texts as one. -/
import Derived.Test.YtlnlhhobmgiceaaGreatDoorMgI
import Derived.Test.YtlnlhhobmgiceaaGreatDoorMgF
import Derived.Test.YtlnlhhobmgiceaaGreatDoorMgG
import Derived.Test.YtlnlhhobmgiceaaGreatDoorMgH
/-
  sheet: dispositions, plain: cut at the first semicolon, or read sign by sign: the same.
-/
set_option linter.unusedVariables false
set_option linter.unusedSimpArgs false
namespace Go.Proofs.YtlnlhhobmgiceaaGreatDoor
namespace Ds
open Oc

abbrev Prm3 := List UInt8 × List UInt8 × Bool
def lowN (p : Prm3) : Prm3 := (lower p.1, p.2.1, p.2.2)
/-- All have values, no name stands twice. -/
def noTwo : List (List UInt8) → Bool
  | [] => true
  | x :: r => !r.contains x && noTwo r
def lowOk (ps : List Prm3) : Bool := ps.all (fun p => p.2.2) && noTwo (ps.map fun p => lower p.1)
/-- The program's way. -/
def prgR (l : List UInt8) : List UInt8 × List Prm3 × Int :=
  let s := trim l
  let A := Tg.cutA 59 s
  let P := paramsR (s.drop A.length)
  if P.2.2 ≠ 0 ∨ P.2.1 < ((s.drop A.length).length : Int) ∨ isTok (trim A) = false ∨ lowOk P.1 = false then ([], [], 152) else (lower (trim A), P.1.map lowN, 0)
/-- The document's way. -/
def disR (l : List UInt8) : List UInt8 × List Prm3 × Int :=
  let s := trim l
  let P := paramsR (s.drop (tokLen s))
  if tokLen s = 0 ∨ P.2.2 ≠ 0 ∨ (tokLen s : Int) + P.2.1 ≠ (s.length : Int) ∨ lowOk P.1 = false then ([], [], 152) else (lower (s.take (tokLen s)), P.1.map lowN, 0)

theorem dropWhile_head (p : UInt8 → Bool) (l : List UInt8) : ∀ x t, l.dropWhile p = x :: t → p x = false := by
  induction l with
  | nil => intro x t h; cases h
  | cons c r ih =>
    intro x t h
    rw [List.dropWhile_cons] at h
    split at h
    · exact ih x t h
    · rename_i hp
      injection h with h1 h2
      rw [← h1]
      simpa using hp
/-- What is trimmed neither begins nor ends with a blank. -/
theorem trim_head (l : List UInt8) (x : UInt8) (t : List UInt8) (h : trim l = x :: t) : blankB x = false := by
  have h' : trimL (trimR l) = x :: t := by rw [trim_comm]; exact h
  exact dropWhile_head blankB _ x t h'
theorem trim_last (l : List UInt8) (x : UInt8) (t : List UInt8) (h : trim l = t ++ [x]) : blankB x = false := by
  unfold trim trimR at h
  have h2 := congrArg List.reverse h
  rw [List.reverse_reverse, List.reverse_append] at h2
  exact dropWhile_head blankB _ x t.reverse h2
theorem trimR_keep (Y : List UInt8) (c : UInt8) (X : List UInt8) (hc : blankB c = false) : ∃ X', trimR (Y ++ c :: X) = Y ++ c :: X' := by
  induction Y with
  | nil =>
    rw [List.nil_append, trimR_cons]
    split
    · rw [hc]; exact ⟨[], rfl⟩
    · exact ⟨trimR X, rfl⟩
  | cons y Y ih =>
    obtain ⟨X', e⟩ := ih
    refine ⟨X', ?_⟩
    rw [List.cons_append, trimR_cons]
    have hn : ((Y ++ c :: X).all blankB) = false := by
      rw [List.all_append, List.all_cons, hc]; simp
    rw [hn, if_neg (by simp), e]
    rfl
theorem trimR_none (l : List UInt8) (h : ∀ x ∈ l, blankB x = false) (b : List UInt8) (hb : b.all blankB = true) : trimR (l ++ b) = l := by
  unfold trimR
  rw [List.reverse_append, List.dropWhile_append_of_pos (by
    intro x hx
    exact List.all_eq_true.1 hb x (by simpa using hx))]
  have e : l.reverse.dropWhile blankB = l.reverse := by
    cases hl : l.reverse with
    | nil => rfl
    | cons x t =>
      rw [List.dropWhile_cons, if_neg (by
        have : x ∈ l := by rw [← List.mem_reverse, hl]; simp
        rw [h x this]; simp)]
  rw [e, List.reverse_reverse]
theorem trimL_none (x : UInt8) (t : List UInt8) (h : blankB x = false) : trimL (x :: t) = x :: t := by rw [trimL_cons, h]; rfl
theorem tok_fine : ∀ n : Nat, n < 256 → tokB (UInt8.ofNat n) = true → blankB (UInt8.ofNat n) = false ∧ UInt8.ofNat n ≠ 59 := by decide +kernel
theorem tok_not (c : UInt8) (h : tokB c = true) : blankB c = false ∧ c ≠ 59 := by
  have e : UInt8.ofNat c.toNat = c := by simp
  have f := tok_fine c.toNat c.toNat_lt (by rw [e]; exact h)
  rw [e] at f
  exact f
theorem blank_fine : ∀ n : Nat, n < 256 → blankB (UInt8.ofNat n) = true → tokB (UInt8.ofNat n) = false ∧ UInt8.ofNat n ≠ 59 := by decide +kernel
theorem blank_not (c : UInt8) (h : blankB c = true) : tokB c = false ∧ c ≠ 59 := by
  have e : UInt8.ofNat c.toNat = c := by simp
  have f := blank_fine c.toNat c.toNat_lt (by rw [e]; exact h)
  rw [e] at f
  exact f
theorem cutA_skip (b : UInt8) (Y X : List UInt8) (h : ∀ c ∈ Y, c ≠ b) : Tg.cutA b (Y ++ X) = Y ++ Tg.cutA b X := by
  unfold Tg.cutA
  rw [List.takeWhile_append_of_pos (fun c hc => by simpa using h c hc)]
theorem isTok_eq (T : List UInt8) (h : T.all tokB = true) : isTok T = decide (T ≠ []) := by
  unfold isTok
  cases T with
  | nil => rfl
  | cons c t => simp at h ⊢; exact h
theorem isTok_no (T : List UInt8) (c : UInt8) (hc : c ∈ T) (h : tokB c = false) : isTok T = false := by
  unfold isTok
  have : T.all tokB = false := by
    rw [List.all_eq_false]
    exact ⟨c, hc, by simp [h]⟩
  cases T with
  | nil => cases hc
  | cons x t => simp only [List.isEmpty_cons, Bool.not_false, Bool.true_and]; exact this
/-- Blanks ahead of a semicolon. -/
theorem bl_app (b r : List UInt8) (hb : b.all blankB = true) (hr : bl r = 0) : bl (b ++ r) = b.length := by
  unfold bl at *
  rw [List.takeWhile_append_of_pos (fun x hx => List.all_eq_true.1 hb x hx), List.length_append, hr, Nat.add_zero]
theorem prm_blanks (b t : List UInt8) (hb : b.all blankB = true) : prm (b ++ 59 :: t) = (prm (59 :: t)).map fun y => (y.1, b.length + y.2) := by
  have h0 : bl (59 :: t) = 0 := by unfold bl; rw [List.takeWhile_cons, if_neg (by decide)]; rfl
  have h1 : bl (b ++ 59 :: t) = b.length := bl_app b _ hb h0
  have s0 : semi (59 :: t) (bl (59 :: t)) = true := by rw [h0]; unfold semi; simp
  have s1 : semi (b ++ 59 :: t) (bl (b ++ 59 :: t)) = true := by rw [h1]; unfold semi; simp
  have d0 : (59 :: t).drop (bl (59 :: t) + 1) = t := by rw [h0]; rfl
  have d1 : (b ++ 59 :: t).drop (bl (b ++ 59 :: t) + 1) = t := by rw [h1, List.drop_append, List.drop_of_length_le (by omega)]; simp
  cases hp : rp (t.drop (bl t)) with
  | none =>
    rw [prm_none (pstep_bad s1 (by rw [d1]; exact hp)), prm_none (pstep_bad s0 (by rw [d0]; exact hp))]
    rfl
  | some x =>
    by_cases hx : x.2 = 0
    · have e0 := pstep_empty s0 (by rw [d0]; exact hp) hx
      have e1 := pstep_empty s1 (by rw [d1]; exact hp) hx
      rw [prm_on e0, prm_on e1]
      simp only
      rw [d0, d1, h0, h1]
      cases prm t with
      | none => rfl
      | some y => simp; omega
    · have e0 := pstep_one s0 (by rw [d0]; exact hp) hx
      have e1 := pstep_one s1 (by rw [d1]; exact hp) hx
      rw [prm_on e0, prm_on e1]
      simp only
      rw [d0, d1, h0, h1]
      have f0 : (59 :: t).drop (0 + 1 + bl t + x.2) = t.drop (bl t + x.2) := by rw [show 0 + 1 + bl t + x.2 = (bl t + x.2) + 1 by omega, List.drop_succ_cons]
      have f1 : (b ++ 59 :: t).drop (b.length + 1 + bl t + x.2) = t.drop (bl t + x.2) := by
        rw [List.drop_append, List.drop_of_length_le (by omega), show b.length + 1 + bl t + x.2 - b.length = (bl t + x.2) + 1 by omega, List.drop_succ_cons]
        rfl
      rw [f0, f1]
      cases prm (t.drop (bl t + x.2)) with
      | none => rfl
      | some y => simp; omega
theorem params_blanks (b t : List UInt8) (hb : b.all blankB = true) : (paramsR (b ++ 59 :: t)).1 = (paramsR (59 :: t)).1 ∧ (paramsR (b ++ 59 :: t)).2.2 = (paramsR (59 :: t)).2.2 ∧ ((paramsR (59 :: t)).2.2 = 0 → (paramsR (b ++ 59 :: t)).2.1 = b.length + (paramsR (59 :: t)).2.1) := by
  have h := prm_blanks b t hb
  cases hp : prm (59 :: t) with
  | none =>
    rw [hp] at h
    rw [paramsR_none hp, paramsR_none (by rw [h]; rfl)]
    exact ⟨rfl, rfl, fun h => by cases h⟩
  | some y =>
    rw [hp] at h
    rw [paramsR_some hp, paramsR_some (x := (y.1, b.length + y.2)) (by rw [h]; rfl)]
    exact ⟨rfl, rfl, fun _ => by simp⟩
theorem params_other (b t : List UInt8) (c : UInt8) (hb : b.all blankB = true) (hc : blankB c = false) (h59 : c ≠ 59) : paramsR (b ++ c :: t) = ([], 0, 0) := by
  have h0 : bl (c :: t) = 0 := by unfold bl; rw [List.takeWhile_cons, if_neg (by simp [hc])]; rfl
  have h1 : bl (b ++ c :: t) = b.length := bl_app b _ hb h0
  exact paramsR_some (x := ([], 0)) (prm_end (pstep_stop (by rw [h1]; unfold semi; simp [h59])))
theorem params_nil : paramsR [] = ([], 0, 0) := paramsR_some (x := ([], 0)) (prm_end (pstep_stop (by unfold semi; simp)))
theorem pgo_fits : ∀ (f : Nat) (r : List UInt8) (y : List Prm × Nat), pgo f r = some y → y.2 ≤ r.length
  | 0, r, y, h => by cases h
  | f + 1, r, y, h => by
    rw [pgo] at h
    cases hp : pstep r with
    | none => rw [hp] at h; cases h
    | some o =>
      rw [hp] at h
      cases o with
      | none => cases h; exact Nat.zero_le _
      | some x =>
        have hx := pstep_le r x hp
        obtain ⟨z, hz, e⟩ := Option.map_eq_some_iff.1 h
        have ih := pgo_fits f _ z hz
        rw [List.length_drop] at ih
        cases e
        show x.1 + z.2 ≤ _
        omega
theorem params_fit (l : List UInt8) : 0 ≤ (paramsR l).2.1 ∧ (paramsR l).2.1 ≤ (l.length : Int) := by
  unfold paramsR
  cases h : prm l with
  | none => simp
  | some y => have := pgo_fits _ _ _ h; simp; omega
theorem all_take (p : UInt8 → Bool) (l : List UInt8) : (l.takeWhile p).all p = true := by
  induction l with
  | nil => rfl
  | cons c t ih =>
    rw [List.takeWhile_cons]
    split
    · rename_i h; rw [List.all_cons, h, ih]; rfl
    · rfl

theorem ite_same {α : Type} {P Q : Prop} [Decidable P] [Decidable Q] (h : P ↔ Q) (a b : α) : (if P then a else b) = if Q then a else b := by
  by_cases hp : P
  · rw [if_pos hp, if_pos (h.1 hp)]
  · rw [if_neg hp, if_neg (fun q => hp (h.2 q))]

theorem prg_dis (l : List UInt8) : prgR l = disR l := by
  have hh := trim_head l
  have hl := trim_last l
  unfold prgR disR
  dsimp only
  generalize trim l = s at *
  have hT : (s.takeWhile tokB).all tokB = true := all_take _ _
  have hB : ((s.dropWhile tokB).takeWhile blankB).all blankB = true := all_take _ _
  have es : s = s.takeWhile tokB ++ ((s.dropWhile tokB).takeWhile blankB ++ (s.dropWhile tokB).dropWhile blankB) := by rw [List.takeWhile_append_dropWhile, List.takeWhile_append_dropWhile]
  have hr := dropWhile_head blankB (s.dropWhile tokB)
  have hr2 := dropWhile_head tokB s
  have ek : tokLen s = (s.takeWhile tokB).length := rfl
  rw [ek]
  have edr : s.drop (s.takeWhile tokB).length = (s.dropWhile tokB).takeWhile blankB ++ (s.dropWhile tokB).dropWhile blankB := by
    conv => lhs; arg 2; rw [es]
    rw [List.drop_append, List.drop_of_length_le (by omega)]; simp
  have etk : s.take (s.takeWhile tokB).length = s.takeWhile tokB := by
    conv => lhs; arg 2; rw [es]
    rw [List.take_append, List.take_of_length_le (by omega)]; simp
  have hr2' : ∀ x t, (s.dropWhile tokB).takeWhile blankB ++ (s.dropWhile tokB).dropWhile blankB = x :: t → tokB x = false := fun x t e => hr2 x t (by rw [← e, List.takeWhile_append_dropWhile])
  rw [edr, etk]
  clear edr etk ek hr2
  generalize s.takeWhile tokB = T at *
  generalize (s.dropWhile tokB).takeWhile blankB = b at *
  generalize (s.dropWhile tokB).dropWhile blankB = r at *
  have hTn : ∀ c ∈ T, blankB c = false ∧ c ≠ 59 := fun c hc => tok_not c (List.all_eq_true.1 hT c hc)
  have hBn : ∀ c ∈ b, tokB c = false ∧ c ≠ 59 := fun c hc => blank_not c (List.all_eq_true.1 hB c hc)
  subst es
  cases r with
  | nil =>
    have hb0 : b = [] := by
      rcases List.eq_nil_or_concat b with h | ⟨b', x, h⟩
      · exact h
      · have := hl x (T ++ b') (by rw [h, List.append_nil, List.concat_eq_append, List.append_assoc])
        have h2 := List.all_eq_true.1 hB x (by rw [h]; simp)
        rw [this] at h2; cases h2
    subst hb0
    have hA : Tg.cutA 59 (T ++ ([] ++ [])) = T := by rw [cutA_skip 59 T _ (fun c hc => (hTn c hc).2)]; simp [Tg.cutA]
    have hW : trim T = T := by
      unfold trim
      have e1 : trimL T = T := by
        cases T with
        | nil => rfl
        | cons x t => exact trimL_none x t (hTn x (by simp)).1
      rw [e1]
      have := trimR_none T (fun x hx => (hTn x hx).1) [] rfl
      rwa [List.append_nil] at this
    rw [hA, hW, isTok_eq T hT]
    have hd : (T ++ (([] : List UInt8) ++ [])).drop T.length = [] := by simp
    rw [hd, show ([] : List UInt8) ++ [] = [] from rfl, params_nil]
    simp [lowOk, noTwo]
  | cons c t =>
    have hcb := hr c t rfl
    by_cases h59 : c = 59
    · subst h59
      have hA : Tg.cutA 59 (T ++ (b ++ 59 :: t)) = T ++ b := by
        rw [cutA_skip 59 T _ (fun c hc => (hTn c hc).2), cutA_skip 59 b _ (fun c hc => (hBn c hc).2)]; simp [Tg.cutA]
      have hW : trim (T ++ b) = T := by
        unfold trim
        cases T with
        | nil =>
          cases b with
          | nil => rfl
          | cons x b' =>
            have := hh x (b' ++ 59 :: t) rfl
            have h2 := List.all_eq_true.1 hB x (by simp)
            rw [this] at h2; cases h2
        | cons x T' =>
          rw [List.cons_append, trimL_none x _ (hTn x (by simp)).1, ← List.cons_append]
          exact trimR_none _ (fun y hy => (hTn y hy).1) b hB
      have hd : (T ++ (b ++ 59 :: t)).drop (T ++ b).length = 59 :: t := by rw [← List.append_assoc, List.drop_left]
      rw [hA, hW, hd, isTok_eq T hT]
      obtain ⟨p1, p2, p3⟩ := params_blanks b t hB
      have hf := params_fit (59 :: t)
      rw [p1, p2]
      generalize hP : paramsR (59 :: t) = P at *
      obtain ⟨P1, P2, P3⟩ := P
      dsimp only at *
      have hTl : (T = []) ↔ T.length = 0 := List.length_eq_zero_iff.symm
      by_cases hz : P3 = 0
      · have p3' := p3 hz
        rw [p3']
        refine ite_same ?_ _ _
        simp only [List.length_append, List.length_cons, decide_eq_false_iff_not, ne_eq, Decidable.not_not] at hf ⊢
        constructor
        · rintro (h | h | h | h)
          · exact .inr (.inl h)
          · exact .inr (.inr (.inl (by omega)))
          · exact .inl (hTl.1 h)
          · exact .inr (.inr (.inr h))
        · rintro (h | h | h | h)
          · exact .inr (.inr (.inl (hTl.2 h)))
          · exact .inl h
          · exact .inr (.inl (by omega))
          · exact .inr (.inr (.inr h))
      · rw [if_pos (.inl hz), if_pos (.inr (.inl hz))]
    · have hq := params_other b t c hB hcb h59
      rw [hq]
      rw [if_pos (c := T.length = 0 ∨ _) (.inr (.inr (.inl (by simp; omega))))]
      have hA : ∃ X, Tg.cutA 59 (T ++ (b ++ c :: t)) = T ++ (b ++ c :: X) := by
        refine ⟨Tg.cutA 59 t, ?_⟩
        rw [cutA_skip 59 T _ (fun c hc => (hTn c hc).2), cutA_skip 59 b _ (fun c hc => (hBn c hc).2)]
        have : Tg.cutA 59 (c :: t) = c :: Tg.cutA 59 t := by simp [Tg.cutA, h59]
        rw [this]
      obtain ⟨X, hA⟩ := hA
      rw [hA]
      have hno : isTok (trim (T ++ (b ++ c :: X))) = false := by
        have hL : trimL (T ++ (b ++ c :: X)) = T ++ (b ++ c :: X) := by
          cases T with
          | nil =>
            cases b with
            | nil => exact trimL_none c X hcb
            | cons x b' =>
              have := hh x (b' ++ c :: t) rfl
              have h2 := List.all_eq_true.1 hB x (by simp)
              rw [this] at h2; cases h2
          | cons x T' => rw [List.cons_append]; exact trimL_none x _ (hTn x (by simp)).1
        unfold trim
        rw [hL]
        obtain ⟨X', e⟩ := trimR_keep (T ++ b) c X hcb
        rw [← List.append_assoc, e]
        cases b with
        | nil => exact isTok_no _ c (by simp) (hr2' c t rfl)
        | cons x b' => exact isTok_no _ x (by simp) (hBn x (by simp)).1
      rw [if_pos (.inr (.inr (.inl hno)))]

end Ds
end Go.Proofs.YtlnlhhobmgiceaaGreatDoor

/-
  octet.blankLength, readValue, readParam.
-/
set_option linter.unusedVariables false
set_option linter.unusedSimpArgs false
namespace Go.Proofs.YtlnlhhobmgiceaaGreatDoor
open Go.RowKit Go.Shelf Go.Lib
namespace Oc

set_option maxHeartbeats 1000000 in
theorem blankLength_any (s : ByteArray) (hs : s.size ≤ 134217728) (w : World) :
    Calls Tryz.prog 62 #[.string s] w fun e w' => e = .returned (.int .i64 (bl s.data.toList)) ∧ Below w.heap.size w w' := by
  have hcon := Any.strings_TrimLeft_laid Tryz.lays161 (by kernel_rfl) s ⟨#[32, 9]⟩ w (by decide) (ascii_of_all (by decide))
  change Calls Tryz.prog 66 _ _ (fun e w' => e = .returned (.string ⟨(Lib.trimLeftS s.data.toList [32, 9]).toArray⟩) ∧ Below w.heap.size w w') at hcon
  rw [trimLeftS_eq] at hcon
  change Calls Tryz.prog 66 _ _ (fun e w' => e = .returned (.string (str (trimL s.data.toList))) ∧ Below w.heap.size w w') at hcon
  have hb := bl_trim s.data.toList
  rw [size_list] at hb
  have hsz := str_size (trimL s.data.toList)
  rw [← hsz] at hb
  clear hsz
  generalize str (trimL s.data.toList) = r at hcon hb
  have HC : Hid (Calls Tryz.prog 66 #[.string s, .string ⟨#[32, 9]⟩] w (fun e w' => e = .returned (.string r) ∧ Below w.heap.size w w')) := hcon
  clear hcon
  have HB : Hid (bl s.data.toList + r.size = s.size) := hb
  have hle : r.size ≤ s.size := by omega
  clear hb
  go_enter Tryz.func62, Tryz.ntmps62
  go_wp2_with fail
  refine HC.out.mono ?_
  rintro e w' ⟨rfl, hB⟩
  go_wp2
  go_ret
  exact ⟨ret_int (by have := HB.out; omega), hB⟩

theorem unqR_zero' (l : List UInt8) (h : qlen l = 0) : unqR l = ([], 0, 13) := by unfold unqR; rw [if_pos h]
def rvR (r : List UInt8) : List UInt8 × Int × Int := match rv r with | some x => (x.1, (x.2 : Int), 0) | none => ([], 0, 15)
theorem take_ext (s : ByteArray) (n : Nat) : s.extract 0 n = str (s.data.toList.take n) := by
  apply eq_list
  rw [str_list, Lib.extract_data]
  simp

set_option maxRecDepth 100000 in
set_option maxHeartbeats 1000000 in
theorem readValue_any (s : ByteArray) (hs : s.size ≤ 134217728) (w : World) (t : Tab w) :
    Calls Tryz.prog 94 #[.string s] w fun e w' => e = .returned (.tuple #[.string (str (rvR s.data.toList).1), .int .i64 (rvR s.data.toList).2.1, .int .i64 (rvR s.data.toList).2.2]) ∧ Below w.heap.size w w' := by
  have HT : Hid (Tab w) := t
  clear t
  have HS : Hid (s.size ≤ maxLen) := (by unfold maxLen; omega : s.size ≤ maxLen)
  have hl := tokLen_le s.data.toList
  rw [size_list] at hl
  by_cases h0 : 0 < tokLen s.data.toList
  · have HR : Hid (rvR s.data.toList = (s.data.toList.take (tokLen s.data.toList), (tokLen s.data.toList : Int), 0)) := (by unfold rvR rv; rw [if_pos h0] : rvR s.data.toList = _)
    have HX : Hid (s.extract 0 (tokLen s.data.toList) = str (s.data.toList.take (tokLen s.data.toList))) := take_ext s _
    go_enter Tryz.func94, Tryz.ntmps94
    go_wp2_with fail
    refine (tokenLength_any s HS.out _ HT.out).mono ?_
    rintro e w1 ⟨rfl, hb1⟩
    generalize tokLen s.data.toList = n at *
    go_wp2
    go_ret3
    rw [HR.out, ← HX.out]
    exact ⟨rfl, hb1⟩
  · have hz : tokLen s.data.toList = 0 := by omega
    have HZ : Hid (tokLen s.data.toList = 0) := hz
    by_cases hq : qlen s.data.toList = 0
    · have HR : Hid (rvR s.data.toList = ([], 0, 15)) := (by unfold rvR rv; rw [if_neg h0, if_pos hq] : rvR s.data.toList = _)
      have HU : Hid (unqR s.data.toList = ([], 0, 13)) := unqR_zero' _ hq
      clear hl h0 hz hq
      go_enter Tryz.func94, Tryz.ntmps94
      go_wp2_with fail
      refine (tokenLength_any s HS.out _ HT.out).mono ?_
      rintro e w1 ⟨rfl, hb1⟩
      rw [HZ.out]
      go_wp2_with fail
      refine (Unquote_any s hs _).mono ?_
      rintro e w2 ⟨rfl, hb2⟩
      rw [HU.out]
      go_wp2
      go_ret3
      rw [HR.out]
      exact ⟨rfl, bel_trans hb1 hb2⟩
    · have HR : Hid (rvR s.data.toList = (psay false ((s.data.toList.drop 1).take (qlen s.data.toList - 2)), (qlen s.data.toList : Int), 0)) := (by unfold rvR rv; rw [if_neg h0, if_neg hq] : rvR s.data.toList = _)
      have HU : Hid (unqR s.data.toList = (psay false ((s.data.toList.drop 1).take (qlen s.data.toList - 2)), (qlen s.data.toList : Int), 0)) := (by unfold unqR; rw [if_neg hq] : unqR s.data.toList = _)
      clear hl h0 hz hq
      go_enter Tryz.func94, Tryz.ntmps94
      go_wp2_with fail
      refine (tokenLength_any s HS.out _ HT.out).mono ?_
      rintro e w1 ⟨rfl, hb1⟩
      rw [HZ.out]
      go_wp2_with fail
      refine (Unquote_any s hs _).mono ?_
      rintro e w2 ⟨rfl, hb2⟩
      rw [HU.out]
      generalize psay false ((s.data.toList.drop 1).take (qlen s.data.toList - 2)) = x at *
      go_wp2
      go_ret3
      rw [HR.out]
      exact ⟨rfl, bel_trans hb1 hb2⟩

/-- What readParam answers. -/
def rpR (r : List UInt8) : Prm × Int × Int := match rp r with | some x => (x.1, (x.2 : Int), 0) | none => (([], [], false), 0, 15)

set_option maxRecDepth 100000 in
set_option maxHeartbeats 1000000 in
theorem readParam_any (s : ByteArray) (hs : s.size ≤ 134217728) (w : World) (t : Tab w) :
    Calls Tryz.prog 63 #[.string s] w fun e w' => e = .returned (.tuple #[.agg #[.string (str (rpR s.data.toList).1.1), .string (str (rpR s.data.toList).1.2.1), .bool (rpR s.data.toList).1.2.2], .int .i64 (rpR s.data.toList).2.1, .int .i64 (rpR s.data.toList).2.2]) ∧ Below w.heap.size w w' := by
  have HT : Hid (Tab w) := t
  clear t
  have HS : Hid (s.size ≤ maxLen) := (by unfold maxLen; omega : s.size ≤ maxLen)
  have hl := tokLen_le s.data.toList
  rw [size_list] at hl
  have HX : Hid (s.extract 0 (tokLen s.data.toList) = str (s.data.toList.take (tokLen s.data.toList))) := take_ext s _
  have b0 : Hid (Below w.heap.size w (w.alloc (.cells #[.string ⟨#[]⟩, .string ⟨#[]⟩, .bool false] 47))) := (Below.refl _ w).alloc (Nat.le_refl _) _
  have HT1 : Hid (Tab (w.alloc (.cells #[.string ⟨#[]⟩, .string ⟨#[]⟩, .bool false] 47))) := HT.out.below b0.out (Nat.le_refl _)
  cases htd : told s.data.toList (tokLen s.data.toList) with
  | false =>
    have HR : Hid (rpR s.data.toList = ((s.data.toList.take (tokLen s.data.toList), [], false), (tokLen s.data.toList : Int), 0)) := (by unfold rpR rp; rw [htd]; rfl : rpR s.data.toList = _)
    have hno := of_decide_eq_false htd
    rw [size_list] at hno
    go_enter Tryz.func63, Tryz.ntmps63
    go_wp2_with fail
    refine (tokenLength_any s HS.out _ HT1.out).mono ?_
    rintro e w1 ⟨rfl, hb1⟩
    have k0 : w1.cell? ⟨w.heap.size, 0, none⟩ = some (.string ⟨#[]⟩) := (hb1.cell (p := ⟨w.heap.size, 0, none⟩) (by simp)).trans (by simp)
    have k1 : w1.cell? ⟨w.heap.size, 1, none⟩ = some (.string ⟨#[]⟩) := (hb1.cell (p := ⟨w.heap.size, 1, none⟩) (by simp)).trans (by simp)
    have k2 : w1.cell? ⟨w.heap.size, 2, none⟩ = some (.bool false) := (hb1.cell (p := ⟨w.heap.size, 2, none⟩) (by simp)).trans (by simp)
    have f0 : w1.frozen? ⟨w.heap.size, 0, none⟩ = false := (hb1.frozen (p := ⟨w.heap.size, 0, none⟩) (by simp)).trans (by simp)
    have f1 : w1.frozen? ⟨w.heap.size, 1, none⟩ = false := (hb1.frozen (p := ⟨w.heap.size, 1, none⟩) (by simp)).trans (by simp)
    have f2 : w1.frozen? ⟨w.heap.size, 2, none⟩ = false := (hb1.frozen (p := ⟨w.heap.size, 2, none⟩) (by simp)).trans (by simp)
    have hsz : w.heap.size < w1.heap.size := by have := hb1.size; simp at this; omega
    have HB1 : Hid (Below w.heap.size w w1) := bel_trans b0.out hb1
    clear hb1
    generalize tokLen s.data.toList = n at *
    have hts : ((n : Int) == 0) = true ∨ ((n : Int) == 0) = false ∧ ((n : Int) == (s.size : Int)) = true ∨ ((n : Int) == 0) = false ∧ ((n : Int) == (s.size : Int)) = false ∧ ∃ h : n < s.size, ((s[n].toNat : Nat) : Int) = byt s n ∧ (byt s n != 61) = true := by
      by_cases h1 : n = 0
      · left; simp [h1]
      · by_cases h2 : n = s.size
        · right; left; exact ⟨by simp; omega, by simp [h2]⟩
        · right; right
          refine ⟨by simp; omega, by simp; omega, by omega, byt_at s n (by omega), ?_⟩
          simp only [bne_iff_ne]
          intro e
          refine hno ⟨by omega, by omega, ?_⟩
          unfold byt at e
          exact UInt8.toNat_inj.1 (by show _ = 61; omega)
    clear hno htd
    rcases hts with t1 | ⟨t1, t2⟩ | ⟨t1, t2, hlt, t3, t4⟩
    all_goals
      go_wp2
      refine bodyPost_ret (v := .tuple #[.agg #[.string (s.extract 0 n), .string ⟨#[]⟩, .bool false], .int .i64 n, .int .i64 0]) (by simp [results, Tryz.results63, go_sem, k0, k1, k2, hsz]) rfl ⟨?_, ?_⟩
      · rw [HR.out, HX.out]; rfl
      · exact (((HB1.out.setCell (Nat.le_refl _) _).setCell (Nat.le_refl _) _).setCell (Nat.le_refl _) _).alloc (by simp; omega) _
  | true =>
    have hyes := of_decide_eq_true htd
    rw [size_list] at hyes
    have HRP : Hid (rp s.data.toList = (rv (s.data.toList.drop (tokLen s.data.toList + 1))).map (fun x => ((s.data.toList.take (tokLen s.data.toList), x.1, true), tokLen s.data.toList + 1 + x.2))) := (by unfold rp; rw [if_pos htd] : rp s.data.toList = _)
    obtain ⟨y1, y2, y3⟩ := hyes
    have HEQ : Hid (byt s (tokLen s.data.toList) = 61) := (by unfold byt; rw [y3]; rfl : byt s (tokLen s.data.toList) = 61)
    have hby : ((s[tokLen s.data.toList].toNat : Nat) : Int) = byt s (tokLen s.data.toList) := byt_at s _ y2
    have HE : Hid ((s.extract (tokLen s.data.toList + 1) s.size).data.toList = s.data.toList.drop (tokLen s.data.toList + 1)) := Lib.extract_to_end s _
    clear htd y3
    go_enter Tryz.func63, Tryz.ntmps63
    go_wp2_with fail
    refine (tokenLength_any s HS.out _ HT1.out).mono ?_
    rintro e w1 ⟨rfl, hb1⟩
    have k0 : w1.cell? ⟨w.heap.size, 0, none⟩ = some (.string ⟨#[]⟩) := (hb1.cell (p := ⟨w.heap.size, 0, none⟩) (by simp)).trans (by simp)
    have k1 : w1.cell? ⟨w.heap.size, 1, none⟩ = some (.string ⟨#[]⟩) := (hb1.cell (p := ⟨w.heap.size, 1, none⟩) (by simp)).trans (by simp)
    have k2 : w1.cell? ⟨w.heap.size, 2, none⟩ = some (.bool false) := (hb1.cell (p := ⟨w.heap.size, 2, none⟩) (by simp)).trans (by simp)
    have f0 : w1.frozen? ⟨w.heap.size, 0, none⟩ = false := (hb1.frozen (p := ⟨w.heap.size, 0, none⟩) (by simp)).trans (by simp)
    have f1 : w1.frozen? ⟨w.heap.size, 1, none⟩ = false := (hb1.frozen (p := ⟨w.heap.size, 1, none⟩) (by simp)).trans (by simp)
    have f2 : w1.frozen? ⟨w.heap.size, 2, none⟩ = false := (hb1.frozen (p := ⟨w.heap.size, 2, none⟩) (by simp)).trans (by simp)
    have hsz : w.heap.size < w1.heap.size := by have := hb1.size; simp at this; omega
    have HB1 : Hid (Below w.heap.size w w1) := bel_trans b0.out hb1
    have HTw : Hid (Tab w1) := HT1.out.below hb1 (Nat.le_refl _)
    clear hb1
    generalize tokLen s.data.toList = n at *
    have t1 : ((n : Int) == 0) = false := by simp; omega
    have t2 : ((n : Int) == (s.size : Int)) = false := by simp; omega
    have t3 : (byt s n != 61) = false := by simp [HEQ.out]
    have bp : Below w1.heap.size w1 (w1.alloc (.cells #[.string (s.extract 0 n), .string ⟨#[]⟩, .bool false] 47)) := (Below.refl _ w1).alloc (Nat.le_refl _) _
    have HBp : Hid (Below w1.heap.size w1 (w1.alloc (.cells #[.string (s.extract 0 n), .string ⟨#[]⟩, .bool false] 47))) := bp
    have HTp : Hid (Tab (w1.alloc (.cells #[.string (s.extract 0 n), .string ⟨#[]⟩, .bool false] 47))) := HTw.out.below bp (Nat.le_refl _)
    clear bp
    go_wp2_with fail
    refine (readValue_any (s.extract (n + 1) s.size) (by simp; omega) _ HTp.out).mono ?_
    rintro e w2 ⟨rfl, hb2⟩
    rw [HE.out]
    have hb2' := hb2.mono (show w1.heap.size ≤ (w1.alloc (.cells #[.string (s.extract 0 n), .string ⟨#[]⟩, .bool false] 47)).heap.size by simp)
    have q0 : w2.cell? ⟨w.heap.size, 0, none⟩ = some (.string ⟨#[]⟩) := (hb2'.cell (p := ⟨w.heap.size, 0, none⟩) hsz).trans ((HBp.out.cell (p := ⟨w.heap.size, 0, none⟩) hsz).trans k0)
    have q1 : w2.cell? ⟨w.heap.size, 1, none⟩ = some (.string ⟨#[]⟩) := (hb2'.cell (p := ⟨w.heap.size, 1, none⟩) hsz).trans ((HBp.out.cell (p := ⟨w.heap.size, 1, none⟩) hsz).trans k1)
    have q2 : w2.cell? ⟨w.heap.size, 2, none⟩ = some (.bool false) := (hb2'.cell (p := ⟨w.heap.size, 2, none⟩) hsz).trans ((HBp.out.cell (p := ⟨w.heap.size, 2, none⟩) hsz).trans k2)
    have g0 : w2.frozen? ⟨w.heap.size, 0, none⟩ = false := (hb2'.frozen (p := ⟨w.heap.size, 0, none⟩) hsz).trans ((HBp.out.frozen (p := ⟨w.heap.size, 0, none⟩) hsz).trans f0)
    have g1 : w2.frozen? ⟨w.heap.size, 1, none⟩ = false := (hb2'.frozen (p := ⟨w.heap.size, 1, none⟩) hsz).trans ((HBp.out.frozen (p := ⟨w.heap.size, 1, none⟩) hsz).trans f1)
    have g2 : w2.frozen? ⟨w.heap.size, 2, none⟩ = false := (hb2'.frozen (p := ⟨w.heap.size, 2, none⟩) hsz).trans ((HBp.out.frozen (p := ⟨w.heap.size, 2, none⟩) hsz).trans f2)
    have p0 : w2.cell? ⟨w1.heap.size, 0, none⟩ = some (.string (s.extract 0 n)) := (hb2.cell (p := ⟨w1.heap.size, 0, none⟩) (by simp)).trans (by simp)
    have p1 : w2.cell? ⟨w1.heap.size, 1, none⟩ = some (.string ⟨#[]⟩) := (hb2.cell (p := ⟨w1.heap.size, 1, none⟩) (by simp)).trans (by simp)
    have p2 : w2.cell? ⟨w1.heap.size, 2, none⟩ = some (.bool false) := (hb2.cell (p := ⟨w1.heap.size, 2, none⟩) (by simp)).trans (by simp)
    have pf1 : w2.frozen? ⟨w1.heap.size, 1, none⟩ = false := (hb2.frozen (p := ⟨w1.heap.size, 1, none⟩) (by simp)).trans (by simp)
    have pf2 : w2.frozen? ⟨w1.heap.size, 2, none⟩ = false := (hb2.frozen (p := ⟨w1.heap.size, 2, none⟩) (by simp)).trans (by simp)
    have hs2 : w1.heap.size < w2.heap.size := by have := hb2.size; simp at this; omega
    have HB2 : Hid (Below w.heap.size w w2) := bel_trans (bel_trans HB1.out HBp.out) hb2
    clear hb2 hb2' k0 k1 k2 f0 f1 f2
    have hne : w1.heap.size ≠ w.heap.size := by omega
    cases hrv : rv (s.data.toList.drop (n + 1)) with
    | none =>
      have HV : Hid (rvR (s.data.toList.drop (n + 1)) = ([], 0, 15)) := (by unfold rvR; rw [hrv] : rvR _ = _)
      have HR : Hid (rpR s.data.toList = (([], [], false), 0, 15)) := (by unfold rpR; rw [HRP.out, hrv]; rfl : rpR _ = _)
      rw [HV.out]
      go_wp2
      refine bodyPost_ret (v := .tuple #[.agg #[.string ⟨#[]⟩, .string ⟨#[]⟩, .bool false], .int .i64 0, .int .i64 15]) (by simp [results, Tryz.results63, go_sem, q0, q1, q2]) rfl ⟨?_, ?_⟩
      · rw [HR.out]; rfl
      · exact ((HB2.out.setCell (Nat.le_refl _) _).setCell (Nat.le_refl _) _).setCell (Nat.le_refl _) _
    | some x =>
      have hx := rv_le _ x hrv
      rw [List.length_drop, size_list] at hx
      have HV : Hid (rvR (s.data.toList.drop (n + 1)) = (x.1, (x.2 : Int), 0)) := (by unfold rvR; rw [hrv] : rvR _ = _)
      have HR : Hid (rpR s.data.toList = ((s.data.toList.take n, x.1, true), ((n + 1 + x.2 : Nat) : Int), 0)) := (by unfold rpR; rw [HRP.out, hrv]; rfl : rpR _ = _)
      rw [HV.out]
      generalize hy : str x.1 = y
      have HY : Hid (str x.1 = y) := hy
      clear hy
      go_wp2
      refine bodyPost_ret (v := .tuple #[.agg #[.string (s.extract 0 n), .string y, .bool true], .int .i64 ((n : Int) + 1 + (x.2 : Int)), .int .i64 0]) (by simp [results, Tryz.results63, go_sem, q0, q1, q2, hne]) rfl ⟨?_, ?_⟩
      · rw [HR.out, HX.out]
        show _ = Ending.returned (.tuple #[.agg #[.string (str (s.data.toList.take n)), .string (str x.1), .bool true], .int .i64 ((n + 1 + x.2 : Nat) : Int), .int .i64 0])
        rw [HY.out, show ((n + 1 + x.2 : Nat) : Int) = (n : Int) + 1 + (x.2 : Int) by omega]
      · exact ((((HB2.out.setCell (by show w.heap.size ≤ w1.heap.size; omega) _).setCell (by show w.heap.size ≤ w1.heap.size; omega) _).setCell (Nat.le_refl _) _).setCell (Nat.le_refl _) _).setCell (Nat.le_refl _) _

end Oc
end Go.Proofs.YtlnlhhobmgiceaaGreatDoor

/-
  Slices of texts of the call's own; octet.List.
-/
set_option linter.unusedVariables false
set_option linter.unusedSimpArgs false
namespace Go.Proofs.YtlnlhhobmgiceaaGreatDoor
open Go.RowKit Go.Shelf
namespace Oc

def encS (t : List (List UInt8)) : List Value := t.map fun l => .string (str l)
/-- A slice of texts of the call's own. -/
def OwnS (B : Nat) (v : Value) (t : List (List UInt8)) (w : World) : Prop := w.ownsRow B 9 1 v t.length (encS t)
theorem ownS_nil (B : Nat) (w : World) : OwnS B (.slice none 0 0) [] w := World.ownsRow_nil w B 9 1
theorem ownS_empty (w : World) : OwnS w.heap.size (.slice (some ⟨w.heap.size, 0, none⟩) 0 0) [] (w.alloc (.cells #[] 9)) :=
  ⟨by simp [encS], .inr ⟨w.heap.size, 0, #[], rfl, Nat.le_refl _, heap_alloc_new w _, by simp, by decide, by simp, by simp [encS]⟩⟩
theorem OwnS.lower {B B' : Nat} {v : Value} {t : List (List UInt8)} {w : World} (h : OwnS B v t w) (hB : B' ≤ B) : OwnS B' v t w := by
  refine ⟨h.1, ?_⟩
  rcases h.2 with hn | ⟨g, cap, cur, rfl, hb, rest⟩
  · exact .inl hn
  · exact .inr ⟨g, cap, cur, rfl, by omega, rest⟩
theorem OwnS.below {B : Nat} {v : Value} {t : List (List UInt8)} {w w' : World} (h : OwnS B v t w) (b : Below w.heap.size w w') : OwnS B v t w' := by
  refine ⟨h.1, ?_⟩
  rcases h.2 with hn | ⟨g, cap, cur, rfl, hb, hg, rest⟩
  · exact .inl hn
  · refine .inr ⟨g, cap, cur, rfl, hb, ?_, rest⟩
    have hlt : g < w.heap.size := by
      rcases Nat.lt_or_ge g w.heap.size with h | h
      · exact h
      · simp [Array.getElem?_eq_none h] at hg
    rw [b.block g hlt]
    exact hg
theorem OwnS.form {B : Nat} {v : Value} {t : List (List UInt8)} {w : World} (h : OwnS B v t w) : ∃ a c, v = .slice a t.length c := by
  rcases h.2 with ⟨rfl, h0⟩ | ⟨g, cap, cur, rfl, _⟩
  · exact ⟨none, 0, by rw [h0]⟩
  · exact ⟨_, _, rfl⟩
theorem OwnS.cell {B : Nat} {t : List (List UInt8)} {w : World} {a : Option Addr} {c : Nat} (h : OwnS B (.slice a t.length c) t w) (j : Nat) (hj : j < t.length) :
    ∃ g, a = some ⟨g, 0, none⟩ ∧ t.length ≤ c ∧ w.cell? ⟨g, j, none⟩ = some (.string (str (t.getD j []))) := by
  rcases h.2 with ⟨hv, h0⟩ | ⟨g, cap, cur, hv, _, hg, hn, _, hsz, htake⟩
  · omega
  · injection hv with e1 e2 e3
    refine ⟨g, e1, by omega, ?_⟩
    have hc := World.ownsRow.cells h (g := g) (by rw [e1]; rfl) j (.string (str (t.getD j []))) (by
      unfold encS
      rw [List.getElem?_map, List.getElem?_eq_getElem hj, List.getD_eq_getElem?_getD, List.getElem?_eq_getElem hj]
      rfl)
    have ea : Addr.add ⟨g, 0, none⟩ j = ⟨g, j, none⟩ := by unfold Addr.add; split <;> simp_all
    rw [ea] at hc
    exact hc

theorem infoStr : (Tryz.prog.info? 9).map (fun i => (i.zero, i.size, i.bytes)) = some (some (.string ⟨#[]⟩), 1, 16) := by kernel_rfl
theorem infoS : ∃ i, Tryz.prog.info? 9 = some i ∧ i.zero = some (.string ⟨#[]⟩) ∧ i.size = 1 ∧ i.bytes = 16 := by
  obtain ⟨i0, hi, hz0, hz1, hz2⟩ := info_parts infoStr
  exact ⟨i0, hi, hz0, hz1, hz2⟩
/-- A text appended to a slice of the call's own. -/
theorem wp_appS {ops : Array Oper} {rest : List Oper} {o : Oper} {a : Act} {Q : Exit → Act → World → Prop} (hgd : o.guard = none) (s x : Operand)
    (ho : o.op = .call { callee := .builtin .append, args := #[s, x], argTypes := #[81, 81] }) (B : Nat) (v : Value) (t : List (List UInt8)) (W : World) (l : List UInt8)
    (hs : a.eval s = v) (hown : OwnS B v t W) (hx : a.eval x = .slice (some ⟨W.heap.size, 0, none⟩) 1 1) (hlen : t.length + 1 ≤ 4294967296) (hB : B ≤ W.heap.size)
    (h : ∀ v' w', OwnS B v' (t ++ [l]) w' → Below B W w' → wpList Tryz.prog ops Q rest (a.put o.dst v') w') : wpList Tryz.prog ops Q (o :: rest) a (W.alloc (.cells #[.string (str l)] 9)) := by
  obtain ⟨i0, hi, hz0, hz1, hz2⟩ := infoS
  refine wpList_append_own _ hgd s x 81 ho B 9 i0 (.string ⟨#[]⟩) 1 16 Tryz.underlying81 hi hz0 hz1 hz2 rfl (by decide) v t.length _ hs (World.ownsRow.alloc hown _) ⟨W.heap.size, 0, none⟩ 1 1 [.string (str l)] hx rfl ?_ ?_ ?_ ?_ ?_ ?_
  · intro j u hj
    match j, hj with
    | 0, hj => simp at hj; subst hj; simp [Addr.add]
  · intro u hu; simp at hu; subst hu; rfl
  · unfold maxLen; omega
  · omega
  · simp; omega
  · intro v' w' h1 h2 _
    refine h v' w' ?_ (((Below.refl B W).alloc hB _).grown h2 (by simp; omega) (fun k hk => (World.ownsRow.lt hown k hk).1))
    unfold OwnS
    rw [List.length_append]
    simpa [encS] using h1

theorem str_empty (l : List UInt8) : (str l).toList.isEmpty = decide (l = []) := by
  rw [ByteArray.toList_eq, str_list]
  cases l <;> simp

end Oc
end Go.Proofs.YtlnlhhobmgiceaaGreatDoor

/-
  octet.List.
-/
set_option linter.unusedVariables false
set_option linter.unusedSimpArgs false
namespace Go.Proofs.YtlnlhhobmgiceaaGreatDoor
open Go.RowKit Go.Shelf
namespace Oc

/-- What stands from a place up to another. -/
def piece (l : List UInt8) (fr at' : Nat) : List UInt8 := (l.drop fr).take (at' - fr)
theorem piece_app (l : List UInt8) (fr a n : Nat) (h : fr ≤ a) : piece l fr a ++ (l.drop a).take n = piece l fr (a + n) := by
  unfold piece
  have e : l.drop a = (l.drop fr).drop (a - fr) := by rw [List.drop_drop, show fr + (a - fr) = a by omega]
  rw [e, show a + n - fr = (a - fr) + n by omega, List.take_add]
theorem piece_snoc (l : List UInt8) (fr a : Nat) (h : fr ≤ a) (ha : a < l.length) : piece l fr a ++ [l.getD a 0] = piece l fr (a + 1) := by
  rw [← piece_app l fr a 1 h, drop_cons l a ha]
  rfl
theorem piece_nil (l : List UInt8) (a : Nat) : piece l a a = [] := by unfold piece; simp
theorem piece_ext (s : ByteArray) (fr a : Nat) : (s.extract fr a).data.toList = piece s.data.toList fr a := Lib.extract_data s fr a
theorem piece_end (s : ByteArray) (fr a : Nat) (h : s.size ≤ a) : piece s.data.toList fr a = s.data.toList.drop fr := by
  unfold piece
  rw [List.take_of_length_le]
  rw [List.length_drop, size_list]
  omega
theorem lst_step (l : List UInt8) (acc : List (List UInt8)) (fr a : Nat) (t : List (List UInt8)) (h : lst [] l = (lst (piece l fr a) (44 :: l.drop (a + 1))).map (acc ++ ·)) :
    lst [] l = (lst (piece l (a + 1) (a + 1)) (l.drop (a + 1))).map ((acc ++ addEl (trim (piece l fr a)) []) ++ ·) := by
  rw [h, lst_comma _ _ _ rfl, piece_nil, Option.map_map]
  congr 1
  funext x
  show acc ++ addEl _ x = _
  rw [addEl_app]
  simp
theorem addEl_len (x : List UInt8) : (addEl x []).length ≤ 1 := by unfold addEl; split <;> simp

end Oc
end Go.Proofs.YtlnlhhobmgiceaaGreatDoor
