/- Several texts as one. -/
import Derived.Test.YticncpjpkgdnlaaGreatDoorMgG
import Derived.Deep.RegionHeld3
import Derived.Test.YticncpjpkgdnlaaGreatDoorMgB
/-
  What digits say, read back.
-/
set_option linter.unusedVariables false
set_option linter.unusedSimpArgs false
namespace Go.Proofs.YticncpjpkgdnlaaGreatDoor
open Go.RowKit
namespace Oc

theorem val_digit (d : Nat) (h : d < 10) : valI ((UInt8.ofNat (48 + d)).toNat : Int) = (d : Int) := by
  have e : (UInt8.ofNat (48 + d)).toNat = 48 + d := by rw [UInt8.toNat_ofNat']; omega
  rw [e, valI_d (by omega)]
  omega
theorem num_dec : ∀ u : Nat, numOf 10 (Lib.decDigits u) = (u : Int) := by
  intro u
  induction u using Nat.strongRecOn with
  | _ u ih =>
    by_cases h : u < 10
    · rw [Lib.decDigits_one h]
      show (0 : Int) * 10 + valI _ = _
      rw [val_digit u h]
      omega
    · rw [Lib.decDigits, dif_neg h, numOf_snoc, ih (u / 10) (by omega), val_digit _ (by omega)]
      omega
theorem dec_digits : ∀ u : Nat, ∀ c ∈ Lib.decDigits u, valI (c.toNat : Int) < 10 := by
  intro u
  induction u using Nat.strongRecOn with
  | _ u ih =>
    by_cases h : u < 10
    · rw [Lib.decDigits_one h]
      intro c hc
      have hc := List.mem_singleton.1 hc
      subst hc
      rw [val_digit u h]
      omega
    · rw [Lib.decDigits, dif_neg h]
      intro c hc
      rcases List.mem_append.1 hc with hc | hc
      · exact ih (u / 10) (by omega) c hc
      · have hc := List.mem_singleton.1 hc
        subst hc
        rw [val_digit (u % 10) (by omega)]
        omega
theorem dec_ne (u : Nat) : Lib.decDigits u ≠ [] := by
  rw [Lib.decDigits]
  split <;> simp
theorem dec_head : ∀ u : Nat, u ≠ 0 → (Lib.decDigits u).getD 0 0 ≠ 48 := by
  intro u
  induction u using Nat.strongRecOn with
  | _ u ih =>
    intro hu
    by_cases h : u < 10
    · rw [Lib.decDigits_one h]
      intro e
      have e2 := congrArg UInt8.toNat e
      simp [UInt8.toNat_ofNat'] at e2
      omega
    · rw [Lib.decDigits, dif_neg h]
      have hne := dec_ne (u / 10)
      have h1 := ih (u / 10) (by omega) (by omega)
      cases e : Lib.decDigits (u / 10) with
      | nil => exact absurd e hne
      | cons a l => rw [e] at h1; simpa using h1
theorem num_zeros (l : List UInt8) : ∀ k : Nat, numOf 10 (List.replicate k 48 ++ l) = numOf 10 l
  | 0 => by simp
  | k + 1 => by
    have := num_zeros l k
    rw [List.replicate_succ, List.cons_append]
    unfold numOf at *
    rw [List.foldl_cons]
    have e : (0 : Int) * 10 + valI ((48 : UInt8).toNat : Int) = 0 := by decide
    rw [e]
    exact this
theorem numR_zeros (u k : Nat) (most : Int) : numR 10 (List.replicate k 48 ++ Lib.decDigits u) most = if most < (u : Int) then (0, 12) else ((u : Int), 0) := by
  unfold numR
  rw [if_neg, num_zeros, num_dec]
  simp only [Bool.or_eq_true, List.any_eq_true, not_or]
  constructor
  · cases e : Lib.decDigits u with
    | nil => exact absurd e (dec_ne u)
    | cons a l => cases k <;> simp [List.replicate_succ]
  · rintro ⟨c, hc, h⟩
    have h := of_decide_eq_true h
    rcases List.mem_append.1 hc with hc | hc
    · have := List.eq_of_mem_replicate hc
      subst this
      have e : valI ((48 : UInt8).toNat : Int) = 0 := by decide
      rw [e] at h
      omega
    · have := dec_digits u c hc
      omega

structure Both (w : World) : Prop where
  tab : Tab w
  pow : Pow w

end Oc
end Go.Proofs.YticncpjpkgdnlaaGreatDoor

/-
  message: the document's Digits, Empty, Bodyless, Interim; the table of reasons, plainly.
-/
set_option linter.unusedVariables false
set_option linter.unusedSimpArgs false
set_option maxRecDepth 100000
namespace Go.Proofs.YticncpjpkgdnlaaGreatDoor
open Go.RowKit Go.Shelf
namespace Ms
open Oc Tg _root_.Go.Proofs.YticncpjpkgdnlaaGreatDoor.Fd _root_.Go.Proofs.YticncpjpkgdnlaaGreatDoor.Ck

theorem itoa_nat (n : Nat) : Lib.itoa (n : Int) = Lib.decDigits n := by
  unfold Lib.itoa
  rw [if_neg (by omega), Int.toNat_natCast]
theorem itoa_inj {a b : Nat} (h : Lib.itoa (a : Int) = Lib.itoa (b : Int)) : a = b := by
  rw [itoa_nat, itoa_nat] at h
  have h1 := num_dec a
  rw [h, num_dec] at h1
  omega
def digs (m : Nat) : List UInt8 := if m = 0 then [48] else decD m
theorem digs_itoa (n : Nat) : digs n = Lib.itoa (n : Int) := by
  unfold digs
  by_cases h : n = 0
  · subst h; rw [if_pos rfl]; exact itoa_zero.symm
  · rw [if_neg h, itoa_decD _ (by omega), if_neg (by omega)]
    simp
theorem digs_last (m : Nat) (h : m / 10 = 0) : digs m = [UInt8.ofNat (48 + m % 10)] := by
  unfold digs
  by_cases hm : m = 0
  · subst hm; rfl
  · rw [if_neg hm, decD_step m hm, h]; rfl
theorem digs_step (m : Nat) (h : m / 10 ≠ 0) : digs m = digs (m / 10) ++ [UInt8.ofNat (48 + m % 10)] := by
  unfold digs
  rw [if_neg (by omega), if_neg h, decD_step m (by omega)]
/-- What the document's Digits writes. -/
def dgR (n : Int) : List UInt8 := if n < 0 then [45] else Lib.itoa n

/-- The document's table of reasons, as one text. -/
def ent (c : Int) : List UInt8 := [UInt8.ofNat (48 + c.toNat / 100), UInt8.ofNat (48 + c.toNat / 10 % 10), UInt8.ofNat (48 + c.toNat % 10)] ++ ([32] ++ rsL c)
def flat (l : List Int) : List UInt8 := l.flatMap fun c => ent c ++ [124]
def rTab : List UInt8 := flat codes
theorem flat_app (a b : List Int) : flat (a ++ b) = flat a ++ flat b := by unfold flat; rw [List.flatMap_append]
theorem ent_bar : ∀ c ∈ codes, ∀ x ∈ ent c, x ≠ 124 := by decide +kernel
theorem code_bd : ∀ c ∈ codes, 100 ≤ c ∧ c ≤ 599 := by decide
theorem tab_len : rTab.length = 787 := by decide +kernel
theorem itoa_3 {c : Int} (h1 : 100 ≤ c) (h2 : c ≤ 999) : Lib.itoa c = [UInt8.ofNat (48 + c.toNat / 100), UInt8.ofNat (48 + c.toNat / 10 % 10), UInt8.ofNat (48 + c.toNat % 10)] := by
  rw [itoa_decD c (by omega), if_neg (by omega), show c.natAbs = c.toNat by omega, decD_step _ (by omega), decD_step _ (by omega), decD_step _ (by omega), show c.toNat / 10 / 10 / 10 = 0 by omega]
  show [] ++ (([] ++ [_]) ++ [_] ++ [_]) = _
  rw [show c.toNat / 10 / 10 % 10 = c.toNat / 100 by omega]
  rfl
/-- The digits of a number are those of a code if it is that code. -/
theorem code_is {n c : Int} (hc : c ∈ codes) : (ent c).take 3 = dgR n ↔ n = c := by
  obtain ⟨h1, h2⟩ := code_bd c hc
  have e : (ent c).take 3 = Lib.itoa c := (itoa_3 h1 (by omega)).symm
  rw [e]
  unfold dgR
  constructor
  · intro h
    split at h
    · have := congrArg List.length h
      rw [itoa_3 h1 (by omega)] at this
      simp at this
    · obtain ⟨a, ha⟩ : ∃ a : Nat, c = (a : Int) := ⟨c.toNat, by omega⟩
      obtain ⟨b, hb⟩ : ∃ b : Nat, n = (b : Int) := ⟨n.toNat, by omega⟩
      subst ha hb
      rw [itoa_inj h]
  · rintro rfl
    rw [if_neg (by omega)]

end Ms
end Go.Proofs.YticncpjpkgdnlaaGreatDoor

/-
  message: the document's Reason.
-/
set_option linter.unusedVariables false
set_option linter.unusedSimpArgs false
set_option maxRecDepth 100000
namespace Go.Proofs.YticncpjpkgdnlaaGreatDoor
open Go.RowKit Go.Shelf
namespace Ms
open Oc Tg _root_.Go.Proofs.YticncpjpkgdnlaaGreatDoor.Fd _root_.Go.Proofs.YticncpjpkgdnlaaGreatDoor.Ck

/-- Where the search stands: behind the entries of some codes, some bytes into the next. -/
structure At12 (n : Int) (f i : Nat) (a : List Int) (c : Int) (b : List Int) : Prop where
  codes : codes = a ++ c :: b
  off : f = (flat a).length
  in' : f ≤ i ∧ i ≤ f + (ent c).length
  none : ∀ k ∈ a, n ≠ k
theorem At12.tab {n : Int} {f i : Nat} {a : List Int} {c : Int} {b : List Int} (h : At12 n f i a c b) : rTab = flat a ++ (ent c ++ (124 :: flat b)) := by
  unfold rTab
  rw [h.codes, flat_app]
  show flat a ++ ((ent c ++ [124]) ++ flat b) = _
  simp
theorem At12.mem {n : Int} {f i : Nat} {a : List Int} {c : Int} {b : List Int} (h : At12 n f i a c b) : c ∈ Ms.codes := by rw [h.codes]; simp
theorem At12.lt {n : Int} {f i : Nat} {a : List Int} {c : Int} {b : List Int} (h : At12 n f i a c b) : f + (ent c).length < 787 := by
  have := congrArg List.length h.tab
  rw [tab_len] at this
  simp only [List.length_append, List.length_cons] at this
  have := h.off
  omega
theorem At12.byte {n : Int} {f i : Nat} {a : List Int} {c : Int} {b : List Int} (h : At12 n f i a c b) : (i < f + (ent c).length → rTab.getD i 0 ≠ 124) ∧ (i = f + (ent c).length → rTab.getD i 0 = 124) := by
  have ho := h.off
  obtain ⟨h1, h2⟩ := h.in'
  rw [h.tab]
  constructor
  · intro hi
    rw [List.getD_eq_getElem?_getD, List.getElem?_append_right (by omega), ← ho, List.getElem?_append_left (by omega)]
    have hlt : i - f < (ent c).length := by omega
    rw [List.getElem?_eq_getElem hlt]
    exact ent_bar c h.mem _ (List.getElem_mem hlt)
  · intro hi
    rw [List.getD_eq_getElem?_getD, List.getElem?_append_right (by omega), ← ho, List.getElem?_append_right (by omega), show i - f - (ent c).length = 0 by omega]
    rfl
theorem At12.cut {n : Int} {f i : Nat} {a : List Int} {c : Int} {b : List Int} (h : At12 n f i a c b) (hi : i = f + (ent c).length) : (rTab.drop f).take 3 = (ent c).take 3 ∧ (rTab.drop (f + 4)).take (i - (f + 4)) = rsL c ∧ f + 4 ≤ i := by
  have ho := h.off
  have el : (ent c).length = 4 + (rsL c).length := by unfold ent; simp; omega
  have hd : rTab.drop f = ent c ++ (124 :: flat b) := by
    rw [h.tab, ho, List.drop_left']
    rfl
  refine ⟨?_, ?_, by omega⟩
  · rw [hd, List.take_append_of_le_length (by omega)]
  · rw [← List.drop_drop, hd, List.drop_append_of_le_length (by omega), show i - (f + 4) = (rsL c).length by omega]
    have : (ent c).drop 4 = rsL c := rfl
    rw [this, List.take_left']
    rfl
theorem At12.next {n : Int} {f i : Nat} {a : List Int} {c c' : Int} {b : List Int} (h : At12 n f i a c (c' :: b)) (hi : i = f + (ent c).length) (hn : n ≠ c) : At12 n (i + 1) (i + 1) (a ++ [c]) c' b := by
  refine ⟨by rw [h.codes]; simp, ?_, ⟨Nat.le_refl _, by omega⟩, ?_⟩
  · rw [flat_app, List.length_append, ← h.off]
    show _ = f + ((ent c ++ [124]) ++ []).length
    simp
    omega
  · intro k hk
    simp at hk
    rcases hk with hk | rfl
    · exact h.none k hk
    · exact hn
theorem At12.last {n : Int} {f i : Nat} {a : List Int} {c : Int} (h : At12 n f i a c []) (hi : i = f + (ent c).length) (hn : n ≠ c) : i + 1 = 787 ∧ ∀ k ∈ Ms.codes, n ≠ k := by
  constructor
  · have := congrArg List.length h.tab
    rw [tab_len] at this
    simp only [List.length_append, List.length_cons] at this
    have h2 := h.off
    have h3 : (flat []).length = 0 := rfl
    omega
  · rw [h.codes]
    intro k hk
    simp at hk
    rcases hk with hk | rfl
    · exact h.none k hk
    · exact hn
theorem At12.first (n : Int) : At12 n 0 0 [] 100 Ms.codes.tail := ⟨rfl, rfl, ⟨Nat.le_refl _, Nat.zero_le _⟩, fun k hk => by cases hk⟩

/-- How the loop stands. -/
def Lp12 (n : Int) (f i : Nat) : Prop := (∃ a c b, At12 n f i a c b) ∨ (i = 787 ∧ ∀ k ∈ codes, n ≠ k)

end Ms
end Go.Proofs.YticncpjpkgdnlaaGreatDoor

/-
  Quoted texts, plainly: over lists of bytes.
-/
set_option linter.unusedVariables false
set_option linter.unusedSimpArgs false
namespace Go.Proofs.YticncpjpkgdnlaaGreatDoor
namespace Oc

def qByte (c : UInt8) : List UInt8 := if c = 34 ∨ c = 92 then [92, c] else [c]
def qBody (l : List UInt8) : List UInt8 := l.flatMap qByte
def qText (l : List UInt8) : List UInt8 := 34 :: (qBody l ++ [34])
def quoteR (l : List UInt8) : List UInt8 × Int := if isFld l then (qText l, 0) else ([], 13)

theorem qBody_snoc (l : List UInt8) (c : UInt8) : qBody (l ++ [c]) = qBody l ++ qByte c := by unfold qBody; rw [List.flatMap_append]; simp
theorem qByte_le (c : UInt8) : (qByte c).length ≤ 2 := by unfold qByte; split <;> simp
theorem qBody_le : ∀ l : List UInt8, (qBody l).length ≤ 2 * l.length
  | [] => by simp [qBody]
  | c :: l => by
    have := qBody_le l
    have h := qByte_le c
    unfold qBody at *
    rw [List.flatMap_cons, List.length_append, List.length_cons]
    omega

/-- The rest of a quoted text behind its first sign: how many bytes up to its end. -/
def qscan : Bool → List UInt8 → Option Nat
  | _, [] => none
  | e, c :: l => if fieldB c = false then none else if e then (qscan false l).map (· + 1) else if c = 92 then (qscan true l).map (· + 1) else if c = 34 then some 1 else (qscan false l).map (· + 1)
def plusOne : Option Nat → Nat
  | some k => k + 1
  | none => 0
def qlen : List UInt8 → Nat
  | [] => 0
  | c :: l => if c = 34 then plusOne (qscan false l) else 0
theorem qlen_cons (c : UInt8) (l : List UInt8) : qlen (c :: l) = if c = 34 then plusOne (qscan false l) else 0 := rfl
/-- What parts say. -/
def psay : Bool → List UInt8 → List UInt8
  | _, [] => []
  | e, c :: l => if c = 92 ∧ e = false then psay true l else c :: psay false l
/-- The document's way: what it says, and how many bytes. -/
def ru : Bool → List UInt8 → Option (List UInt8 × Nat)
  | _, [] => none
  | true, c :: l => if fieldB c then (ru false l).map (fun x => (c :: x.1, x.2 + 1)) else none
  | false, c :: l => if c = 34 then some ([], 1) else if c = 92 then (ru true l).map (fun x => (x.1, x.2 + 1)) else if fieldB c then (ru false l).map (fun x => (c :: x.1, x.2 + 1)) else none

theorem field34 : fieldB 34 = true := by decide
theorem field92 : fieldB 92 = true := by decide

theorem qscan_pos : ∀ (l : List UInt8) (e : Bool) (k : Nat), qscan e l = some k → 1 ≤ k ∧ k ≤ l.length
  | [], e, k, h => by simp [qscan] at h
  | c :: l, e, k, h => by
    unfold qscan at h
    split at h
    · cases h
    · split at h
      · obtain ⟨j, hj, rfl⟩ := Option.map_eq_some_iff.1 h
        have := qscan_pos l _ j hj
        simp; omega
      · split at h
        · obtain ⟨j, hj, rfl⟩ := Option.map_eq_some_iff.1 h
          have := qscan_pos l _ j hj
          simp; omega
        · split at h
          · cases h; simp
          · obtain ⟨j, hj, rfl⟩ := Option.map_eq_some_iff.1 h
            have := qscan_pos l _ j hj
            simp; omega

theorem ru_eq : ∀ (l : List UInt8) (e : Bool), ru e l = (qscan e l).map (fun k => (psay e (l.take (k - 1)), k))
  | [], e => by cases e <;> rfl
  | c :: l, true => by
    unfold ru qscan
    cases hf : fieldB c with
    | false => simp
    | true =>
      simp only [if_true, Bool.true_eq_false, if_false]
      rw [ru_eq l false]
      cases hq : qscan false l with
      | none => rfl
      | some k =>
        have hk := qscan_pos l false k hq
        simp only [Option.map_some, Option.some.injEq, Prod.mk.injEq, and_true]
        rw [show k + 1 - 1 = (k - 1) + 1 by omega, List.take_succ_cons, psay]
        simp
  | c :: l, false => by
    unfold ru qscan
    by_cases h34 : c = 34
    · subst h34
      simp [field34, psay]
    · rw [if_neg h34]
      by_cases h92 : c = 92
      · subst h92
        simp only [field92, if_true, Bool.true_eq_false, if_false, Bool.false_eq_true]
        rw [ru_eq l true]
        cases hq : qscan true l with
        | none => rfl
        | some k =>
          have hk := qscan_pos l true k hq
          simp only [Option.map_some, Option.some.injEq, Prod.mk.injEq, and_true]
          rw [show k + 1 - 1 = (k - 1) + 1 by omega, List.take_succ_cons, psay]
          simp
      · rw [if_neg h92]
        cases hf : fieldB c with
        | false => simp
        | true =>
          simp only [if_true, Bool.true_eq_false, if_false, Bool.false_eq_true, if_neg h92, if_neg h34]
          rw [ru_eq l false]
          cases hq : qscan false l with
          | none => rfl
          | some k =>
            have hk := qscan_pos l false k hq
            simp only [Option.map_some, Option.some.injEq, Prod.mk.injEq, and_true]
            rw [show k + 1 - 1 = (k - 1) + 1 by omega, List.take_succ_cons, psay]
            simp [h92]

/-- What Unquote answers. -/
def unqR (l : List UInt8) : List UInt8 × Int × Int :=
  if qlen l = 0 then ([], 0, 13) else (psay false ((l.drop 1).take (qlen l - 2)), (qlen l : Int), 0)

theorem qlen_bd (l : List UInt8) : qlen l ≤ l.length ∧ (qlen l ≠ 0 → 2 ≤ qlen l) := by
  cases l with
  | nil => simp [qlen]
  | cons c l =>
    by_cases hc : c = 34
    · cases hq : qscan false l with
      | none => simp [qlen, plusOne, hc, hq]
      | some k =>
        have := qscan_pos l false k hq
        have e : qlen (c :: l) = k + 1 := by simp [qlen, plusOne, hc, hq]
        rw [e]
        simp
        omega
    · simp [qlen, hc]
theorem psay_le : ∀ (l : List UInt8) (e : Bool), (psay e l).length ≤ l.length
  | [], e => by simp [psay]
  | c :: l, e => by
    unfold psay
    split
    · have := psay_le l true
      simp; omega
    · have := psay_le l false
      simp; omega

/-- By the document's way. -/
theorem unqR_none (l : List UInt8) (h : ru false l = none) : unqR (34 :: l) = ([], 0, 13) := by
  rw [ru_eq] at h
  cases hq : qscan false l with
  | none => simp [unqR, qlen, plusOne, hq]
  | some k => rw [hq] at h; cases h
theorem unqR_some (l : List UInt8) (x : List UInt8 × Nat) (h : ru false l = some x) : unqR (34 :: l) = (x.1, (x.2 : Int) + 1, 0) := by
  rw [ru_eq] at h
  cases hq : qscan false l with
  | none => rw [hq] at h; cases h
  | some k =>
    rw [hq] at h
    simp only [Option.map_some, Option.some.injEq] at h
    have e : qlen (34 :: l) = k + 1 := by simp [qlen, plusOne, hq]
    unfold unqR
    rw [e, if_neg (by omega), ← h]
    simp

/-- What was quoted is read back, whatever stands behind. -/
theorem ru_body : ∀ (l : List UInt8) (r : List UInt8), isFld l = true → ru false (qBody l ++ 34 :: r) = some (l, (qBody l).length + 1)
  | [], r, _ => by simp [qBody, ru]
  | c :: l, r, h => by
    have hc : fieldB c = true ∧ isFld l = true := by simpa [isFld] using h
    have ih := ru_body l r hc.2
    have e : qBody (c :: l) = qByte c ++ qBody l := by unfold qBody; rw [List.flatMap_cons]
    rw [e, List.append_assoc]
    unfold qByte
    by_cases hq : c = 34 ∨ c = 92
    · rw [if_pos hq]
      show ru false (92 :: c :: (qBody l ++ 34 :: r)) = _
      rw [ru, if_neg (by decide), if_pos rfl, ru, if_pos hc.1, ih]
      simp
    · rw [if_neg hq]
      show ru false (c :: (qBody l ++ 34 :: r)) = _
      rw [ru, if_neg (fun h => hq (.inl h)), if_neg (fun h => hq (.inr h)), if_pos hc.1, ih]
      simp
theorem unqR_back (l r : List UInt8) (h : isFld l = true) : unqR (qText l ++ r) = (l, ((qText l).length : Int), 0) := by
  have e : qText l ++ r = 34 :: (qBody l ++ 34 :: r) := by unfold qText; simp
  rw [e, unqR_some _ _ (ru_body l r h)]
  unfold qText
  simp

end Oc
end Go.Proofs.YticncpjpkgdnlaaGreatDoor
