/-
  Plain: the document's way of deciding is the program's; If-Range, both ways.
-/
import Derived.Test.YtjngpafokkjkdaaGreatDoorTAp
set_option linter.unusedVariables false
set_option linter.unusedSimpArgs false
set_option maxRecDepth 100000
namespace Go.Proofs.YtjngpafokkjkdaaGreatDoor
namespace Tt
open Oc

def lkX (strong : Bool) (t u : Tg1) : Bool := strong && lkS t u || !strong && lkA t u
def metV (strong : Bool) (v : List UInt8) (s : St) : Bool := if (listT v).2.1 then s.th else (listT v).1.any fun t => s.th && (s.tg && lkX strong t s.own)
def rdateV (n : List UInt8) (fs : List Fd.Fl) (now : Int) : Int × Bool :=
  if (Fd.vals n fs).length = 1 then ((Bs.parseS ((Fd.vals n fs).getD 0 []) now).1, (Bs.parseS ((Fd.vals n fs).getD 0 []) now).2.2.1 == 0) else (0, false)
/-- What the document decides of the second pair of fields. -/
def rendV (m : List UInt8) (fs : List Fd.Fl) (s : St) (now : Int) : Int :=
  if 0 < (Fd.vals sNone fs).length then (if metV false (joinF (Fd.vals sNone fs)) s = true then (if readsM m = true then 304 else 412) else 0)
  else if (readsM m && ((rdateV sMod fs now).2 && (s.th && (s.td && decide (s.tm ≤ (rdateV sMod fs now).1))))) = true then 304 else 0
def rdecV (m : List UInt8) (fs : List Fd.Fl) (s : St) (now : Int) : Int :=
  if 0 < (Fd.vals sMatch fs).length then (if metV true (joinF (Fd.vals sMatch fs)) s = false then 412 else rendV m fs s now)
  else if ((rdateV sUnmod fs now).2 && (s.th && (s.td && decide ((rdateV sUnmod fs now).1 < s.tm)))) = true then 412 else rendV m fs s now

theorem any_and (a : Bool) (l : List Tg1) (f : Tg1 → Bool) : (l.any fun t => a && f t) = (a && l.any f) := by
  induction l with
  | nil => simp
  | cons x t ih => simp only [List.any_cons, ih]; cases a <;> simp
theorem lkX_t : lkX true = lkS := by funext t u; simp [lkX]
theorem lkX_f : lkX false = lkA := by funext t u; simp [lkX]
theorem star_nil (v : List UInt8) (h : (listT v).2.1 = true) : True := trivial
theorem met_S (v : List UInt8) (s : St) : metV true v s = meetsV lkS v s := by
  unfold metV meetsV
  rw [lkX_t, any_and, any_and]
  cases (listT v).2.1 <;> cases s.th <;> cases s.tg <;> simp
theorem met_A (v : List UInt8) (s : St) : metV false v s = meetsV lkA v s := by
  unfold metV meetsV
  rw [lkX_f, any_and, any_and]
  cases (listT v).2.1 <;> cases s.th <;> cases s.tg <;> simp
theorem date_r (n : List UInt8) (fs : List Fd.Fl) (s : St) (now : Int) : dateV n fs s now = if s.th = true ∧ s.td = true then rdateV n fs now else (0, false) := by
  unfold dateV rdateV
  by_cases h1 : (Fd.vals n fs).length = 1
  · by_cases h2 : s.th = true ∧ s.td = true
    · rw [if_pos ⟨h1, h2⟩, if_pos h2, if_pos h1]
    · rw [if_neg (fun h => h2 h.2), if_neg h2]
  · rw [if_neg (fun h => h1 h.1)]
    rw [if_neg h1]
    split <;> rfl
theorem has_len (n : List UInt8) (fs : List Fd.Fl) : hasF n fs = decide (0 < (Fd.vals n fs).length) := by
  rw [has_vals]
  cases Fd.vals n fs with
  | nil => rfl
  | cons a t => simp
theorem meets_nil (lk : Tg1 → Tg1 → Bool) (n : List UInt8) (fs : List Fd.Fl) (s : St) (h : ¬ 0 < (Fd.vals n fs).length) : meetsF lk n fs s = false := by
  have hv : Fd.vals n fs = [] := List.length_eq_zero_iff.1 (by omega)
  have e1 : (listT []).1 = [] := by decide +kernel
  have e2 : (listT []).2.1 = false := by decide +kernel
  have j : joinF [] = [] := by decide +kernel
  unfold meetsF meetsV
  rw [hv, j, e1, e2]
  simp
theorem rend_eq (m : List UInt8) (fs : List Fd.Fl) (s : St) (now : Int) : rendV m fs s now = if noneV m fs s ≠ 0 then noneV m fs s else modV m fs s now := by
  unfold rendV noneV modV
  rw [met_A, has_len, date_r]
  unfold meetsF
  by_cases h : 0 < (Fd.vals sNone fs).length
  · rw [if_pos h]
    cases hm : meetsV lkA (joinF (Fd.vals sNone fs)) s with
    | true => cases readsM m <;> simp
    | false => simp [h]
  · rw [if_neg h]
    have := meets_nil lkA sNone fs s h
    unfold meetsF at this
    rw [this]
    simp only [h, decide_false]
    cases readsM m <;> cases s.th <;> cases s.td <;> simp
theorem rdec_eq (m : List UInt8) (fs : List Fd.Fl) (s : St) (now : Int) : rdecV m fs s now = decideV m fs s now := by
  unfold rdecV decideV decideG
  rw [rend_eq]
  unfold matchV unmodV
  rw [met_S, has_len, date_r]
  unfold meetsF
  by_cases h : 0 < (Fd.vals sMatch fs).length
  · rw [if_pos h]
    simp only [h, decide_true]
    cases meetsV lkS (joinF (Fd.vals sMatch fs)) s <;> simp
  · rw [if_neg h]
    simp only [h, decide_false]
    by_cases hx : ((rdateV sUnmod fs now).2 && (s.th && (s.td && decide ((rdateV sUnmod fs now).1 < s.tm)))) = true
    · rw [if_pos hx]
      cases h1 : s.th <;> cases h2 : s.td <;> rw [h1, h2] at hx <;> simp at hx ⊢
      rw [if_pos hx, if_pos hx]
    · rw [if_neg hx]
      cases h1 : s.th <;> cases h2 : s.td <;> rw [h1, h2] at hx <;> simp at hx ⊢
      have hn : ¬ ((rdateV sUnmod fs now).2 = true ∧ (rdateV sUnmod fs now).1 < s.tm) := fun h => by have := hx h.1; omega
      simp [hn]
      exact fun a b => absurd (And.intro a b) hn

/-- If-Range. -/
def rngV (fs : List Fd.Fl) (s : St) (now : Int) : Bool :=
  if (Fd.vals sRange fs).length = 0 then true
  else if 1 < (Fd.vals sRange fs).length ∨ s.th = false then false
  else if (parseT (trim ((Fd.vals sRange fs).getD 0 []))).2.2 = 0 then (s.tg && lkS (parseT (trim ((Fd.vals sRange fs).getD 0 []))).1 s.own)
  else ((dateV sRange fs s now).2 && decide (s.tm = (dateV sRange fs s now).1))

end Tt
end Go.Proofs.YtjngpafokkjkdaaGreatDoor
