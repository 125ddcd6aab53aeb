/-
  Merged spans, plainly.
-/
import Derived.Test.YtbgbidjngjdceaaDoorSnA
set_option linter.unusedVariables false
set_option linter.unusedSimpArgs false
namespace Go.Proofs.YtbgbidjngjdceaaDoor
open Go.RowKit
namespace Sn

/-- Whether a byte is in one of the spans. -/
def inN (t : List Sp) (p : Int) : Bool := t.any fun x => decide (x.1 ≤ p ∧ p < x.2)
/-- Spans that rise and don't touch. -/
def Norm : List Sp → Prop
  | [] => True
  | x :: t => x.1 < x.2 ∧ (∀ y ∈ t, x.2 < y.1) ∧ Norm t
theorem inN_cons (x : Sp) (t : List Sp) (p : Int) : inN (x :: t) p = (decide (x.1 ≤ p ∧ p < x.2) || inN t p) := rfl
theorem inN_app (s t : List Sp) (p : Int) : inN (s ++ t) p = (inN s p || inN t p) := by unfold inN; rw [List.any_append]
theorem inN_t {t : List Sp} {p : Int} : inN t p = true ↔ ∃ x ∈ t, x.1 ≤ p ∧ p < x.2 := by unfold inN; rw [List.any_eq_true]; simp
theorem Norm.pos : ∀ {t : List Sp}, Norm t → ∀ x ∈ t, x.1 < x.2
  | [], _, x, h => by simp at h
  | y :: t, h, x, hx => by
    rcases List.mem_cons.1 hx with rfl | hx
    · exact h.1
    · exact Norm.pos h.2.2 x hx
theorem Norm.app : ∀ {s t : List Sp}, Norm s → Norm t → (∀ x ∈ s, ∀ y ∈ t, x.2 < y.1) → Norm (s ++ t)
  | [], t, _, h, _ => h
  | x :: s, t, h1, h2, h => by
    refine ⟨h1.1, fun y hy => ?_, Norm.app h1.2.2 h2 (fun a ha => h a (List.mem_cons_of_mem _ ha))⟩
    rcases List.mem_append.1 hy with hy | hy
    · exact h1.2.1 y hy
    · exact h x List.mem_cons_self y hy
theorem Norm.left : ∀ {s t : List Sp}, Norm (s ++ t) → Norm s
  | [], _, _ => trivial
  | x :: s, t, h => ⟨h.1, fun y hy => h.2.1 y (List.mem_append_left _ hy), Norm.left h.2.2⟩
theorem Norm.cross : ∀ {s t : List Sp}, Norm (s ++ t) → ∀ x ∈ s, ∀ y ∈ t, x.2 < y.1
  | [], _, _, x, hx, _, _ => by simp at hx
  | x :: s, t, h, a, ha, y, hy => by
    rcases List.mem_cons.1 ha with rfl | ha
    · exact h.2.1 y (List.mem_append_right _ hy)
    · exact Norm.cross h.2.2 a ha y hy

/-- One more span, by rising beginnings: put to the last one, or behind it. -/
def stepM (acc : List Sp) (x : Sp) : List Sp := match acc.getLast? with
  | none => acc ++ [x]
  | some y => if x.1 ≤ y.2 then acc.dropLast ++ [(y.1, max y.2 x.2)] else acc ++ [x]
theorem stepM_push {acc : List Sp} {x : Sp} (h : ∀ y, acc.getLast? = some y → y.2 < x.1) : stepM acc x = acc ++ [x] := by
  unfold stepM
  split
  · rfl
  · rename_i y hy
    rw [if_neg (by have := h y hy; omega)]
theorem stepM_join {acc : List Sp} {x y : Sp} (hy : acc.getLast? = some y) (h : x.1 ≤ y.2) : stepM acc x = acc.dropLast ++ [(y.1, max y.2 x.2)] := by
  unfold stepM
  rw [hy]
  dsimp only
  rw [if_pos h]
/-- What the spans merged so far are, against those that were taken. -/
structure MInv (p acc : List Sp) (m : Int) : Prop where
  norm : Norm acc
  same : ∀ q, inN acc q = inN p q
  low : ∀ y ∈ acc, y.1 ≤ m
theorem MInv.mono {p acc : List Sp} {m m' : Int} (h : MInv p acc m) (hm : m ≤ m') : MInv p acc m' := ⟨h.norm, h.same, fun y hy => Int.le_trans (h.low y hy) hm⟩
theorem MInv.start (m : Int) : MInv [] [] m := ⟨trivial, fun _ => rfl, fun y hy => by simp at hy⟩
theorem last_split {acc : List Sp} {y : Sp} (h : acc.getLast? = some y) : acc = acc.dropLast ++ [y] := by
  rw [List.getLast?_eq_some_iff] at h
  obtain ⟨ys, rfl⟩ := h
  simp
theorem MInv.step {p acc : List Sp} {x : Sp} (h : MInv p acc x.1) (hx : x.1 < x.2) : MInv (p ++ [x]) (stepM acc x) x.1 := by
  cases hl : acc.getLast? with
  | none =>
    have e : acc = [] := List.getLast?_eq_none_iff.1 hl
    subst e
    have hs : stepM [] x = [x] := rfl
    rw [hs]
    refine ⟨⟨hx, fun y hy => by simp at hy, trivial⟩, fun q => ?_, fun y hy => ?_⟩
    · rw [inN_app, ← h.same q]; rfl
    · simp at hy; subst hy; exact Int.le_refl _
  | some y =>
    have e := last_split hl
    generalize acc.dropLast = r at *
    subst e
    have hn := h.norm
    have hy1 : y.1 ≤ x.1 := h.low y (by simp)
    have hyp : y.1 < y.2 := hn.pos y (by simp)
    by_cases hc : x.1 ≤ y.2
    · have hs : stepM (r ++ [y]) x = r ++ [(y.1, max y.2 x.2)] := by
        rw [stepM_join hl hc]
        simp
      rw [hs]
      refine ⟨hn.left.app ⟨by show y.1 < max y.2 x.2; omega, fun z hz => by simp at hz, trivial⟩ (fun a ha b hb => ?_), fun q => ?_, fun z hz => ?_⟩
      · simp at hb
        subst hb
        exact hn.cross a ha y (by simp)
      · rw [inN_app, inN_app, ← h.same q, inN_app, Bool.or_assoc]
        congr 1
        simp only [inN, List.any_cons, List.any_nil, Bool.or_false]
        rw [← Bool.decide_or, decide_eq_decide]
        omega
      · rcases List.mem_append.1 hz with hz | hz
        · exact h.low z (List.mem_append_left _ hz)
        · simp at hz; subst hz; exact hy1
    · have hs : stepM (r ++ [y]) x = (r ++ [y]) ++ [x] := by
        refine stepM_push (fun z hz => ?_)
        rw [hl] at hz
        cases hz
        omega
      rw [hs]
      refine ⟨hn.app ⟨hx, fun z hz => by simp at hz, trivial⟩ (fun a ha b hb => ?_), fun q => ?_, fun z hz => ?_⟩
      · simp at hb
        subst hb
        rcases List.mem_append.1 ha with ha | ha
        · have := hn.cross a ha y (by simp)
          omega
        · simp at ha; subst ha; omega
      · rw [inN_app, h.same q, inN_app]
      · rcases List.mem_append.1 hz with hz | hz
        · exact h.low z hz
        · simp at hz; subst hz; exact Int.le_refl _
/-- Spans that rise and don't touch are told by their bytes. -/
theorem Norm.one : ∀ {s t : List Sp}, Norm s → Norm t → (∀ p, inN s p = inN t p) → s = t
  | [], [], _, _, _ => rfl
  | [], y :: t, _, h, he => by
    have := he y.1
    have h2 : inN (y :: t) y.1 = true := inN_t.2 ⟨y, by simp, Int.le_refl _, h.1⟩
    rw [h2] at this
    cases this
  | x :: s, [], h, _, he => by
    have := he x.1
    have h2 : inN (x :: s) x.1 = true := inN_t.2 ⟨x, by simp, Int.le_refl _, h.1⟩
    rw [h2] at this
    cases this
  | x :: s, y :: t, h1, h2, he => by
    have a1 : inN (x :: s) x.1 = true := inN_t.2 ⟨x, by simp, Int.le_refl _, h1.1⟩
    have a2 : inN (y :: t) y.1 = true := inN_t.2 ⟨y, by simp, Int.le_refl _, h2.1⟩
    have low : ∀ {z : Sp} {r : List Sp}, Norm (z :: r) → ∀ p, inN (z :: r) p = true → z.1 ≤ p := fun {z r} hz p hp => by
      obtain ⟨v, hv, v1, v2⟩ := inN_t.1 hp
      rcases List.mem_cons.1 hv with rfl | hv
      · exact v1
      · have := hz.2.1 v hv
        have := hz.1
        omega
    have e1 : x.1 = y.1 := by
      have := low h2 x.1 ((he x.1).symm.trans a1)
      have := low h1 y.1 ((he y.1).trans a2)
      omega
    have gap : ∀ {z : Sp} {r : List Sp}, Norm (z :: r) → inN (z :: r) z.2 = false := fun {z r} hz => by
      rw [Bool.eq_false_iff]
      intro hp
      obtain ⟨v, hv, v1, v2⟩ := inN_t.1 hp
      rcases List.mem_cons.1 hv with rfl | hv
      · omega
      · have := hz.2.1 v hv
        omega
    have e2 : x.2 = y.2 := by
      rcases (show x.2 < y.2 ∨ x.2 = y.2 ∨ y.2 < x.2 by omega) with h | h | h
      · have g := gap h1
        rw [he] at g
        have : inN (y :: t) x.2 = true := inN_t.2 ⟨y, by simp, by have := h1.1; omega, h⟩
        rw [this] at g
        cases g
      · exact h
      · have g := gap h2
        rw [← he] at g
        have : inN (x :: s) y.2 = true := inN_t.2 ⟨x, by simp, by have := h2.1; omega, h⟩
        rw [this] at g
        cases g
    have e : x = y := Prod.ext e1 e2
    subst e
    congr 1
    refine Norm.one h1.2.2 h2.2.2 (fun p => ?_)
    have hp := he p
    rw [inN_cons, inN_cons] at hp
    by_cases hin : x.1 ≤ p ∧ p < x.2
    · have n : ∀ {r : List Sp}, (∀ y ∈ r, x.2 < y.1) → inN r p = false := fun {r} hr => by
        rw [Bool.eq_false_iff]
        intro h
        obtain ⟨v, hv, v1, v2⟩ := inN_t.1 h
        have := hr v hv
        omega
      rw [n h1.2.1, n h2.2.1]
    · rw [decide_eq_false hin] at hp
      simpa using hp

end Sn
end Go.Proofs.YtbgbidjngjdceaaDoor
