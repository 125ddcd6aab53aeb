/-
  Plain mathematics for package base: which byte may stand where; how a text goes wrong.
-/
import Derived.Test.YtgdecgagdacipaaGreatDoorMgA
set_option linter.unusedVariables false
set_option linter.unusedSimpArgs false
namespace Go.Proofs.YtgdecgagdacipaaGreatDoor
namespace Bs

/-- Whether the byte at i may stand behind those ahead of it. -/
def fitB (l : List UInt8) (i : Nat) : Bool :=
  if 0 < i ∧ l.getD (i - 1) 0 = 61 then decide (l.getD i 0 = 61) && decide (i % 4 = 3)
  else if l.getD i 0 ≠ 61 then decide (0 ≤ num (l.getD i 0))
  else if i % 4 = 2 then decide (num (l.getD (i - 1) 0) % 16 = 0)
  else if i % 4 = 3 then decide (num (l.getD (i - 1) 0) % 4 = 0)
  else false
theorem num61 : num 61 = -1 := by decide
theorem num65 : num 65 = 0 := by decide
theorem fit0 (a : UInt8) (r : List UInt8) : fitB (a :: r) 0 = decide (0 ≤ num a) := by
  unfold fitB
  by_cases h : a = 61
  · simp [h, num61]
  · simp [h]
theorem fit1 (a b : UInt8) (r : List UInt8) : fitB (a :: b :: r) 1 = (decide (a ≠ 61) && decide (0 ≤ num b)) := by
  unfold fitB
  by_cases ha : a = 61
  · simp [ha]
  · by_cases hb : b = 61
    · simp [ha, hb, num61]
    · simp [ha, hb]
theorem fit2 (a b c : UInt8) (r : List UInt8) : fitB (a :: b :: c :: r) 2 = (decide (b ≠ 61) && (if c = 61 then decide (num b % 16 = 0) else decide (0 ≤ num c))) := by
  unfold fitB
  by_cases hb : b = 61
  · simp [hb]
  · by_cases hc : c = 61
    · simp [hb, hc]
    · simp [hb, hc]
theorem fit3 (a b c d : UInt8) (r : List UInt8) : fitB (a :: b :: c :: d :: r) 3 = (if c = 61 then decide (d = 61) else if d = 61 then decide (num c % 4 = 0) else decide (0 ≤ num d)) := by
  unfold fitB
  by_cases hc : c = 61
  · simp [hc]
  · by_cases hd : d = 61
    · simp [hc, hd]
    · simp [hc, hd]
theorem fit4 (a b c d : UInt8) (r : List UInt8) (i : Nat) (h : 0 < i ∨ d ≠ 61) : fitB (a :: b :: c :: d :: r) (i + 4) = fitB r i := by
  unfold fitB
  cases i with
  | zero =>
    rcases h with h | h
    · omega
    · simp [h]
  | succ i =>
    rw [show i + 1 + 4 - 1 = i + 4 by omega, show (i + 1 + 4) % 4 = (i + 1) % 4 by omega, show i + 1 - 1 = i by omega]
    simp
theorem fit4_no (a b c d : UInt8) (r : List UInt8) (h : d = 61) : fitB (a :: b :: c :: d :: r) 4 = false := by
  unfold fitB
  simp [h]

/-- The bytes of a group of four signs that fit. -/
def g4 (a b c d : UInt8) : List UInt8 := if c = 61 then [y0 a b] else if d = 61 then [y0 a b, y1 b c] else [y0 a b, y1 b c, y2 c d]
def grps : List UInt8 → List UInt8
  | a :: b :: c :: d :: r => g4 a b c d ++ grps r
  | _ => []

theorem dec_bad : ∀ (l : List UInt8) (j : Nat), j < 4 → j < l.length → (∀ k, k < j → fitB l k = true) → fitB l j = false → dec l = .error j
  | [], j, _, hl, _, _ => by simp at hl
  | [a], j, hj, hl, h, hb => by
    obtain rfl : j = 0 := by simp at hl; omega
    rw [fit0] at hb
    unfold dec
    rw [if_pos (by simpa using hb)]
  | [a, b], j, hj, hl, h, hb => by
    unfold dec
    rcases (show j = 0 ∨ j = 1 by simp at hl; omega) with rfl | rfl
    · rw [fit0] at hb
      rw [if_pos (by simpa using hb)]
    · have h0 := h 0 (by omega)
      rw [fit0, decide_eq_true_eq] at h0
      have := num_ne h0
      rw [fit1] at hb
      rw [if_neg (by omega), if_pos (by simpa [this] using hb)]
  | [a, b, c], j, hj, hl, h, hb => by
    unfold dec
    rcases (show j = 0 ∨ j = 1 ∨ j = 2 by simp at hl; omega) with rfl | rfl | rfl
    · rw [fit0] at hb
      rw [if_pos (by simpa using hb)]
    · have h0 := h 0 (by omega)
      rw [fit0, decide_eq_true_eq] at h0
      have := num_ne h0
      rw [fit1] at hb
      rw [if_neg (by omega), if_pos (by simpa [this] using hb)]
    · have h0 := h 0 (by omega)
      rw [fit0, decide_eq_true_eq] at h0
      have h1 := h 1 (by omega)
      rw [fit1, Bool.and_eq_true, decide_eq_true_eq, decide_eq_true_eq] at h1
      have := num_ne h1.2
      rw [fit2] at hb
      rw [if_neg (by omega), if_neg (by omega)]
      by_cases hc : c = 61
      · rw [if_pos hc, if_neg (by simpa [this, hc] using hb)]
      · rw [if_neg hc, if_pos (by simpa [this, hc] using hb)]
  | a :: b :: c :: d :: r, j, hj, hl, h, hb => by
    unfold dec
    rcases (show j = 0 ∨ j = 1 ∨ j = 2 ∨ j = 3 by omega) with rfl | rfl | rfl | rfl
    · rw [fit0] at hb
      rw [if_pos (by simpa using hb)]
    · have h0 := h 0 (by omega)
      rw [fit0, decide_eq_true_eq] at h0
      have := num_ne h0
      rw [fit1] at hb
      rw [if_neg (by omega), if_pos (by simpa [this] using hb)]
    · have h0 := h 0 (by omega)
      rw [fit0, decide_eq_true_eq] at h0
      have h1 := h 1 (by omega)
      rw [fit1, Bool.and_eq_true, decide_eq_true_eq, decide_eq_true_eq] at h1
      have := num_ne h1.2
      rw [fit2] at hb
      rw [if_neg (by omega), if_neg (by omega)]
      by_cases hc : c = 61
      · rw [if_pos hc, if_neg (by simpa [this, hc] using hb)]
      · rw [if_neg hc, if_pos (by simpa [this, hc] using hb)]
    · have h0 := h 0 (by omega)
      rw [fit0, decide_eq_true_eq] at h0
      have h1 := h 1 (by omega)
      rw [fit1, Bool.and_eq_true, decide_eq_true_eq, decide_eq_true_eq] at h1
      have := num_ne h1.2
      have h2 := h 2 (by omega)
      rw [fit2] at h2
      rw [fit3] at hb
      rw [if_neg (by omega), if_neg (by omega)]
      by_cases hc : c = 61
      · rw [if_pos hc] at hb
        rw [if_pos hc, if_pos (by simpa [this, hc] using h2), if_neg (by simpa using hb)]
      · rw [if_neg hc] at hb
        have h2' : 0 ≤ num c := by simpa [this, hc] using h2
        rw [if_neg hc, if_neg (by omega)]
        by_cases hd : d = 61
        · rw [if_pos hd] at hb
          rw [if_pos hd, if_neg (by simpa using hb)]
        · rw [if_neg hd] at hb
          rw [if_neg hd, if_pos (by simpa using hb)]

theorem dec_short : ∀ (l : List UInt8), l ≠ [] → l.length < 4 → (∀ k, k < l.length → fitB l k = true) → dec l = .error l.length
  | [], h, _, _ => absurd rfl h
  | [a], _, _, h => by
    have h0 := h 0 (by simp)
    rw [fit0, decide_eq_true_eq] at h0
    unfold dec
    rw [if_neg (by omega)]
    rfl
  | [a, b], _, _, h => by
    have h0 := h 0 (by simp)
    rw [fit0, decide_eq_true_eq] at h0
    have h1 := h 1 (by simp)
    rw [fit1, Bool.and_eq_true, decide_eq_true_eq, decide_eq_true_eq] at h1
    unfold dec
    rw [if_neg (by omega), if_neg (by omega)]
    rfl
  | [a, b, c], _, _, h => by
    have h0 := h 0 (by simp)
    rw [fit0, decide_eq_true_eq] at h0
    have h1 := h 1 (by simp)
    rw [fit1, Bool.and_eq_true, decide_eq_true_eq, decide_eq_true_eq] at h1
    have := num_ne h1.2
    have h2 := h 2 (by simp)
    rw [fit2] at h2
    unfold dec
    rw [if_neg (by omega), if_neg (by omega)]
    by_cases hc : c = 61
    · rw [if_pos hc, if_pos (by simpa [this, hc] using h2)]
      rfl
    · have h2' : 0 ≤ num c := by simpa [this, hc] using h2
      rw [if_neg hc, if_neg (by omega)]
      rfl
  | a :: b :: c :: d :: r, _, hl, _ => by simp at hl; omega

/-- What four that fit say. -/
structure Four (a b c d : UInt8) : Prop where
  na : 0 ≤ num a
  nb : 0 ≤ num b
  hc : (c = 61 ∧ d = 61 ∧ num b % 16 = 0) ∨ (0 ≤ num c ∧ d = 61 ∧ num c % 4 = 0) ∨ (0 ≤ num c ∧ 0 ≤ num d)
theorem four_of {a b c d : UInt8} {r : List UInt8} (h : ∀ k, k < 4 → fitB (a :: b :: c :: d :: r) k = true) : Four a b c d := by
  have h0 := h 0 (by omega)
  rw [fit0, decide_eq_true_eq] at h0
  have h1 := h 1 (by omega)
  rw [fit1, Bool.and_eq_true, decide_eq_true_eq, decide_eq_true_eq] at h1
  have := num_ne h1.2
  have h2 := h 2 (by omega)
  rw [fit2] at h2
  have h3 := h 3 (by omega)
  rw [fit3] at h3
  refine ⟨h0, h1.2, ?_⟩
  by_cases hc : c = 61
  · rw [if_pos hc] at h3
    exact .inl ⟨hc, by simpa using h3, by simpa [this, hc] using h2⟩
  · have h2' : 0 ≤ num c := by simpa [this, hc] using h2
    rw [if_neg hc] at h3
    by_cases hd : d = 61
    · rw [if_pos hd] at h3
      exact .inr (.inl ⟨h2', hd, by simpa using h3⟩)
    · rw [if_neg hd] at h3
      exact .inr (.inr ⟨h2', by simpa using h3⟩)

theorem dec_end {a b c d : UInt8} (r : List UInt8) (h : Four a b c d) (hd : d = 61) : dec (a :: b :: c :: d :: r) = if r = [] then .ok (g4 a b c d) else .error 4 := by
  have na := h.na
  have nb := h.nb
  unfold dec g4
  rw [if_neg (by omega), if_neg (by omega)]
  rcases h.hc with ⟨hc, hd', hm⟩ | ⟨hc, hd', hm⟩ | ⟨hc, hd'⟩
  · rw [if_pos hc, if_pos hm, if_pos hd, if_pos hc]
  · have := num_ne hc
    rw [if_neg this, if_neg (by omega), if_pos hd, if_pos hm, if_neg this, if_pos hd]
  · exact absurd hd (num_ne hd')
theorem dec_on {a b c d : UInt8} (r : List UInt8) (h : Four a b c d) (hd : d ≠ 61) : dec (a :: b :: c :: d :: r) = match dec r with
      | .ok x => .ok (g4 a b c d ++ x)
      | .error k => .error (k + 4) := by
  have na := h.na
  have nb := h.nb
  rcases h.hc with ⟨hc, hd', hm⟩ | ⟨hc, hd', hm⟩ | ⟨hc, hd'⟩
  · exact absurd hd' hd
  · exact absurd hd' hd
  · have := num_ne hc
    unfold g4
    conv => lhs; unfold dec
    rw [if_neg (by omega), if_neg (by omega), if_neg this, if_neg (by omega), if_neg hd, if_neg (by omega), if_neg this, if_neg hd]
    rfl

theorem fit_bad : ∀ (l : List UInt8) (i : Nat), i < l.length → (∀ k, k < i → fitB l k = true) → fitB l i = false → dec l = .error i
  | [], i, h, _, _ => by simp at h
  | [a], i, h, h1, h2 => dec_bad _ i (by simp at h; omega) h h1 h2
  | [a, b], i, h, h1, h2 => dec_bad _ i (by simp at h; omega) h h1 h2
  | [a, b, c], i, h, h1, h2 => dec_bad _ i (by simp at h; omega) h h1 h2
  | a :: b :: c :: d :: r, i, h, h1, h2 => by
    by_cases hi : i < 4
    · exact dec_bad _ i hi h h1 h2
    · have F := four_of (r := r) (fun k hk => h1 k (by omega))
      by_cases hd : d = 61
      · by_cases h4 : i = 4
        · subst h4
          rw [dec_end r F hd, if_neg]
          intro e
          subst e
          simp at h
        · have := h1 4 (by omega)
          rw [fit4_no a b c d r hd] at this
          cases this
      · obtain ⟨j, rfl⟩ : ∃ j, i = j + 4 := ⟨i - 4, by omega⟩
        rw [fit4 _ _ _ _ _ _ (.inr hd)] at h2
        rw [dec_on r F hd, fit_bad r j (by simp at h; omega) (fun k hk => by have := h1 (k + 4) (by omega); rwa [fit4 _ _ _ _ _ _ (.inr hd)] at this) h2]

theorem fit_all : ∀ (l : List UInt8), (∀ k, k < l.length → fitB l k = true) → dec l = if l.length % 4 = 0 then .ok (grps l) else .error l.length
  | [], h => rfl
  | [a], h => dec_short _ (by simp) (by simp) h
  | [a, b], h => dec_short _ (by simp) (by simp) h
  | [a, b, c], h => dec_short _ (by simp) (by simp) h
  | a :: b :: c :: d :: r, h => by
    have F := four_of (r := r) (fun k hk => h k (by simp; omega))
    by_cases hd : d = 61
    · have hr : r = [] := by
        cases r with
        | nil => rfl
        | cons e r =>
          have := h 4 (by simp)
          rw [fit4_no a b c d _ hd] at this
          cases this
      subst hr
      rw [dec_end [] F hd, if_pos rfl, if_pos (by simp)]
      unfold grps grps
      rw [List.append_nil]
    · rw [dec_on r F hd, fit_all r (fun k hk => by have := h (k + 4) (by simp; omega); rwa [fit4 _ _ _ _ _ _ (.inr hd)] at this)]
      have e : (a :: b :: c :: d :: r).length = r.length + 4 := by simp
      rw [e]
      by_cases hm : r.length % 4 = 0
      · rw [if_pos hm, if_pos (by omega)]
        conv => rhs; unfold grps
      · rw [if_neg hm, if_neg (by omega)]

/-- What Decode answers. -/
def decR (l : List UInt8) : List UInt8 × Int × Int := match dec l with
  | .ok x => (x, 0, 0)
  | .error k => ([], (k : Int), 30)
theorem decR_ok {l x : List UInt8} (h : dec l = .ok x) : decR l = (x, 0, 0) := by unfold decR; rw [h]
theorem decR_err {l : List UInt8} {k : Nat} (h : dec l = .error k) : decR l = ([], (k : Int), 30) := by unfold decR; rw [h]

theorem dec_le : ∀ (l : List UInt8) (k : Nat), dec l = .error k → k ≤ l.length
  | [], k, h => by unfold dec at h; cases h
  | [a], k, h => by unfold dec at h; injection h with h; subst h; simp; split <;> omega
  | [a, b], k, h => by unfold dec at h; injection h with h; subst h; simp; (repeat' split) <;> omega
  | [a, b, c], k, h => by unfold dec at h; injection h with h; subst h; simp; (repeat' split) <;> omega
  | a :: b :: c :: d :: r, k, h => by
    unfold dec at h
    simp only [List.length_cons]
    by_cases h1 : num a < 0
    · rw [if_pos h1] at h; cases h; omega
    rw [if_neg h1] at h
    by_cases h2 : num b < 0
    · rw [if_pos h2] at h; cases h; omega
    rw [if_neg h2] at h
    by_cases h3 : c = 61
    · rw [if_pos h3] at h
      (repeat' split at h) <;> first | (cases h; omega) | cases h
    rw [if_neg h3] at h
    by_cases h4 : num c < 0
    · rw [if_pos h4] at h; cases h; omega
    rw [if_neg h4] at h
    by_cases h5 : d = 61
    · rw [if_pos h5] at h
      (repeat' split at h) <;> first | (cases h; omega) | cases h
    rw [if_neg h5] at h
    by_cases h6 : num d < 0
    · rw [if_pos h6] at h; cases h; omega
    rw [if_neg h6] at h
    cases hx : dec r with
    | ok x => rw [hx] at h; cases h
    | error k' =>
      rw [hx] at h
      have := dec_le r k' hx
      cases h
      omega

/-- The first fault, told by fits. -/
theorem dec_err_fit (l : List UInt8) (k : Nat) (h : dec l = .error k) : (∀ j, j < k → fitB l j = true) ∧ (k < l.length → fitB l k = false) := by
  have key : ∀ n, n ≤ l.length → (∀ j, j < n → fitB l j = true) ∨ ∃ i, i < n ∧ (∀ j, j < i → fitB l j = true) ∧ fitB l i = false := by
    intro n
    induction n with
    | zero => exact fun _ => .inl (fun j hj => by omega)
    | succ n ih =>
      intro hn
      rcases ih (by omega) with h' | ⟨i, hi, h'⟩
      · cases hf : fitB l n with
        | true => exact .inl (fun j hj => by
            by_cases e : j = n
            · subst e; exact hf
            · exact h' j (by omega))
        | false => exact .inr ⟨n, by omega, h', hf⟩
      · exact .inr ⟨i, by omega, h'⟩
  rcases key l.length (Nat.le_refl _) with h' | ⟨i, hi, h1, h2⟩
  · have := fit_all l h'
    rw [h] at this
    split at this
    · cases this
    · injection this with e
      subst e
      exact ⟨h', fun e => by omega⟩
  · have := fit_bad l i hi h1 h2
    rw [h] at this
    injection this with e
    subst e
    exact ⟨h1, fun _ => h2⟩

theorem fit_take (l e : List UInt8) (n j : Nat) (hj : j < n) (hn : n ≤ l.length) : fitB (l.take n ++ e) j = fitB l j := by
  have g : ∀ i, i < n → (l.take n ++ e).getD i 0 = l.getD i 0 := by
    intro i hi
    rw [List.getD_eq_getElem?_getD, List.getD_eq_getElem?_getD, List.getElem?_append_left (by rw [List.length_take]; omega), List.getElem?_take, if_pos hi]
  unfold fitB
  rw [g j hj, g (j - 1) (by omega)]

/-- Beyond the place it can't be gone on with. -/
theorem begins_bad (l : List UInt8) (k : Nat) (h : dec l = .error k) (hk : k < l.length) (e x : List UInt8) : dec (l.take (k + 1) ++ e) ≠ .ok x := by
  obtain ⟨h1, h2⟩ := dec_err_fit l k h
  have := fit_bad (l.take (k + 1) ++ e) k (by rw [List.length_append, List.length_take]; omega) (fun j hj => by rw [fit_take l e (k + 1) j (by omega) (by omega)]; exact h1 j hj) (by rw [fit_take l e (k + 1) k (by omega) (by omega)]; exact h2 hk)
  rw [this]
  intro e
  cases e

theorem dec_ok_fit (l x : List UInt8) (h : dec l = .ok x) : (∀ j, j < l.length → fitB l j = true) ∧ l.length % 4 = 0 := by
  have key : ∀ n, n ≤ l.length → ∀ j, j < n → fitB l j = true := by
    intro n
    induction n with
    | zero => exact fun _ j hj => by omega
    | succ n ih =>
      intro hn j hj
      have ih' := ih (by omega)
      cases hf : fitB l n with
      | true =>
        by_cases e : j = n
        · subst e; exact hf
        · exact ih' j (by omega)
      | false =>
        have := fit_bad l n (by omega) ih' hf
        rw [h] at this
        cases this
  refine ⟨key l.length (Nat.le_refl _), ?_⟩
  have := fit_all l (key l.length (Nat.le_refl _))
  rw [h] at this
  split at this
  · assumption
  · cases this

def ends : List (List UInt8) := [[], [61], [61, 61], [65], [65, 61], [65, 61, 61], [65, 65], [65, 65, 61], [65, 65, 61, 61], [65, 65, 65], [65, 65, 65, 65]]
def okE : Except Nat (List UInt8) → Bool
  | .ok _ => true
  | .error _ => false
/-- A beginning all of whose bytes fit can be gone on with. -/
theorem begins_good : ∀ (l : List UInt8), (∀ j, j < l.length → fitB l j = true) → ∃ e, e ∈ ends ∧ okE (dec (l ++ e)) = true
  | [], _ => ⟨[], by decide, rfl⟩
  | [a], h => by
    have h0 := h 0 (by simp)
    rw [fit0, decide_eq_true_eq] at h0
    refine ⟨[65, 61, 61], by decide, ?_⟩
    show okE (dec [a, 65, 61, 61]) = true
    unfold dec
    rw [if_neg (by omega), if_neg (by rw [num65]; omega), if_pos rfl, if_pos (by rw [num65]; rfl), if_pos rfl, if_pos rfl]
    rfl
  | [a, b], h => by
    have h0 := h 0 (by simp)
    rw [fit0, decide_eq_true_eq] at h0
    have h1 := h 1 (by simp)
    rw [fit1, Bool.and_eq_true, decide_eq_true_eq, decide_eq_true_eq] at h1
    refine ⟨[65, 65], by decide, ?_⟩
    show okE (dec [a, b, 65, 65]) = true
    unfold dec
    rw [if_neg (by omega), if_neg (by omega), if_neg (by decide), if_neg (by rw [num65]; omega), if_neg (by decide), if_neg (by rw [num65]; omega)]
    rfl
  | [a, b, c], h => by
    have h0 := h 0 (by simp)
    rw [fit0, decide_eq_true_eq] at h0
    have h1 := h 1 (by simp)
    rw [fit1, Bool.and_eq_true, decide_eq_true_eq, decide_eq_true_eq] at h1
    have := num_ne h1.2
    have h2 := h 2 (by simp)
    rw [fit2] at h2
    by_cases hc : c = 61
    · refine ⟨[61], by decide, ?_⟩
      show okE (dec [a, b, c, 61]) = true
      unfold dec
      rw [if_neg (by omega), if_neg (by omega), if_pos hc, if_pos (by simpa [this, hc] using h2), if_pos rfl, if_pos rfl]
      rfl
    · have h2' : 0 ≤ num c := by simpa [this, hc] using h2
      refine ⟨[65], by decide, ?_⟩
      show okE (dec [a, b, c, 65]) = true
      unfold dec
      rw [if_neg (by omega), if_neg (by omega), if_neg hc, if_neg (by omega), if_neg (by decide), if_neg (by rw [num65]; omega)]
      rfl
  | a :: b :: c :: d :: r, h => by
    have F := four_of (r := r) (fun k hk => h k (by simp; omega))
    by_cases hd : d = 61
    · have hr : r = [] := by
        cases r with
        | nil => rfl
        | cons e r =>
          have := h 4 (by simp)
          rw [fit4_no a b c d _ hd] at this
          cases this
      subst hr
      refine ⟨[], by decide, ?_⟩
      rw [List.append_nil, dec_end [] F hd, if_pos rfl]
      rfl
    · obtain ⟨e, he, ho⟩ := begins_good r (fun k hk => by have := h (k + 4) (by simp; omega); rwa [fit4 _ _ _ _ _ _ (.inr hd)] at this)
      refine ⟨e, he, ?_⟩
      show okE (dec (a :: b :: c :: d :: (r ++ e))) = true
      rw [dec_on (r ++ e) F hd]
      cases hx : dec (r ++ e) with
      | ok x => rfl
      | error k => rw [hx] at ho; cases ho
theorem begins_some (l : List UInt8) (k : Nat) (h : dec l = .error k) : (ends.any fun e => okE (dec (l.take k ++ e))) = true := by
  have hk := dec_le l k h
  obtain ⟨h1, _⟩ := dec_err_fit l k h
  obtain ⟨e, he, ho⟩ := begins_good (l.take k) (fun j hj => by
    have hj' : j < k := by rw [List.length_take] at hj; omega
    have := fit_take l [] k j hj' hk
    rw [List.append_nil] at this
    rw [this]
    exact h1 j hj')
  rw [List.any_eq_true]
  exact ⟨e, he, ho⟩

end Bs
end Go.Proofs.YtgdecgagdacipaaGreatDoor
