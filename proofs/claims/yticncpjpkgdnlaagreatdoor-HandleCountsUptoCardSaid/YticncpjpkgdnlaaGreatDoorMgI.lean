/- Several texts as one. -/
import Derived.Test.YticncpjpkgdnlaaGreatDoorToks
import Derived.Laws.AppendOwnNone
import Derived.Test.YticncpjpkgdnlaaGreatDoorMgD
/-
  Texts held against texts: the law's own 'same'.
-/
set_option linter.unusedVariables false
set_option linter.unusedSimpArgs false
namespace Go.Proofs.YticncpjpkgdnlaaGreatDoor
open Go.RowKit Go.Shelf
namespace Oc

/-- A slice that reads as these texts. -/
def RdS (v : Value) (t : List (List UInt8)) (w : World) : Prop :=
  ∃ a c, v = .slice a t.length c ∧ (t = [] ∨ ∃ g o, a = some ⟨g, o, none⟩ ∧ t.length ≤ c ∧ ∀ j, j < t.length → w.cell? ⟨g, o + j, none⟩ = some (.string (str (t.getD j []))))
theorem OwnS.rd {B : Nat} {v : Value} {t : List (List UInt8)} {w : World} (h : OwnS B v t w) : RdS v t w := by
  obtain ⟨a, c, rfl⟩ := h.form
  refine ⟨a, c, rfl, ?_⟩
  cases t with
  | nil => exact .inl rfl
  | cons x t =>
    right
    obtain ⟨g, e, hc, _⟩ := h.cell 0 (by simp)
    refine ⟨g, 0, e, hc, fun j hj => ?_⟩
    obtain ⟨g', e', _, hcell⟩ := h.cell j hj
    rw [e] at e'
    injection e' with e'
    injection e' with e1
    subst e1
    rw [Nat.zero_add]
    exact hcell
theorem RdS.below {v : Value} {t : List (List UInt8)} {w w' : World} (h : RdS v t w) (b : Below w.heap.size w w') : RdS v t w' := by
  obtain ⟨a, c, rfl, h⟩ := h
  refine ⟨a, c, rfl, ?_⟩
  rcases h with h | ⟨g, o, e, hc, hcell⟩
  · exact .inl h
  · refine .inr ⟨g, o, e, hc, fun j hj => ?_⟩
    have h1 := hcell j hj
    rw [b.cell (p := ⟨g, o + j, none⟩) (World.block_lt_of_cell? w _ h1)]
    exact h1

theorem drawn_again (w : World) (n m : Nat) : Hid (∃ k, w.drewN (n + m) = w.drewN k) := ⟨_, rfl⟩
theorem drawn_twice (w : World) (n m : Nat) : ∃ k, (w.drewN n).drewN m = w.drewN k := ⟨n + m, World.drewN_drewN ..⟩

end Oc
end Go.Proofs.YticncpjpkgdnlaaGreatDoor

/-
  A slice of texts appended to one of the call's own.
-/
set_option linter.unusedVariables false
set_option linter.unusedSimpArgs false
namespace Go.Proofs.YticncpjpkgdnlaaGreatDoor
open Go.RowKit Go.Shelf
namespace Oc

theorem wpList_wanted {P : Program} {ops : Array Oper} {rest : List Oper} {o : Oper} {a : Act} {w : World} {Q : Exit → Act → World → Prop} (hw : Region.wanted o (yielded ops a.tmps) = true)
    (h : o.wp P a w (wpList P ops Q rest) Q) : wpList P ops Q (o :: rest) a w := by
  rw [wpList, if_pos hw]
  exact .inl h

theorem wp_appR {ops : Array Oper} {rest : List Oper} {o : Oper} {a : Act} {W : World} {Q : Exit → Act → World → Prop} (hw : Region.wanted o (yielded ops a.tmps) = true) (s x : Operand)
    (ho : o.op = .call { callee := .builtin .append, args := #[s, x], argTypes := #[75, 75] }) (B : Nat) (v y : Value) (t u : List (List UInt8))
    (hs : a.eval s = v) (hown : OwnS B v t W) (hx : a.eval x = y) (hy : RdS y u W) (hnil : u = [] → y = .slice none 0 0 ∨ ∃ g c, y = .slice (some g) 0 c) (hlen : t.length + u.length ≤ 4294967296) (hB : B ≤ W.heap.size)
    (h : ∀ v' w', OwnS B v' (t ++ u) w' → Below B W w' → wpList Tryz.prog ops Q rest (a.put o.dst v') w') : wpList Tryz.prog ops Q (o :: rest) a W := by
  obtain ⟨i0, hi, hz0, hz1, hz2⟩ := infoS
  refine wpList_wanted hw ?_
  have own' : ∀ (ad : Addr) (c : Nat), y = .slice (some ad) u.length c → (∀ j, j < u.length → W.cell? (ad.add j) = some (.string (str (u.getD j [])))) → o.wp Tryz.prog a W (wpList Tryz.prog ops Q rest) Q := by
    intro ad c ey hcell
    refine wp_append_own W s x 75 ho B 9 i0 (.string ⟨#[]⟩) 1 16 Tryz.underlying75 hi hz0 hz1 hz2 rfl (by decide) v t.length _ hs hown ad u.length c (encS u) (hx.trans ey) (by simp [encS]) ?_ ?_ ?_ ?_ hB ?_
    · intro j z hj
      have hjl : j < u.length := by
        have := (List.getElem?_eq_some_iff.1 hj).1
        simpa [encS] using this
      rw [hcell j hjl]
      unfold encS at hj
      rw [List.getElem?_map, List.getElem?_eq_getElem hjl] at hj
      rw [List.getD_eq_getElem?_getD, List.getElem?_eq_getElem hjl]
      simpa using hj
    · intro z hz
      unfold encS at hz
      obtain ⟨l, _, rfl⟩ := List.mem_map.1 hz
      rfl
    · unfold maxLen; omega
    · omega
    · intro v' w' h1 h2 _
      refine h v' w' ?_ ((Below.refl B W).grown h2 hB (fun k hk => (World.ownsRow.lt hown k hk).1))
      unfold OwnS
      rw [List.length_append]
      simpa [encS] using h1
  obtain ⟨a2, c2, rfl, hr⟩ := hy
  by_cases hu : u = []
  · subst hu
    rcases hnil rfl with e | ⟨g, c, e⟩
    · have hrun := run_append_owned_none (P := Tryz.prog) (w := W) B 75 o.type 9 i0 1 Tryz.underlying75 hi v t.length _ hown
      have hx' : a.eval x = .slice none 0 0 := hx.trans e
      unfold Oper.wp
      simp [execOp, ho, resolve, invoke, builtin, hs, hx', hrun, Result.andThen]
      have := h v W (by simpa using hown) (Below.refl _ _)
      exact this
    · exact own' g c e (fun j hj => by simp at hj)
  · rcases hr with hr | ⟨g, o', rfl, hc, hcell⟩
    · exact absurd hr hu
    · refine own' ⟨g, o', none⟩ c2 rfl (fun j hj => ?_)
      have ea : Addr.add ⟨g, o', none⟩ j = ⟨g, o' + j, none⟩ := by unfold Addr.add; split <;> simp_all
      rw [ea]
      exact hcell j hj
theorem OwnS.nilish {B : Nat} {v : Value} {t : List (List UInt8)} {w : World} (h : OwnS B v t w) : t = [] → v = .slice none 0 0 ∨ ∃ g c, v = .slice (some g) 0 c := by
  intro e
  subst e
  rcases h.2 with ⟨rfl, _⟩ | ⟨g, cap, cur, rfl, _⟩
  · exact .inl rfl
  · exact .inr ⟨_, _, rfl⟩

theorem listR_split {a b : List UInt8} (ha : (listR a).2 = 0) (hb : (listR b).2 = 0) : listR (a ++ 44 :: b) = ((listR a).1 ++ (listR b).1, 0) := by
  unfold listR at *
  cases h1 : lst [] a with
  | none => rw [h1] at ha; cases ha
  | some t =>
    cases h2 : lst [] b with
    | none => rw [h2] at hb; cases hb
    | some u =>
      rw [lst_split a.length a [] b t (Nat.le_refl _) h1, h2]
      rfl

end Oc
end Go.Proofs.YticncpjpkgdnlaaGreatDoor

/-
  Texts with commas between.
-/
set_option linter.unusedVariables false
namespace Go.Proofs.YticncpjpkgdnlaaGreatDoor
namespace Oc

def joinF : List (List UInt8) → List UInt8
  | [] => []
  | [x] => x
  | x :: y :: r => x ++ 44 :: 32 :: joinF (y :: r)
def sumL (t : List (List UInt8)) : Nat := (t.map List.length).sum
def jp (t : List (List UInt8)) (k : Nat) : List UInt8 := joinF (t.take k)
theorem joinF_snoc : ∀ (t : List (List UInt8)) (y : List UInt8), t ≠ [] → joinF (t ++ [y]) = joinF t ++ [44, 32] ++ y
  | [], y, h => absurd rfl h
  | [x], y, _ => by show x ++ 44 :: 32 :: y = x ++ [44, 32] ++ y; simp
  | x :: z :: r, y, _ => by
    have ih := joinF_snoc (z :: r) y (by simp)
    show x ++ 44 :: 32 :: joinF (z :: (r ++ [y])) = (x ++ 44 :: 32 :: joinF (z :: r)) ++ [44, 32] ++ y
    rw [show z :: (r ++ [y]) = (z :: r) ++ [y] from rfl, ih]
    simp
theorem joinF_len : ∀ t : List (List UInt8), (joinF t).length ≤ sumL t + 2 * t.length
  | [] => by simp [joinF]
  | [x] => by simp [joinF, sumL]
  | x :: y :: r => by
    have ih := joinF_len (y :: r)
    show (x ++ 44 :: 32 :: joinF (y :: r)).length ≤ x.length + sumL (y :: r) + 2 * ((y :: r).length + 1)
    rw [List.length_append, List.length_cons, List.length_cons]
    omega
theorem take_succ (t : List (List UInt8)) (k : Nat) (h : k < t.length) : t.take (k + 1) = t.take k ++ [t.getD k []] := by
  rw [List.take_add_one, List.getElem?_eq_getElem h, List.getD_eq_getElem?_getD, List.getElem?_eq_getElem h]; rfl
theorem sumL_append (a b : List (List UInt8)) : sumL (a ++ b) = sumL a + sumL b := by simp [sumL]
theorem sumL_succ (t : List (List UInt8)) (k : Nat) (h : k < t.length) : sumL (t.take (k + 1)) = sumL (t.take k) + (t.getD k []).length := by
  rw [take_succ t k h, sumL_append]; simp [sumL]
theorem sumL_take (t : List (List UInt8)) (k : Nat) : sumL (t.take k) ≤ sumL t := by
  have := sumL_append (t.take k) (t.drop k)
  rw [List.take_append_drop] at this
  omega
theorem jp_len (t : List (List UInt8)) (k : Nat) : (jp t k).length ≤ sumL t + 2 * t.length := by
  have h1 := joinF_len (t.take k)
  have h2 := sumL_take t k
  rw [List.length_take] at h1
  show (joinF (t.take k)).length ≤ _
  omega
theorem jp_one (t : List (List UInt8)) (h : 0 < t.length) : jp t 1 = t.getD 0 [] := by
  cases t with
  | nil => simp at h
  | cons x t => rfl
theorem jp_succ (t : List (List UInt8)) (k : Nat) (h : k < t.length) (h0 : 0 < k) : jp t (k + 1) = jp t k ++ [44, 32] ++ t.getD k [] := by
  unfold jp
  rw [take_succ t k h]
  exact joinF_snoc _ _ (fun e => by
    have := congrArg List.length e
    rw [List.length_take, List.length_nil] at this
    omega)
theorem jp_all (t : List (List UInt8)) : jp t t.length = joinF t := by unfold jp; rw [List.take_length]

end Oc
end Go.Proofs.YticncpjpkgdnlaaGreatDoor
