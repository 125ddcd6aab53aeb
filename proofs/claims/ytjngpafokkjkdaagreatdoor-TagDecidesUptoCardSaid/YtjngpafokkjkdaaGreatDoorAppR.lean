/-
  A slice of texts appended to one of the call's own.
-/
import Derived.Test.YtjngpafokkjkdaaGreatDoorSameL
import Derived.Laws.AppendOwnNone
set_option linter.unusedVariables false
set_option linter.unusedSimpArgs false
namespace Go.Proofs.YtjngpafokkjkdaaGreatDoor
open Go.RowKit Go.Shelf
namespace Oc

theorem wpList_wanted {P : Program} {ops : Array Oper} {rest : List Oper} {o : Oper} {a : Act} {w : World} {Q : Exit → Act → World → Prop} (hw : Region.wanted o (yielded ops a.tmps) = true)
    (h : o.wp P a w (wpList P ops Q rest) Q) : wpList P ops Q (o :: rest) a w := by
  rw [wpList, if_pos hw]
  exact .inl h

theorem wp_appR {ops : Array Oper} {rest : List Oper} {o : Oper} {a : Act} {W : World} {Q : Exit → Act → World → Prop} (hw : Region.wanted o (yielded ops a.tmps) = true) (s x : Operand)
    (ho : o.op = .call { callee := .builtin .append, args := #[s, x], argTypes := #[58, 58] }) (B : Nat) (v y : Value) (t u : List (List UInt8))
    (hs : a.eval s = v) (hown : OwnS B v t W) (hx : a.eval x = y) (hy : RdS y u W) (hnil : u = [] → y = .slice none 0 0 ∨ ∃ g c, y = .slice (some g) 0 c) (hlen : t.length + u.length ≤ 4294967296) (hB : B ≤ W.heap.size)
    (h : ∀ v' w', OwnS B v' (t ++ u) w' → Below B W w' → wpList Tryz.prog ops Q rest (a.put o.dst v') w') : wpList Tryz.prog ops Q (o :: rest) a W := by
  obtain ⟨i0, hi, hz0, hz1, hz2⟩ := infoS
  refine wpList_wanted hw ?_
  have own' : ∀ (ad : Addr) (c : Nat), y = .slice (some ad) u.length c → (∀ j, j < u.length → W.cell? (ad.add j) = some (.string (str (u.getD j [])))) → o.wp Tryz.prog a W (wpList Tryz.prog ops Q rest) Q := by
    intro ad c ey hcell
    refine wp_append_own W s x 58 ho B 9 i0 (.string ⟨#[]⟩) 1 16 Tryz.underlying58 hi hz0 hz1 hz2 rfl (by decide) v t.length _ hs hown ad u.length c (encS u) (hx.trans ey) (by simp [encS]) ?_ ?_ ?_ ?_ hB ?_
    · intro j z hj
      have hjl : j < u.length := by
        have := (List.getElem?_eq_some_iff.1 hj).1
        simpa [encS] using this
      rw [hcell j hjl]
      unfold encS at hj
      rw [List.getElem?_map, List.getElem?_eq_getElem hjl] at hj
      rw [List.getD_eq_getElem?_getD, List.getElem?_eq_getElem hjl]
      simpa using hj
    · intro z hz
      unfold encS at hz
      obtain ⟨l, _, rfl⟩ := List.mem_map.1 hz
      rfl
    · unfold maxLen; omega
    · omega
    · intro v' w' h1 h2 _
      refine h v' w' ?_ ((Below.refl B W).grown h2 hB (fun k hk => (World.ownsRow.lt hown k hk).1))
      unfold OwnS
      rw [List.length_append]
      simpa [encS] using h1
  obtain ⟨a2, c2, rfl, hr⟩ := hy
  by_cases hu : u = []
  · subst hu
    rcases hnil rfl with e | ⟨g, c, e⟩
    · have hrun := run_append_owned_none (P := Tryz.prog) (w := W) B 58 o.type 9 i0 1 Tryz.underlying58 hi v t.length _ hown
      have hx' : a.eval x = .slice none 0 0 := hx.trans e
      unfold Oper.wp
      simp [execOp, ho, resolve, invoke, builtin, hs, hx', hrun, Result.andThen]
      have := h v W (by simpa using hown) (Below.refl _ _)
      exact this
    · exact own' g c e (fun j hj => by simp at hj)
  · rcases hr with hr | ⟨g, o', rfl, hc, hcell⟩
    · exact absurd hr hu
    · refine own' ⟨g, o', none⟩ c2 rfl (fun j hj => ?_)
      have ea : Addr.add ⟨g, o', none⟩ j = ⟨g, o' + j, none⟩ := by unfold Addr.add; split <;> simp_all
      rw [ea]
      exact hcell j hj
theorem OwnS.nilish {B : Nat} {v : Value} {t : List (List UInt8)} {w : World} (h : OwnS B v t w) : t = [] → v = .slice none 0 0 ∨ ∃ g c, v = .slice (some g) 0 c := by
  intro e
  subst e
  rcases h.2 with ⟨rfl, _⟩ | ⟨g, cap, cur, rfl, _⟩
  · exact .inl rfl
  · exact .inr ⟨_, _, rfl⟩

theorem listR_split {a b : List UInt8} (ha : (listR a).2 = 0) (hb : (listR b).2 = 0) : listR (a ++ 44 :: b) = ((listR a).1 ++ (listR b).1, 0) := by
  unfold listR at *
  cases h1 : lst [] a with
  | none => rw [h1] at ha; cases ha
  | some t =>
    cases h2 : lst [] b with
    | none => rw [h2] at hb; cases hb
    | some u =>
      rw [lst_split a.length a [] b t (Nat.le_refl _) h1, h2]
      rfl

end Oc
end Go.Proofs.YtjngpafokkjkdaaGreatDoor
