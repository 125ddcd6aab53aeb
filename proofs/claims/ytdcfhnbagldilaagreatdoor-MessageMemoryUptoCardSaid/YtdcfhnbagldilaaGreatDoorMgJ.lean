import Derived.Test.YtdcfhnbagldilaaGreatDoorMgI
import Derived.Test.YtdcfhnbagldilaaGreatDoorMgG
import Derived.Laws.AppendOwnNone
import Derived.Test.YtdcfhnbagldilaaGreatDoorMgE
set_option linter.unusedVariables false
set_option linter.unusedSimpArgs false
namespace Go.Proofs.YtdcfhnbagldilaaGreatDoor
open Go.RowKit Go.Shelf
namespace Fd
open Oc Tg
def spareF : List Fl := [([115, 112, 97, 114, 101], []), ([114, 111, 111, 109], [])]
theorem RdF.cap {a : Option Addr} {n c : Nat} {t : List Fl} {w : World} (h : RdF (.slice a n c) t w) : t.length ≤ c := by
  obtain ⟨a', c', e, h⟩ := h
  injection e with e1 e2 e3
  subst e3
  rcases h with h | ⟨g, o, _, hc, _⟩
  · rw [h]; exact Nat.zero_le _
  · exact hc
theorem RdF.some {a : Option Addr} {n c : Nat} {t : List Fl} {w : World} (h : RdF (.slice a n c) t w) (ht : t ≠ []) : ∃ g, a = .some g := by
  obtain ⟨a', c', e, h⟩ := h
  injection e with e1 e2 e3
  subst e1
  rcases h with h | ⟨g, o, e, _, _⟩
  · exact absurd h ht
  · exact ⟨_, e⟩
end Fd
end Go.Proofs.YtdcfhnbagldilaaGreatDoor
set_option linter.unusedVariables false
set_option linter.unusedSimpArgs false
namespace Go.Proofs.YtdcfhnbagldilaaGreatDoor
open Go.RowKit Go.Shelf
namespace Oc
def tokensR (l : List UInt8) : List (List UInt8) × Int := if (listR l).2 = 0 then (if (listR l).1.all isTok then ((listR l).1, 0) else ([], 10)) else ([], (listR l).2)
theorem listR_err (l : List UInt8) : (listR l).2 = 0 ∨ (listR l).1 = [] ∧ (listR l).2 = 14 := by
  unfold listR
  split
  · exact .inl rfl
  · exact .inr ⟨rfl, rfl⟩
def Short (n : Nat) (t : List (List UInt8)) : Prop := t.length ≤ n ∧ ∀ x ∈ t, x.length ≤ n
theorem short_lst : ∀ (m : Nat) (r cur : List UInt8) (t : List (List UInt8)), r.length ≤ m → lst cur r = some t → t.length ≤ r.length + 1 ∧ ∀ x ∈ t, x.length ≤ cur.length + r.length
  | m, [], cur, t, _, h => by
    rw [lst_nil] at h
    cases h
    have := addEl_len (trim cur)
    refine ⟨by simpa using this, fun x hx => ?_⟩
    unfold addEl at hx
    split at hx
    · simp at hx
    · simp at hx
      subst hx
      have := trim_le cur
      simp
      omega
  | 0, c :: r, cur, t, hm, _ => by simp at hm
  | m + 1, c :: r, cur, t, hm, h => by
    have hl : r.length ≤ m := by simpa using hm
    by_cases h44 : c = 44
    · rw [lst_comma _ _ _ h44] at h
      obtain ⟨u, hu, rfl⟩ := Option.map_eq_some_iff.1 h
      obtain ⟨i1, i2⟩ := short_lst m r [] u hl hu
      constructor
      · unfold addEl
        split <;> simp <;> omega
      · intro x hx
        unfold addEl at hx
        split at hx
        · have := i2 x hx
          simp at this ⊢
          omega
        · rcases List.mem_cons.1 hx with rfl | hx
          · have := trim_le cur
            simp
            omega
          · have := i2 x hx
            simp at this ⊢
            omega
    · by_cases h34 : c = 34
      · by_cases hq : qlen (c :: r) = 0
        · rw [lst_bad _ _ _ h34 hq] at h; cases h
        · rw [lst_quote _ _ _ h34 hq] at h
          have hb := qlen_bd (c :: r)
          obtain ⟨i1, i2⟩ := short_lst m _ _ t (by rw [List.length_drop]; simp; omega) h
          rw [List.length_drop] at i1 i2
          rw [List.length_append, List.length_take] at i2
          refine ⟨by omega, fun x hx => ?_⟩
          have := i2 x hx
          omega
      · rw [lst_on _ _ _ h44 h34] at h
        obtain ⟨i1, i2⟩ := short_lst m r _ t hl h
        rw [List.length_append] at i2
        refine ⟨by simp; omega, fun x hx => ?_⟩
        have := i2 x hx
        simp at this ⊢
        omega
theorem listR_short (l : List UInt8) : (listR l).1.length ≤ l.length + 1 ∧ ∀ x ∈ (listR l).1, x.length ≤ l.length := by
  unfold listR
  split
  · rename_i t h
    obtain ⟨a, b⟩ := short_lst l.length l [] t (Nat.le_refl _) h
    exact ⟨a, fun x hx => by have := b x hx; simpa using this⟩
  · simp
theorem getD_short {n : Nat} {t : List (List UInt8)} (h : ∀ x ∈ t, x.length ≤ n) (k : Nat) (hk : k < t.length) : (t.getD k []).length ≤ n := by
  refine h _ ?_
  rw [List.getD_eq_getElem?_getD, List.getElem?_eq_getElem hk]
  exact List.getElem_mem _
end Oc
end Go.Proofs.YtdcfhnbagldilaaGreatDoor
set_option linter.unusedVariables false
set_option linter.unusedSimpArgs false
namespace Go.Proofs.YtdcfhnbagldilaaGreatDoor
open Go.RowKit Go.Shelf
namespace Oc
def RdS (v : Value) (t : List (List UInt8)) (w : World) : Prop :=
  ∃ a c, v = .slice a t.length c ∧ (t = [] ∨ ∃ g o, a = some ⟨g, o, none⟩ ∧ t.length ≤ c ∧ ∀ j, j < t.length → w.cell? ⟨g, o + j, none⟩ = some (.string (str (t.getD j []))))
theorem OwnS.rd {B : Nat} {v : Value} {t : List (List UInt8)} {w : World} (h : OwnS B v t w) : RdS v t w := by
  obtain ⟨a, c, rfl⟩ := h.form
  refine ⟨a, c, rfl, ?_⟩
  cases t with
  | nil => exact .inl rfl
  | cons x t =>
    right
    obtain ⟨g, e, hc, _⟩ := h.cell 0 (by simp)
    refine ⟨g, 0, e, hc, fun j hj => ?_⟩
    obtain ⟨g', e', _, hcell⟩ := h.cell j hj
    rw [e] at e'
    injection e' with e'
    injection e' with e1
    subst e1
    rw [Nat.zero_add]
    exact hcell
theorem RdS.below {v : Value} {t : List (List UInt8)} {w w' : World} (h : RdS v t w) (b : Below w.heap.size w w') : RdS v t w' := by
  obtain ⟨a, c, rfl, h⟩ := h
  refine ⟨a, c, rfl, ?_⟩
  rcases h with h | ⟨g, o, e, hc, hcell⟩
  · exact .inl h
  · refine .inr ⟨g, o, e, hc, fun j hj => ?_⟩
    have h1 := hcell j hj
    rw [b.cell (p := ⟨g, o + j, none⟩) (World.block_lt_of_cell? w _ h1)]
    exact h1
end Oc
end Go.Proofs.YtdcfhnbagldilaaGreatDoor
set_option linter.unusedVariables false
set_option linter.unusedSimpArgs false
namespace Go.Proofs.YtdcfhnbagldilaaGreatDoor
open Go.RowKit Go.Shelf
namespace Oc
theorem wpList_wanted {P : Program} {ops : Array Oper} {rest : List Oper} {o : Oper} {a : Act} {w : World} {Q : Exit → Act → World → Prop} (hw : Region.wanted o (yielded ops a.tmps) = true)
    (h : o.wp P a w (wpList P ops Q rest) Q) : wpList P ops Q (o :: rest) a w := by
  rw [wpList, if_pos hw]
  exact .inl h
theorem wp_appR {ops : Array Oper} {rest : List Oper} {o : Oper} {a : Act} {W : World} {Q : Exit → Act → World → Prop} (hw : Region.wanted o (yielded ops a.tmps) = true) (s x : Operand)
    (ho : o.op = .call { callee := .builtin .append, args := #[s, x], argTypes := #[79, 79] }) (B : Nat) (v y : Value) (t u : List (List UInt8))
    (hs : a.eval s = v) (hown : OwnS B v t W) (hx : a.eval x = y) (hy : RdS y u W) (hnil : u = [] → y = .slice none 0 0 ∨ ∃ g c, y = .slice (some g) 0 c) (hlen : t.length + u.length ≤ 4294967296) (hB : B ≤ W.heap.size)
    (h : ∀ v' w', OwnS B v' (t ++ u) w' → Below B W w' → wpList Tryz.prog ops Q rest (a.put o.dst v') w') : wpList Tryz.prog ops Q (o :: rest) a W := by
  obtain ⟨i0, hi, hz0, hz1, hz2⟩ := infoS
  refine wpList_wanted hw ?_
  have own' : ∀ (ad : Addr) (c : Nat), y = .slice (some ad) u.length c → (∀ j, j < u.length → W.cell? (ad.add j) = some (.string (str (u.getD j [])))) → o.wp Tryz.prog a W (wpList Tryz.prog ops Q rest) Q := by
    intro ad c ey hcell
    refine wp_append_own W s x 79 ho B 9 i0 (.string ⟨#[]⟩) 1 16 Tryz.underlying79 hi hz0 hz1 hz2 rfl (by decide) v t.length _ hs hown ad u.length c (encS u) (hx.trans ey) (by simp [encS]) ?_ ?_ ?_ ?_ hB ?_
    · intro j z hj
      have hjl : j < u.length := by
        have := (List.getElem?_eq_some_iff.1 hj).1
        simpa [encS] using this
      rw [hcell j hjl]
      unfold encS at hj
      rw [List.getElem?_map, List.getElem?_eq_getElem hjl] at hj
      rw [List.getD_eq_getElem?_getD, List.getElem?_eq_getElem hjl]
      simpa using hj
    · intro z hz
      unfold encS at hz
      obtain ⟨l, _, rfl⟩ := List.mem_map.1 hz
      rfl
    · unfold maxLen; omega
    · omega
    · intro v' w' h1 h2 _
      refine h v' w' ?_ ((Below.refl B W).grown h2 hB (fun k hk => (World.ownsRow.lt hown k hk).1))
      unfold OwnS
      rw [List.length_append]
      simpa [encS] using h1
  obtain ⟨a2, c2, rfl, hr⟩ := hy
  by_cases hu : u = []
  · subst hu
    rcases hnil rfl with e | ⟨g, c, e⟩
    · have hrun := run_append_owned_none (P := Tryz.prog) (w := W) B 79 o.type 9 i0 1 Tryz.underlying79 hi v t.length _ hown
      have hx' : a.eval x = .slice none 0 0 := hx.trans e
      unfold Oper.wp
      simp [execOp, ho, resolve, invoke, builtin, hs, hx', hrun, Result.andThen]
      have := h v W (by simpa using hown) (Below.refl _ _)
      exact this
    · exact own' g c e (fun j hj => by simp at hj)
  · rcases hr with hr | ⟨g, o', rfl, hc, hcell⟩
    · exact absurd hr hu
    · refine own' ⟨g, o', none⟩ c2 rfl (fun j hj => ?_)
      have ea : Addr.add ⟨g, o', none⟩ j = ⟨g, o' + j, none⟩ := by unfold Addr.add; split <;> simp_all
      rw [ea]
      exact hcell j hj
theorem OwnS.nilish {B : Nat} {v : Value} {t : List (List UInt8)} {w : World} (h : OwnS B v t w) : t = [] → v = .slice none 0 0 ∨ ∃ g c, v = .slice (some g) 0 c := by
  intro e
  subst e
  rcases h.2 with ⟨rfl, _⟩ | ⟨g, cap, cur, rfl, _⟩
  · exact .inl rfl
  · exact .inr ⟨_, _, rfl⟩
end Oc
end Go.Proofs.YtdcfhnbagldilaaGreatDoor
set_option linter.unusedVariables false
namespace Go.Proofs.YtdcfhnbagldilaaGreatDoor
namespace Oc
def joinF : List (List UInt8) → List UInt8
  | [] => []
  | [x] => x
  | x :: y :: r => x ++ 44 :: 32 :: joinF (y :: r)
def sumL (t : List (List UInt8)) : Nat := (t.map List.length).sum
def jp (t : List (List UInt8)) (k : Nat) : List UInt8 := joinF (t.take k)
theorem take_succ (t : List (List UInt8)) (k : Nat) (h : k < t.length) : t.take (k + 1) = t.take k ++ [t.getD k []] := by
  rw [List.take_add_one, List.getElem?_eq_getElem h, List.getD_eq_getElem?_getD, List.getElem?_eq_getElem h]; rfl
end Oc
end Go.Proofs.YtdcfhnbagldilaaGreatDoor
