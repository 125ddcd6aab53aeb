/-
  Numbers that came in, and the form of none; appended whole.
-/
import Derived.Test.YtifhbjkgdnemjaaGreatDoorMgF
set_option linter.unusedVariables false
set_option linter.unusedSimpArgs false
namespace Go.Proofs.YtifhbjkgdnemjaaGreatDoor
open Go.ChangeShapes Go.WideShapes Go.RowKit Go.Shelf
namespace Ck
open Oc _root_.Go.Proofs.YtifhbjkgdnemjaaGreatDoor.Fd

def NilI (v : Value) (l : List Int) : Prop := l = [] → v = .slice none 0 0 ∨ ∃ g c, v = .slice (some g) 0 c
set_option maxRecDepth 100000 in
theorem open_cutsN {H : Type} {enc : TypeId × Value → H} {W : World} {base : Nat} {v : Value} {d : DataW H} {ps : List MemPlace} (hval : Value.okWide Tryz.prog W .any base 36 v)
    (h : DataW.Trod enc Tryz.prog W 0 (fun _ => true) true 36 v d ps) : ∃ l : List Int, (RdI W v l ∧ NilI v l) ∧ l.length ≤ Rows.uptoBulk d := by
  obtain ⟨l, hr, hb⟩ := open_cuts hval h
  refine ⟨l, ⟨hr, fun e => ?_⟩, hb⟩
  subst e
  obtain ⟨fuel, hf⟩ := h
  obtain ⟨a, c, rfl, hrest⟩ := hr
  rcases DataW.trod_slice Tryz.underlying36 hf with ⟨hcs, _⟩ | ⟨a', len', cap', elems, rest, n, _, hcs, _⟩
  · simp [Value.cells] at hcs
    obtain ⟨rfl, rfl⟩ := hcs
    exact .inl rfl
  · simp [Value.cells] at hcs
    obtain ⟨rfl, rfl, rfl⟩ := hcs
    exact .inr ⟨_, _, rfl⟩

theorem encI_get (u : List Int) (j : Nat) (z : Value) (h : (encI u)[j]? = some z) : ∃ x, u[j]? = some x ∧ z = .int .i64 x := by
  unfold encI at h
  rw [List.getElem?_map] at h
  cases hu : u[j]? with
  | none => rw [hu] at h; cases h
  | some x => rw [hu] at h; exact ⟨x, rfl, (Option.some.inj h).symm⟩
/-- A slice of numbers appended to one of the call's own. -/
theorem wp_appIs {ops : Array Oper} {rest : List Oper} {o : Oper} {a : Act} {W : World} {Q : Exit → Act → World → Prop} (hw : Region.wanted o (yielded ops a.tmps) = true) (s x : Operand)
    (ho : o.op = .call { callee := .builtin .append, args := #[s, x], argTypes := #[36, 36] }) (B : Nat) (v y : Value) (t u : List Int)
    (hs : a.eval s = v) (hown : OwnI B v t W) (hx : a.eval x = y) (hy : RdI W y u) (hn : NilI y u) (hlen : t.length + u.length ≤ 2147483648) (hB : B ≤ W.heap.size)
    (h : ∀ v' w', OwnI B v' (t ++ u) w' → Below B W w' → wpList Tryz.prog ops Q rest (a.put o.dst v') w') : wpList Tryz.prog ops Q (o :: rest) a W := by
  obtain ⟨i0, hi, hz0, hz1, hz2⟩ := info_parts infoI
  refine wantedF hw ?_
  have own' : ∀ (ad : Addr) (c : Nat), y = .slice (some ad) u.length c → (∀ j z, (encI u)[j]? = some z → W.cell? (ad.add j) = some z) → o.wp Tryz.prog a W (wpList Tryz.prog ops Q rest) Q := by
    intro ad c ey hcell
    refine wp_append_own W s x 36 ho B 3 i0 (.int .i64 0) 1 8 Tryz.underlying36 hi hz0 hz1 hz2 rfl (by decide) v t.length _ hs hown ad u.length c (encI u) (hx.trans ey) (by simp [encI]) hcell ?_ ?_ ?_ hB ?_
    · intro z hz
      obtain ⟨j, hj⟩ := List.getElem?_of_mem hz
      obtain ⟨_, _, e⟩ := encI_get u j z hj
      rw [e]
      rfl
    · unfold maxLen; omega
    · omega
    · intro v' w' h1 h2 _
      refine h v' w' ?_ ((Below.refl B W).grown h2 hB (fun k hk => (World.ownsRow.lt hown k hk).1))
      unfold OwnI
      rw [List.length_append, show encI (t ++ u) = encI t ++ encI u by unfold encI; rw [List.map_append]]
      exact h1
  obtain ⟨a2, c2, rfl, _, _, hr⟩ := hy
  by_cases hu : u = []
  · subst hu
    rcases hn rfl with e | ⟨g, c, e⟩
    · have hrun := run_append_owned_none (P := Tryz.prog) (w := W) B 36 o.type 3 i0 1 Tryz.underlying36 hi v t.length _ hown
      have hx' : a.eval x = .slice none 0 0 := hx.trans e
      unfold Oper.wp
      simp [execOp, ho, resolve, invoke, builtin, hs, hx', hrun, Result.andThen]
      exact h v W (by simpa using hown) (Below.refl _ _)
    · exact own' g c e (fun j z hj => by simp [encI] at hj)
  · rcases hr with hr | ⟨g, o', rfl, hcell⟩
    · exact absurd hr hu
    · refine own' ⟨g, o', none⟩ c2 rfl (fun j z hj => ?_)
      obtain ⟨x, hx1, e⟩ := encI_get u j z hj
      have ea : Addr.add ⟨g, o', none⟩ j = ⟨g, o' + j, none⟩ := by unfold Addr.add; split <;> simp_all
      rw [ea, e]
      exact hcell j x hx1
theorem ownI_empty {B : Nat} (w : World) (hB : B ≤ w.heap.size) : OwnI B (.slice (some ⟨w.heap.size, 0, none⟩) 0 0) [] (w.alloc (.cells #[] 3)) :=
  ⟨by simp [encI], .inr ⟨w.heap.size, 0, #[], rfl, hB, heap_alloc_new w _, by simp, by decide, by simp, by simp [encI]⟩⟩
theorem OwnI.form {B : Nat} {v : Value} {l : List Int} {w : World} (h : OwnI B v l w) : ∃ a c, v = .slice a l.length c := by
  rcases h.2 with ⟨rfl, h0⟩ | ⟨g, cap, cur, rfl, _⟩
  · exact ⟨none, 0, by rw [h0]⟩
  · exact ⟨_, _, rfl⟩
theorem RdI.front {a : Option Addr} {n c : Nat} {t u : List Int} {w : World} (h : RdI w (.slice a n c) (t ++ u)) : RdI w (.slice a t.length c) t := by
  obtain ⟨a', c', e, h1, h2, h3⟩ := h
  injection e with e1 e2 e3
  subst e1 e3
  rw [List.length_append] at h1
  refine ⟨a, c, rfl, by omega, fun x hx => h2 x (List.mem_append_left _ hx), ?_⟩
  rcases h3 with h | ⟨g, o, rfl, hcell⟩
  · exact .inl (List.append_eq_nil_iff.1 h).1
  · exact .inr ⟨g, o, rfl, fun j x hj => hcell j x (by rw [List.getElem?_append_left (List.getElem?_eq_some_iff.1 hj).1]; exact hj)⟩
/-- One field of spare room. -/
def spare1 : List Fl := [([115, 112, 97, 114, 101], [])]
theorem rd_one (w : World) (T : Nat) : InF (.slice (some ⟨w.heap.size, 0, none⟩) 1 1) spare1 (w.alloc (.cells #[.string ⟨#[115, 112, 97, 114, 101]⟩, .string ⟨#[]⟩] T)) := by
  refine ⟨⟨_, _, rfl, .inr ⟨w.heap.size, 0, rfl, by simp [spare1], fun j hj => ?_⟩⟩, fun e => by cases e⟩
  have hj2 : j < 1 := by simpa [spare1] using hj
  match j, hj2 with
  | 0, _ => exact ⟨by simp [Fd.nth, spare1, str], by simp [Fd.nth, spare1, str]⟩

end Ck
end Go.Proofs.YtifhbjkgdnemjaaGreatDoor
