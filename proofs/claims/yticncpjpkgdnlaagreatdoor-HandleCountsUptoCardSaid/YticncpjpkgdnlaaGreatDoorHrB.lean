/-
  handle: rows of parameters (written by mkhrb.py).
-/
import Derived.Test.YticncpjpkgdnlaaGreatDoorMgL
import Derived.Test.YticncpjpkgdnlaaGreatDoorHnK
import Derived.Deep.RegionLaw
import Derived.Laws.AppendOwnNone
set_option linter.unusedVariables false
set_option linter.unusedSimpArgs false
set_option maxRecDepth 100000
namespace Go.Proofs.YticncpjpkgdnlaaGreatDoor
open Go.RowKit Go.Shelf
namespace Hn
open Oc Tg _root_.Go.Proofs.YticncpjpkgdnlaaGreatDoor.Fd _root_.Go.Proofs.YticncpjpkgdnlaaGreatDoor.Ck

def encA1 (p : PrA) : List Value := [.string (str p.1), .string (str p.2.1), .bool p.2.2]
def encA (ps : List PrA) : List Value := ps.flatMap encA1
theorem encA_snoc (ps : List PrA) (p : PrA) : encA (ps ++ [p]) = encA ps ++ encA1 p := by unfold encA; rw [List.flatMap_append]; simp
theorem encA_len : ∀ ps : List PrA, (encA ps).length = ps.length * 3
  | [] => rfl
  | p :: ps => by
    have := encA_len ps
    unfold encA at *
    rw [List.flatMap_cons, List.length_append, this, List.length_cons]
    show 3 + _ = _
    omega
/-- A slice of parameters (of the type T) of the call's own. -/
def OwnA (T B : Nat) (v : Value) (ps : List PrA) (w : World) : Prop := w.ownsRow B T 3 v ps.length (encA ps)
theorem ownA_nil (T B : Nat) (w : World) : OwnA T B (.slice none 0 0) [] w := World.ownsRow_nil w B T 3
theorem ownA_empty {B : Nat} (T : Nat) (w : World) (hB : B ≤ w.heap.size) : OwnA T B (.slice (some ⟨w.heap.size, 0, none⟩) 0 0) [] (w.alloc (.cells #[] T)) :=
  ⟨by simp [encA], .inr ⟨w.heap.size, 0, #[], rfl, hB, heap_alloc_new w _, by simp, by decide, by simp, by simp [encA]⟩⟩
theorem OwnA.below {T B : Nat} {v : Value} {t : List PrA} {w w' : World} (h : OwnA T B v t w) (b : Below w.heap.size w w') : OwnA T B v t w' := by
  refine ⟨h.1, ?_⟩
  rcases h.2 with hn | ⟨g, cap, cur, rfl, hb, hg, rest⟩
  · exact .inl hn
  · refine .inr ⟨g, cap, cur, rfl, hb, ?_, rest⟩
    have hlt : g < w.heap.size := by
      rcases Nat.lt_or_ge g w.heap.size with h | h
      · exact h
      · simp [Array.getElem?_eq_none h] at hg
    rw [b.block g hlt]
    exact hg

theorem infoA : (Tryz.prog.info? 66).map (fun i => (i.zero, i.size, i.bytes)) = some (some (.agg #[.string ⟨#[]⟩, .string ⟨#[]⟩, .bool false]), 3, 40) := by kernel_rfl

def nthA (t : List PrA) (j : Nat) : PrA := t.getD j ([], [], false)
/-- A slice that reads as these parameters. -/
def RdA (v : Value) (t : List PrA) (w : World) : Prop :=
  ∃ a c, v = .slice a t.length c ∧ (t = [] ∨ ∃ g o, a = some ⟨g, o, none⟩ ∧ t.length ≤ c ∧ ∀ j, j < t.length → w.cell? ⟨g, o + j * 3, none⟩ = some (.string (str (nthA t j).1)) ∧ w.cell? ⟨g, o + j * 3 + 1, none⟩ = some (.string (str (nthA t j).2.1)) ∧ w.cell? ⟨g, o + j * 3 + 2, none⟩ = some (.bool (nthA t j).2.2))
theorem encA_at : ∀ (t : List PrA) (j : Nat), j < t.length → (encA t)[j * 3]? = some (.string (str (nthA t j).1)) ∧ (encA t)[j * 3 + 1]? = some (.string (str (nthA t j).2.1)) ∧ (encA t)[j * 3 + 2]? = some (.bool (nthA t j).2.2)
  | [], j, h => by simp at h
  | p :: t, 0, _ => ⟨rfl, rfl, rfl⟩
  | p :: t, j + 1, h => by
    have ih := encA_at t j (by simpa using h)
    have e : encA (p :: t) = [.string (str p.1), .string (str p.2.1), .bool p.2.2] ++ encA t := rfl
    rw [e]
    have n : nthA (p :: t) (j + 1) = nthA t j := by unfold nthA; simp
    rw [n, show (j + 1) * 3 = j * 3 + 3 by omega, show j * 3 + 3 + 1 = (j * 3 + 1) + 3 by omega, show j * 3 + 3 + 2 = (j * 3 + 2) + 3 by omega]
    exact ih
theorem OwnA.rd {T B : Nat} {v : Value} {t : List PrA} {w : World} (h : OwnA T B v t w) : RdA v t w := by
  have hall := h
  rcases h.2 with ⟨rfl, h0⟩ | ⟨g, cap, cur, rfl, _, hg, hn, _⟩
  · exact ⟨none, 0, by rw [h0], .inl (List.length_eq_zero_iff.1 h0)⟩
  · refine ⟨_, _, rfl, .inr ⟨g, 0, rfl, by omega, fun j hj => ?_⟩⟩
    obtain ⟨e0, e1, e2⟩ := encA_at t j hj
    have ea : ∀ k, Addr.add ⟨g, 0, none⟩ k = ⟨g, 0 + k, none⟩ := fun k => by unfold Addr.add; split <;> simp_all
    have c0 := World.ownsRow.cells hall (g := g) rfl _ _ e0
    have c1 := World.ownsRow.cells hall (g := g) rfl _ _ e1
    have c2 := World.ownsRow.cells hall (g := g) rfl _ _ e2
    rw [ea] at c0 c1 c2
    exact ⟨c0, c1, c2⟩
theorem RdA.below {v : Value} {t : List PrA} {w w' : World} (h : RdA v t w) (b : Below w.heap.size w w') : RdA v t w' := by
  obtain ⟨a, c, rfl, h⟩ := h
  refine ⟨a, c, rfl, ?_⟩
  rcases h with h | ⟨g, o, e, hc, hcell⟩
  · exact .inl h
  · refine .inr ⟨g, o, e, hc, fun j hj => ?_⟩
    obtain ⟨h1, h2, h3⟩ := hcell j hj
    rw [b.cell (p := ⟨g, o + j * 3, none⟩) (World.block_lt_of_cell? w _ h1), b.cell (p := ⟨g, o + j * 3 + 1, none⟩) (World.block_lt_of_cell? w _ h2), b.cell (p := ⟨g, o + j * 3 + 2, none⟩) (World.block_lt_of_cell? w _ h3)]
    exact ⟨h1, h2, h3⟩

theorem wp_appA {ops : Array Oper} {rest : List Oper} {o : Oper} {a : Act} {Q : Exit → Act → World → Prop} (T S : Nat) (hinfo : (Tryz.prog.info? T).map (fun i => (i.zero, i.size, i.bytes)) = some (some (.agg #[.string ⟨#[]⟩, .string ⟨#[]⟩, .bool false]), 3, 40))
    (hund : Tryz.prog.underlying S = some (.slice T)) (hgd : o.guard = none) (s x : Operand)
    (ho : o.op = .call { callee := .builtin .append, args := #[s, x], argTypes := #[S, S] }) (B : Nat) (v : Value) (t : List PrA) (W : World) (p : PrA) (n1 n2 : ByteArray) (h1 : n1 = str p.1) (h2 : n2 = str p.2.1) (b : Bool) (h3 : b = p.2.2)
    (hs : a.eval s = v) (hown : OwnA T B v t W) (g : Nat) (hx : a.eval x = .slice (some ⟨g, 0, none⟩) 1 1) (hg : g = W.heap.size) (hlen : t.length + 1 ≤ 2147483648) (hB : B ≤ W.heap.size)
    (h : ∀ v' w', OwnA T B v' (t ++ [p]) w' → Below B W w' → wpList Tryz.prog ops Q rest (a.put o.dst v') w') : wpList Tryz.prog ops Q (o :: rest) a (W.alloc (.cells #[.string n1, .string n2, .bool b] T)) := by
  subst h1 h2 h3 hg
  obtain ⟨i0, hi, hz0, hz1, hz2⟩ := info_parts hinfo
  refine wpList_append_own _ hgd s x S ho B T i0 (.agg #[.string ⟨#[]⟩, .string ⟨#[]⟩, .bool false]) 3 40 hund hi hz0 hz1 hz2 rfl (by decide) v t.length _ hs (World.ownsRow.alloc hown _) ⟨W.heap.size, 0, none⟩ 1 1 (encA1 p) hx rfl ?_ ?_ ?_ ?_ ?_ ?_
  · intro j u hj
    unfold encA1 at hj
    match j, hj with
    | 0, hj => simp at hj; subst hj; simp [Addr.add]
    | 1, hj => simp at hj; subst hj; simp [Addr.add]
    | 2, hj => simp at hj; subst hj; simp [Addr.add]
  · intro u hu
    unfold encA1 at hu
    simp at hu
    rcases hu with rfl | rfl | rfl <;> rfl
  · unfold maxLen; omega
  · omega
  · simp; omega
  · intro v' w' h1 h2 _
    refine h v' w' ?_ (((Below.refl B W).alloc hB _).grown h2 (by simp; omega) (fun k hk => (World.ownsRow.lt hown k hk).1))
    unfold OwnA
    rw [encA_snoc, List.length_append]
    exact h1

theorem step_appA {ops : Array Oper} {o : Oper} {a : Act} {K : Act → World → Prop} {Q : Exit → Act → World → Prop} {E : Prop} (T S : Nat) (hinfo : (Tryz.prog.info? T).map (fun i => (i.zero, i.size, i.bytes)) = some (some (.agg #[.string ⟨#[]⟩, .string ⟨#[]⟩, .bool false]), 3, 40))
    (hund : Tryz.prog.underlying S = some (.slice T)) (hgd : o.guard = none) (s x : Operand)
    (ho : o.op = .call { callee := .builtin .append, args := #[s, x], argTypes := #[S, S] }) (B : Nat) (v : Value) (t : List PrA) (W : World) (p : PrA) (n1 n2 : ByteArray) (h1 : n1 = str p.1) (h2 : n2 = str p.2.1) (b : Bool) (h3 : b = p.2.2)
    (hs : a.eval s = v) (hown : OwnA T B v t W) (g : Nat) (hx : a.eval x = .slice (some ⟨g, 0, none⟩) 1 1) (hg : g = W.heap.size) (hlen : t.length + 1 ≤ 2147483648) (hB : B ≤ W.heap.size)
    (h : ∀ v' w', OwnA T B v' (t ++ [p]) w' → Below B W w' → K (a.put o.dst v') w') : if Region.wanted o (yielded ops a.tmps) = true then Oper.wp Tryz.prog o a (W.alloc (.cells #[.string n1, .string n2, .bool b] T)) K Q else E := by
  subst h1 h2 h3 hg
  have hw : Region.wanted o (yielded ops a.tmps) = true := by simp [Region.wanted, hgd]
  rw [if_pos hw]
  obtain ⟨i0, hi, hz0, hz1, hz2⟩ := info_parts hinfo
  refine wp_append_own _ s x S ho B T i0 (.agg #[.string ⟨#[]⟩, .string ⟨#[]⟩, .bool false]) 3 40 hund hi hz0 hz1 hz2 rfl (by decide) v t.length _ hs (World.ownsRow.alloc hown _) ⟨W.heap.size, 0, none⟩ 1 1 (encA1 p) hx rfl ?_ ?_ ?_ ?_ ?_ ?_
  · intro j u hj
    unfold encA1 at hj
    match j, hj with
    | 0, hj => simp at hj; subst hj; simp [Addr.add]
    | 1, hj => simp at hj; subst hj; simp [Addr.add]
    | 2, hj => simp at hj; subst hj; simp [Addr.add]
  · intro u hu
    unfold encA1 at hu
    simp at hu
    rcases hu with rfl | rfl | rfl <;> rfl
  · unfold maxLen; omega
  · omega
  · simp; omega
  · intro v' w' h1 h2 _
    refine h v' w' ?_ (((Below.refl B W).alloc hB _).grown h2 (by simp; omega) (fun k hk => (World.ownsRow.lt hown k hk).1))
    unfold OwnA
    rw [encA_snoc, List.length_append]
    exact h1

theorem take_nthA (t : List PrA) (k : Nat) (h : k < t.length) : t.take (k + 1) = t.take k ++ [nthA t k] := by
  unfold nthA
  rw [List.take_add_one, List.getElem?_eq_getElem h, List.getD_eq_getElem?_getD, List.getElem?_eq_getElem h]; rfl

theorem encA_get3 : ∀ (u : List PrA) (j : Nat) (z : Value), (encA u)[j]? = some z → j / 3 < u.length ∧ z = (if j % 3 = 0 then .string (str (nthA u (j / 3)).1) else if j % 3 = 1 then .string (str (nthA u (j / 3)).2.1) else .bool (nthA u (j / 3)).2.2)
  | [], j, z, h => by simp [encA] at h
  | p :: u, 0, z, h => by
    have : z = .string (str p.1) := by
      have h2 : (encA (p :: u))[0]? = some (.string (str p.1)) := rfl
      rw [h2] at h
      exact (Option.some.inj h).symm
    exact ⟨by simp, this⟩
  | p :: u, 1, z, h => by
    have : z = .string (str p.2.1) := by
      have h2 : (encA (p :: u))[1]? = some (.string (str p.2.1)) := rfl
      rw [h2] at h
      exact (Option.some.inj h).symm
    exact ⟨by simp, this⟩
  | p :: u, 2, z, h => by
    have : z = .bool p.2.2 := by
      have h2 : (encA (p :: u))[2]? = some (.bool p.2.2) := rfl
      rw [h2] at h
      exact (Option.some.inj h).symm
    exact ⟨by simp, this⟩
  | p :: u, j + 3, z, h => by
    have h2 : (encA (p :: u))[j + 3]? = (encA u)[j]? := rfl
    rw [h2] at h
    obtain ⟨h3, h4⟩ := encA_get3 u j z h
    have e1 : (j + 3) / 3 = j / 3 + 1 := by omega
    have e2 : (j + 3) % 3 = j % 3 := by omega
    rw [e1, e2]
    exact ⟨by simp; omega, h4⟩
theorem encA_len3 : ∀ u : List PrA, (encA u).length = u.length * 3
  | [] => rfl
  | p :: u => by
    have := encA_len3 u
    show (encA u).length + 1 + 1 + 1 = _
    rw [this]
    simp only [List.length_cons]
    omega
/-- The form of a slice of none. -/
def NilA (v : Value) (t : List PrA) : Prop := t = [] → v = .slice none 0 0 ∨ ∃ g c, v = .slice (some g) 0 c
theorem wp_appAs {ops : Array Oper} {rest : List Oper} {o : Oper} {a : Act} {W : World} {Q : Exit → Act → World → Prop} (T S : Nat) (hinfo : (Tryz.prog.info? T).map (fun i => (i.zero, i.size, i.bytes)) = some (some (.agg #[.string ⟨#[]⟩, .string ⟨#[]⟩, .bool false]), 3, 40))
    (hund : Tryz.prog.underlying S = some (.slice T)) (hw : Region.wanted o (yielded ops a.tmps) = true) (s x : Operand)
    (ho : o.op = .call { callee := .builtin .append, args := #[s, x], argTypes := #[S, S] }) (B : Nat) (v y : Value) (t u : List PrA)
    (hs : a.eval s = v) (hown : OwnA T B v t W) (hx : a.eval x = y) (hy : RdA y u W) (hn : NilA y u) (hlen : t.length + u.length ≤ 2147483648) (hB : B ≤ W.heap.size)
    (h : ∀ v' w', OwnA T B v' (t ++ u) w' → Below B W w' → wpList Tryz.prog ops Q rest (a.put o.dst v') w') : wpList Tryz.prog ops Q (o :: rest) a W := by
  obtain ⟨i0, hi, hz0, hz1, hz2⟩ := info_parts hinfo
  refine wantedF hw ?_
  have own' : ∀ (ad : Addr) (c : Nat), y = .slice (some ad) u.length c → (∀ j z, (encA u)[j]? = some z → W.cell? (ad.add j) = some z) → o.wp Tryz.prog a W (wpList Tryz.prog ops Q rest) Q := by
    intro ad c ey hcell
    refine wp_append_own W s x S ho B T i0 (.agg #[.string ⟨#[]⟩, .string ⟨#[]⟩, .bool false]) 3 40 hund hi hz0 hz1 hz2 rfl (by decide) v t.length _ hs hown ad u.length c (encA u) (hx.trans ey) (encA_len3 u) hcell ?_ ?_ ?_ hB ?_
    · intro z hz
      obtain ⟨j, hj⟩ := List.getElem?_of_mem hz
      obtain ⟨_, e⟩ := encA_get3 u j z hj
      rw [e]
      split
      · rfl
      · split <;> rfl
    · unfold maxLen; omega
    · omega
    · intro v' w' h1 h2 _
      refine h v' w' ?_ ((Below.refl B W).grown h2 hB (fun k hk => (World.ownsRow.lt hown k hk).1))
      unfold OwnA
      rw [List.length_append, show encA (t ++ u) = encA t ++ encA u by unfold encA; rw [List.flatMap_append]]
      exact h1
  obtain ⟨a2, c2, rfl, hr⟩ := hy
  by_cases hu : u = []
  · subst hu
    rcases hn rfl with e | ⟨g, c, e⟩
    · have hrun := run_append_owned_none (P := Tryz.prog) (w := W) B S o.type T i0 3 hund hi v t.length _ hown
      have hx' : a.eval x = .slice none 0 0 := hx.trans e
      unfold Oper.wp
      simp [execOp, ho, resolve, invoke, builtin, hs, hx', hrun, Result.andThen]
      exact h v W (by simpa using hown) (Below.refl _ _)
    · exact own' g c e (fun j z hj => by simp [encA] at hj)
  · rcases hr with hr | ⟨g, o', rfl, hc, hcell⟩
    · exact absurd hr hu
    · refine own' ⟨g, o', none⟩ c2 rfl (fun j z hj => ?_)
      have ea : Addr.add ⟨g, o', none⟩ j = ⟨g, o' + j, none⟩ := by unfold Addr.add; split <;> simp_all
      rw [ea]
      obtain ⟨hq, e⟩ := encA_get3 u j z hj
      obtain ⟨h0, h1, h2⟩ := hcell (j / 3) hq
      rw [e]
      by_cases hm : j % 3 = 0
      · rw [if_pos hm]
        rw [show o' + j / 3 * 3 = o' + j by omega] at h0
        exact h0
      · rw [if_neg hm]
        by_cases hm1 : j % 3 = 1
        · rw [if_pos hm1]
          rw [show o' + j / 3 * 3 + 1 = o' + j by omega] at h1
          exact h1
        · rw [if_neg hm1]
          rw [show o' + j / 3 * 3 + 2 = o' + j by omega] at h2
          exact h2
theorem rdA_get {a : Option Addr} {n c k : Nat} {t : List PrA} {w : World} (h : RdA (.slice a n c) t w) (hk : k < t.length) : ∃ g o, a = some ⟨g, o, none⟩ ∧ t.length ≤ c ∧ w.cell? ⟨g, o + k * 3, none⟩ = some (.string (str (nthA t k).1)) ∧ w.cell? ⟨g, o + k * 3 + 1, none⟩ = some (.string (str (nthA t k).2.1)) ∧ w.cell? ⟨g, o + k * 3 + 2, none⟩ = some (.bool (nthA t k).2.2) := by
  obtain ⟨a', c', e, h⟩ := h
  injection e with e1 e2 e3
  subst e1 e3
  rcases h with h | ⟨g, o, rfl, hc, hcell⟩
  · rw [h] at hk; simp at hk
  · exact ⟨g, o, rfl, hc, hcell k hk⟩
theorem rdA_front {a : Option Addr} {n c : Nat} {t u : List PrA} {w : World} (h : RdA (.slice a n c) (t ++ u) w) : RdA (.slice a t.length c) t w := by
  obtain ⟨a', c', e, h⟩ := h
  injection e with e1 e2 e3
  subst e1 e3
  refine ⟨a, c, rfl, ?_⟩
  rcases h with h | ⟨g, o, rfl, hc, hcell⟩
  · exact .inl (List.append_eq_nil_iff.1 h).1
  · refine .inr ⟨g, o, rfl, by rw [List.length_append] at hc; omega, fun j hj => ?_⟩
    have := hcell j (by rw [List.length_append]; omega)
    rw [show nthA (t ++ u) j = nthA t j by unfold nthA; rw [List.getD_eq_getElem?_getD, List.getD_eq_getElem?_getD, List.getElem?_append_left hj]] at this
    exact this
theorem ownA_form {T B : Nat} {v : Value} {t : List PrA} {w : World} (h : OwnA T B v t w) : ∃ a c, v = .slice a t.length c := by
  rcases h.2 with ⟨rfl, h0⟩ | ⟨g, cap, cur, rfl, _⟩
  · exact ⟨none, 0, by rw [h0]⟩
  · exact ⟨_, _, rfl⟩


end Hn
end Go.Proofs.YticncpjpkgdnlaaGreatDoor
