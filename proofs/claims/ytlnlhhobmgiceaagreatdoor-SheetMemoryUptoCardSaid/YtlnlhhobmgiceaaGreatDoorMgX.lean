/- Several texts as one. -/
import Derived.Test.YtlnlhhobmgiceaaGreatDoorMgO
import Derived.Deep.RegionLaw
import Derived.Laws.AppendOwnNone
import Derived.Test.YtlnlhhobmgiceaaGreatDoorSrB
import Derived.Test.YtlnlhhobmgiceaaGreatDoorDsB
import Derived.Test.YtlnlhhobmgiceaaGreatDoorMgV
/-
  Slices of parts (five cells each): of the call's own, read; an append inside a region of free order.
-/
set_option linter.unusedVariables false
set_option linter.unusedSimpArgs false
namespace Go.Proofs.YtlnlhhobmgiceaaGreatDoor
open Go.RowKit Go.Shelf
namespace Pt
open Oc Tg

/-- A part: name, file, media, body, whether it has a file. -/
structure P5 where
  n : List UInt8
  f : List UInt8
  m : List UInt8
  b : List UInt8
  h : Bool
def p0 : P5 := ⟨[], [], [], [], false⟩
def encT1 (p : P5) : List Value := [.string (str p.n), .string (str p.f), .string (str p.m), .string (str p.b), .bool p.h]
def encT (ps : List P5) : List Value := ps.flatMap encT1
theorem encT_snoc (ps : List P5) (p : P5) : encT (ps ++ [p]) = encT ps ++ encT1 p := by unfold encT; rw [List.flatMap_append]; simp
def szT (p : P5) : Nat := p.n.length + p.f.length + p.m.length + p.b.length
def sumT (t : List P5) : Nat := (t.map szT).sum
def nthT (t : List P5) (j : Nat) : P5 := t.getD j p0
/-- A slice of parts (of the type T) of the call's own. -/
def OwnT (T B : Nat) (v : Value) (ps : List P5) (w : World) : Prop := w.ownsRow B T 5 v ps.length (encT ps)
theorem ownT_nil (T B : Nat) (w : World) : OwnT T B (.slice none 0 0) [] w := World.ownsRow_nil w B T 5
theorem ownT_empty {B : Nat} (T : Nat) (w : World) (hB : B ≤ w.heap.size) : OwnT T B (.slice (some ⟨w.heap.size, 0, none⟩) 0 0) [] (w.alloc (.cells #[] T)) :=
  ⟨by simp [encT], .inr ⟨w.heap.size, 0, #[], rfl, hB, heap_alloc_new w _, by simp, by decide, by simp, by simp [encT]⟩⟩
theorem OwnT.below {T B : Nat} {v : Value} {t : List P5} {w w' : World} (h : OwnT T B v t w) (b : Below w.heap.size w w') : OwnT T B v t w' := by
  refine ⟨h.1, ?_⟩
  rcases h.2 with hn | ⟨g, cap, cur, rfl, hb, hg, rest⟩
  · exact .inl hn
  · refine .inr ⟨g, cap, cur, rfl, hb, ?_, rest⟩
    rw [b.block g (Array.getElem?_eq_some_iff.1 hg).1]
    exact hg
def CellT (w : World) (g o : Nat) (p : P5) : Prop :=
  w.cell? ⟨g, o, none⟩ = some (.string (str p.n)) ∧ w.cell? ⟨g, o + 1, none⟩ = some (.string (str p.f)) ∧ w.cell? ⟨g, o + 2, none⟩ = some (.string (str p.m)) ∧ w.cell? ⟨g, o + 3, none⟩ = some (.string (str p.b)) ∧ w.cell? ⟨g, o + 4, none⟩ = some (.bool p.h)
theorem CellT.below {w w' : World} {g o n : Nat} {p : P5} (h : CellT w g o p) (b : Below n w w') (hg : g < n) : CellT w' g o p := by
  obtain ⟨h0, h1, h2, h3, h4⟩ := h
  exact ⟨(b.cell (p := ⟨g, o, none⟩) hg).trans h0, (b.cell (p := ⟨g, o + 1, none⟩) hg).trans h1, (b.cell (p := ⟨g, o + 2, none⟩) hg).trans h2, (b.cell (p := ⟨g, o + 3, none⟩) hg).trans h3, (b.cell (p := ⟨g, o + 4, none⟩) hg).trans h4⟩
/-- A slice that reads as these parts. -/
def RdT (v : Value) (t : List P5) (w : World) : Prop :=
  ∃ a c, v = .slice a t.length c ∧ (t = [] ∨ ∃ g o, a = some ⟨g, o, none⟩ ∧ t.length ≤ c ∧ ∀ j, j < t.length → CellT w g (o + j * 5) (nthT t j))
theorem encT_at : ∀ (t : List P5) (j : Nat), j < t.length → ∀ i, i < 5 → (encT t)[j * 5 + i]? = (encT1 (nthT t j))[i]?
  | [], j, h, _, _ => by simp at h
  | p :: t, 0, _, i, hi => by
    have e : encT (p :: t) = encT1 p ++ encT t := rfl
    rw [e, Nat.zero_mul, Nat.zero_add, List.getElem?_append_left (by show i < 5; exact hi)]
    rfl
  | p :: t, j + 1, h, i, hi => by
    have ih := encT_at t j (by simpa using h) i hi
    have e : encT (p :: t) = encT1 p ++ encT t := rfl
    have n : nthT (p :: t) (j + 1) = nthT t j := by unfold nthT; simp
    have l5 : (encT1 p).length = 5 := rfl
    rw [e, n, List.getElem?_append_right (by rw [l5]; omega), l5, show (j + 1) * 5 + i - 5 = j * 5 + i by omega]
    exact ih
theorem OwnT.rd {T B : Nat} {v : Value} {t : List P5} {w : World} (h : OwnT T B v t w) : RdT v t w := by
  have hall := h
  rcases h.2 with ⟨rfl, h0⟩ | ⟨g, cap, cur, rfl, _, hg, hn, _⟩
  · exact ⟨none, 0, by rw [h0], .inl (List.length_eq_zero_iff.1 h0)⟩
  · refine ⟨_, _, rfl, .inr ⟨g, 0, rfl, by omega, fun j hj => ?_⟩⟩
    have ea : ∀ k, Addr.add ⟨g, 0, none⟩ k = ⟨g, 0 + k, none⟩ := fun k => by unfold Addr.add; split <;> simp_all
    have c : ∀ i, i < 5 → ∀ u, (encT1 (nthT t j))[i]? = some u → w.cell? ⟨g, 0 + (j * 5 + i), none⟩ = some u := fun i hi u hu => by
      have := World.ownsRow.cells hall (g := g) rfl (j * 5 + i) u (by rw [encT_at t j hj i hi]; exact hu)
      rwa [ea] at this
    exact ⟨c 0 (by omega) _ rfl, by have := c 1 (by omega) _ rfl; rwa [← Nat.add_assoc] at this, by have := c 2 (by omega) _ rfl; rwa [← Nat.add_assoc] at this, by have := c 3 (by omega) _ rfl; rwa [← Nat.add_assoc] at this, by have := c 4 (by omega) _ rfl; rwa [← Nat.add_assoc] at this⟩
theorem RdT.below {v : Value} {t : List P5} {w w' : World} (h : RdT v t w) (b : Below w.heap.size w w') : RdT v t w' := by
  obtain ⟨a, c, rfl, h⟩ := h
  refine ⟨a, c, rfl, ?_⟩
  rcases h with h | ⟨g, o, e, hc, hcell⟩
  · exact .inl h
  · exact .inr ⟨g, o, e, hc, fun j hj => (hcell j hj).below b (World.block_lt_of_cell? w _ (hcell j hj).1)⟩
theorem sumT_take (t : List P5) (k : Nat) : sumT (t.take k) ≤ sumT t := by
  unfold sumT
  conv => rhs; rw [← List.take_append_drop k t]
  rw [List.map_append, List.sum_append]
  omega
theorem take_nthT (t : List P5) (k : Nat) (h : k < t.length) : t.take (k + 1) = t.take k ++ [nthT t k] := by
  unfold nthT
  rw [List.take_add_one, List.getElem?_eq_getElem h, List.getD_eq_getElem?_getD, List.getElem?_eq_getElem h]; rfl
theorem szT_le (t : List P5) (k : Nat) (h : k < t.length) : szT (nthT t k) ≤ sumT t := by
  have h1 : sumT (t.take (k + 1)) = sumT (t.take k) + szT (nthT t k) := by
    unfold sumT
    rw [take_nthT t k h, List.map_append, List.sum_append]
    simp
  have h2 := sumT_take t (k + 1)
  omega

/-- A part appended to a slice of the call's own. -/
theorem step_appT {ops : Array Oper} {o : Oper} {a : Act} {K : Act → World → Prop} {Q : Exit → Act → World → Prop} {E : Prop} (T S : Nat) (hinfo : (Tryz.prog.info? T).map (fun i => (i.zero, i.size, i.bytes)) = some (some (.agg #[.string ⟨#[]⟩, .string ⟨#[]⟩, .string ⟨#[]⟩, .string ⟨#[]⟩, .bool false]), 5, 72))
    (hund : Tryz.prog.underlying S = some (.slice T)) (hgd : o.guard = none) (s x : Operand)
    (ho : o.op = .call { callee := .builtin .append, args := #[s, x], argTypes := #[S, S] }) (B : Nat) (v : Value) (t : List P5) (W : World) (p : P5) (n1 n2 n3 n4 : ByteArray) (h1 : n1 = str p.n) (h2 : n2 = str p.f) (h3 : n3 = str p.m) (h4 : n4 = str p.b) (b : Bool) (h5 : b = p.h)
    (hs : a.eval s = v) (hown : OwnT T B v t W) (g : Nat) (hx : a.eval x = .slice (some ⟨g, 0, none⟩) 1 1) (hg : g = W.heap.size) (hlen : t.length + 1 ≤ 1073741824) (hB : B ≤ W.heap.size)
    (h : ∀ v' w', OwnT T B v' (t ++ [p]) w' → Below B W w' → K (a.put o.dst v') w') : if Region.wanted o (yielded ops a.tmps) = true then Oper.wp Tryz.prog o a (W.alloc (.cells #[.string n1, .string n2, .string n3, .string n4, .bool b] T)) K Q else E := by
  subst h1 h2 h3 h4 h5 hg
  have hw : Region.wanted o (yielded ops a.tmps) = true := by simp [Region.wanted, hgd]
  rw [if_pos hw]
  obtain ⟨i0, hi, hz0, hz1, hz2⟩ := info_parts hinfo
  refine wp_append_own _ s x S ho B T i0 (.agg #[.string ⟨#[]⟩, .string ⟨#[]⟩, .string ⟨#[]⟩, .string ⟨#[]⟩, .bool false]) 5 72 hund hi hz0 hz1 hz2 rfl (by decide) v t.length _ hs (World.ownsRow.alloc hown _) ⟨W.heap.size, 0, none⟩ 1 1 (encT1 p) hx rfl ?_ ?_ ?_ ?_ ?_ ?_
  · intro j u hj
    unfold encT1 at hj
    match j, hj with
    | 0, hj => simp at hj; subst hj; simp [Addr.add]
    | 1, hj => simp at hj; subst hj; simp [Addr.add]
    | 2, hj => simp at hj; subst hj; simp [Addr.add]
    | 3, hj => simp at hj; subst hj; simp [Addr.add]
    | 4, hj => simp at hj; subst hj; simp [Addr.add]
  · intro u hu
    unfold encT1 at hu
    simp at hu
    rcases hu with rfl | rfl | rfl | rfl | rfl <;> rfl
  · unfold maxLen; omega
  · omega
  · simp; omega
  · intro v' w' h1 h2 _
    refine h v' w' ?_ (((Below.refl B W).alloc hB _).grown h2 (by simp; omega) (fun k hk => (World.ownsRow.lt hown k hk).1))
    unfold OwnT
    rw [encT_snoc, List.length_append]
    exact h1
theorem infoT1 : (Tryz.prog.info? 49).map (fun i => (i.zero, i.size, i.bytes)) = some (some (.agg #[.string ⟨#[]⟩, .string ⟨#[]⟩, .string ⟨#[]⟩, .string ⟨#[]⟩, .bool false]), 5, 72) := by kernel_rfl

theorem infoT2 : (Tryz.prog.info? 62).map (fun i => (i.zero, i.size, i.bytes)) = some (some (.agg #[.string ⟨#[]⟩, .string ⟨#[]⟩, .string ⟨#[]⟩, .string ⟨#[]⟩, .bool false]), 5, 72) := by kernel_rfl

end Pt
end Go.Proofs.YtlnlhhobmgiceaaGreatDoor

/-
  sheet: what the fields of a part have said: the head in its block; media, end, dispose.
-/
set_option linter.unusedVariables false
set_option linter.unusedSimpArgs false
namespace Go.Proofs.YtlnlhhobmgiceaaGreatDoor
open Go.RowKit Go.Shelf
namespace Sr
open Oc Tg Mf

/-- The head lies in the block b. -/
def Hd (w : World) (b : Nat) (x : Pt.P5) (d t : Bool) : Prop := w.heap[b]? = some (.cells #[.string (str x.n), .string (str x.f), .string (str x.m), .string (str x.b), .bool x.h, .bool d, .bool t] 166 (0, 0))
theorem Hd.below {w w' : World} {b : Nat} {x : Pt.P5} {d t : Bool} (h : Hd w b x d t) (bl : Below w.heap.size w w') : Hd w' b x d t := by
  unfold Hd at *
  rw [bl.block b (Array.getElem?_eq_some_iff.1 h).1]
  exact h
theorem Hd.cells {w : World} {b : Nat} {x : Pt.P5} {d t : Bool} (h : Hd w b x d t) : w.cell? ⟨b, 0, none⟩ = some (.string (str x.n)) ∧ w.cell? ⟨b, 1, none⟩ = some (.string (str x.f)) ∧ w.cell? ⟨b, 2, none⟩ = some (.string (str x.m)) ∧ w.cell? ⟨b, 3, none⟩ = some (.string (str x.b)) ∧ w.cell? ⟨b, 4, none⟩ = some (.bool x.h) ∧ w.cell? ⟨b, 5, none⟩ = some (.bool d) ∧ w.cell? ⟨b, 6, none⟩ = some (.bool t) := by
  have : ∀ k : Nat, w.cell? ⟨b, k, none⟩ = #[Value.string (str x.n), .string (str x.f), .string (str x.m), .string (str x.b), .bool x.h, .bool d, .bool t][k]? := fun k => by unfold Hd at h; simp [World.cell?, h]
  exact ⟨by simpa using this 0, by simpa using this 1, by simpa using this 2, by simpa using this 3, by simpa using this 4, by simpa using this 5, by simpa using this 6⟩
theorem Hd.f {w : World} {b : Nat} {x : Pt.P5} {d t : Bool} (h : Hd w b x d t) (k : Nat) : w.frozen? ⟨b, k, none⟩ = false := Lib.frozen_of_heap h k

set_option maxRecDepth 100000 in
theorem end_any (b : Nat) (x : Pt.P5) (d t : Bool) (w : World) (hH : Hd w b x d t) :
    Calls Tryz.prog 133 #[.pointer (some ⟨b, 0, none⟩)] w fun e w' => e = .returned (.int .i64 (if d = true then 0 else 152)) ∧ w' = w := by
  obtain ⟨c0, c1, c2, c3, c4, c5, c6⟩ := hH.cells
  cases d with
  | true =>
    go_enter Tryz.func133, Tryz.ntmps133
    go_wp2
    go_ret
    exact ⟨rfl, rfl⟩
  | false =>
    go_enter Tryz.func133, Tryz.ntmps133
    go_wp2
    go_ret
    exact ⟨rfl, rfl⟩

/-- What media does: the error, the head. -/
def medP (v : List UInt8) (x : Pt.P5) (t : Bool) : Int × Pt.P5 × Bool := if t = true then (152, x, t) else (0, { x with m := v }, true)
set_option maxRecDepth 100000 in
theorem media_any (b : Nat) (x : Pt.P5) (d t : Bool) (v : List UInt8) (w : World) (hH : Hd w b x d t) :
    Calls Tryz.prog 137 #[.pointer (some ⟨b, 0, none⟩), .string (str v)] w fun e w' => e = .returned (.int .i64 (medP v x t).1) ∧ Hd w' b (medP v x t).2.1 d (medP v x t).2.2 ∧ Chg b w w' := by
  obtain ⟨c0, c1, c2, c3, c4, c5, c6⟩ := hH.cells
  have f2 := hH.f 2
  have f6 := hH.f 6
  have HH : Hid (Hd w b x d t) := hH
  have HS : Hid (t = false → Hd ((w.setCell ⟨b, 2, none⟩ (.string (str v))).setCell ⟨b, 6, none⟩ (.bool true)) b { x with m := v } d true) := (fun ht => by
    have z1 := heap_setCell_same w b 2 _ _ (.string (str v)) hH
    have z2 := heap_setCell_same _ b 6 _ _ (.bool true) z1
    unfold Hd
    rw [z2]
    rfl : _ → _)
  have HC : Hid (Chg b w ((w.setCell ⟨b, 2, none⟩ (.string (str v))).setCell ⟨b, 6, none⟩ (.bool true))) := ((Chg.refl b w).set 2 _).set 6 _
  clear hH
  cases t with
  | true =>
    have HQ : Hid (medP v x true = (152, x, true)) := rfl
    generalize medP v x true = R at *
    generalize str v = SV at *
    go_enter Tryz.func137, Tryz.ntmps137
    go_wp2
    go_ret
    rw [HQ.out]
    exact ⟨rfl, HH.out, Chg.refl _ _⟩
  | false =>
    have HQ : Hid (medP v x false = (0, { x with m := v }, true)) := rfl
    have HS2 := HS.out rfl
    have HS3 : Hid (Hd ((w.setCell ⟨b, 2, none⟩ (.string (str v))).setCell ⟨b, 6, none⟩ (.bool true)) b { x with m := v } d true) := HS2
    clear HS HS2
    generalize medP v x false = R at *
    go_enter Tryz.func137, Tryz.ntmps137
    go_wp2
    go_ret
    rw [HQ.out]
    exact ⟨rfl, HS3.out, HC.out⟩

end Sr
end Go.Proofs.YtlnlhhobmgiceaaGreatDoor
