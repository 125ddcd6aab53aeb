/-
  Rows that may bear a conversion's mark: appending a byte.
-/
import Derived.Test.YtcnjnlmjgbmjnabDoorSDone
import Derived.ArgAppend
set_option linter.unusedVariables false
set_option linter.unusedSimpArgs false
namespace Go.Proofs.YtcnjnlmjgbmjnabDoor
open Go.RowKit
namespace Bs

/-- A row of the call's own, marked behind its last cell or not at all. -/
structure RowM (B : Nat) (w : World) (g cap : Nat) (t : List UInt8) : Prop where
  lo : B ≤ g
  le : t.length ≤ cap
  mx : cap ≤ maxLen
  row : ∃ cur T fr, w.heap[g]? = some (.cells cur T fr) ∧ cur.size = cap ∧ (fr = (0, 0) ∨ cap ≤ fr.1) ∧ cur.toList.take t.length = bv t
theorem RowM.cell {B : Nat} {w : World} {g cap : Nat} {t : List UInt8} (h : RowM B w g cap t) (j : Nat) (hj : j < t.length) : w.cell? ⟨g, j, none⟩ = some (.int .u8 ((t.getD j 0).toNat : Int)) := by
  obtain ⟨cur, T, fr, hg, _, _, ht⟩ := h.row
  rw [cell_of_row _ _ _ _ _ _ hg]
  have e : cur.toList[j]? = (cur.toList.take t.length)[j]? := by rw [List.getElem?_take_of_lt hj]
  rw [← Array.getElem?_toList, e, ht, bv_get, List.getElem?_eq_getElem hj, List.getD_eq_getElem?_getD, List.getElem?_eq_getElem hj]
  rfl
theorem RowM.free {B : Nat} {w : World} {g cap : Nat} {t : List UInt8} (h : RowM B w g cap t) (j : Nat) (hj : j < cap) : (w.cell? ⟨g, j, none⟩).isSome = true ∧ w.frozen? ⟨g, j, none⟩ = false := by
  obtain ⟨cur, T, fr, hg, hs, hf, _⟩ := h.row
  refine ⟨?_, ?_⟩
  · rw [cell_of_row _ _ _ _ _ _ hg, Array.getElem?_eq_getElem (by omega)]
    rfl
  · unfold World.frozen?
    rw [hg]
    rcases hf with rfl | hf
    · simp
    · obtain ⟨lo, hi⟩ := fr
      simp at hf ⊢
      omega
theorem RowM.block {B : Nat} {w w' : World} {g cap : Nat} {t : List UInt8} (h : RowM B w g cap t) (hb : w'.heap[g]? = w.heap[g]?) : RowM B w' g cap t := ⟨h.lo, h.le, h.mx, by obtain ⟨cur, T, fr, hg, r⟩ := h.row; exact ⟨cur, T, fr, hb.trans hg, r⟩⟩
theorem RowM.lt {B : Nat} {w : World} {g cap : Nat} {t : List UInt8} (h : RowM B w g cap t) : g < w.heap.size := by
  obtain ⟨cur, T, fr, hg, _⟩ := h.row
  exact (Array.getElem?_eq_some_iff.1 hg).1
theorem RowM.but {bs : List Nat} {B : Nat} {w w' : World} {g cap : Nat} {t : List UInt8} (h : RowM B w g cap t) (k : But bs w w') (hn : g ∉ bs) : RowM B w' g cap t := h.block (k.block g h.lt hn)
theorem RowM.alloc {B : Nat} {w : World} {g cap : Nat} {t : List UInt8} (h : RowM B w g cap t) (o : Obj) : RowM B (w.alloc o) g cap t := h.block (Below.heap_alloc _ _ _ h.lt)
theorem RowM.setOther {B : Nat} {w : World} {g cap : Nat} {t : List UInt8} (h : RowM B w g cap t) {b j : Nat} (hb : g ≠ b) (v : Value) : RowM B (w.setCell ⟨b, j, none⟩ v) g cap t := h.block (Below.heap_setCell _ _ _ _ (by simpa using hb))
theorem RowM.own {B : Nat} {w : World} {v : Value} {t : List UInt8} (h : Own B v t w) (hp : 0 < t.length) : ∃ g cap, v = .slice (some ⟨g, 0, none⟩) t.length cap ∧ RowM B w g cap t := by
  unfold Own at h
  rcases h.2 with ⟨_, h0⟩ | ⟨g, cap, cur, rfl, hb, hg, hc, hm, hs, ht⟩
  · omega
  · exact ⟨g, cap, rfl, hb, hc, hm, cur, _, _, hg, by omega, .inl rfl, by simpa using ht⟩
/-- What '[]byte(s)' lays. -/
theorem RowM.conv (w : World) (l : List UInt8) (hl : l.length ≤ 140737488355328) : RowM w.heap.size (w.drew.alloc (.cells (bytesRow (str l) (grownCap w (str l).size 0 5)) 5 ((bytesRow (str l) (grownCap w (str l).size 0 5)).size, (bytesRow (str l) (grownCap w (str l).size 0 5)).size + 1))) w.heap.size (grownCap w (str l).size 0 5) l := by
  have hge := grownCap_ge w (str l).size 0 5
  have hle := grownCap_le_maxLen w (str l).size 0 5 (by rw [str_size]; unfold maxLen; omega)
  generalize grownCap w (str l).size 0 5 = cap at *
  have hsz : (bytesRow (str l) cap).size = cap := by
    unfold bytesRow
    simp
    omega
  rw [hsz]
  rw [str_size] at hge
  refine ⟨Nat.le_refl _, hge, hle, _, _, _, heap_alloc_new w.drew _, hsz, .inr (Nat.le_refl _), ?_⟩
  unfold bytesRow
  rw [Array.toList_append, List.take_append_of_le_length (by simp [str])]
  rw [List.take_of_length_le (by simp [str])]
  simp [str, bv]

theorem run_appM (o : TypeId) (B : Nat) (g cap n : Nat) (t : List UInt8) (u : UInt8) (W : World) (hn : n = t.length) (h : RowM B W g cap t) (ad : Addr) (c : Nat) (hy : W.cell? ad = some (.int .u8 (u.toNat : Int))) (hlen : t.length + 1 ≤ 140737488355328) (hB : B ≤ W.heap.size) :
    ∃ g' cap' w', (Builtin.append_ #[34, 34] o #[.slice (some ⟨g, 0, none⟩) n cap, .slice (some ad) 1 c]).run Tryd.prog W = .ok (.slice (some ⟨g', 0, none⟩) (n + 1) cap') w' ∧ RowM B w' g' cap' (t ++ [u]) ∧ Below B W w' := by
  obtain ⟨i0, hi, hz0, hz1, hz2⟩ := info_parts infoB
  subst hn
  have hnews : ∀ j v, [Value.int .u8 (u.toNat : Int)][j]? = some v → W.cell? (ad.add j) = some v := by
    intro j v hj
    cases j with
    | zero => simp at hj; subst hj; simpa [Addr.add] using hy
    | succ j => simp at hj
  by_cases hr : t.length + 1 ≤ cap
  · have hrun := run_append_room_cells (P := Tryd.prog) W 34 o 5 i0 Tryd.underlying34 hi g 0 t.length cap ad 1 c [.int .u8 (u.toNat : Int)] (by simp [hz1]) hnews (by simp [Value.oneCell']) hr
      (fun j hj => by simp at hj; subst hj; rw [hz1]; simpa using (h.free t.length (by omega)).1) (fun j hj => by simp at hj; subst hj; rw [hz1]; simpa using (h.free t.length (by omega)).2)
    rw [hz1] at hrun
    refine ⟨g, cap, _, hrun, ⟨h.lo, by simp; omega, h.mx, ?_⟩, bel_setCells (Below.refl _ _) h.lo _ _⟩
    obtain ⟨cur, T, fr, hg, hs, hf, ht⟩ := h.row
    refine ⟨cur.setIfInBounds t.length (.int .u8 (u.toNat : Int)), T, fr, ?_, by simp [hs], hf, ?_⟩
    · simp [World.setCells, World.setCell, Array.getElem?_modify, hg]
    · rw [bv_append, ← ht, List.length_append, List.length_singleton]
      apply List.ext_getElem?
      intro j
      have hl1 : (cur.toList.take t.length).length = t.length := by simp; omega
      rw [Array.toList_setIfInBounds, List.getElem?_take]
      by_cases hj : j < t.length
      · rw [if_pos (by omega), List.getElem?_append_left (by omega), List.getElem?_set_ne (by omega), List.getElem?_take_of_lt hj]
      · by_cases hj2 : j = t.length
        · subst hj2
          rw [if_pos (by omega), List.getElem?_append_right (by omega), List.getElem?_set_self (by simp; omega), hl1]
          simp [bv]
        · rw [if_neg (by omega), List.getElem?_eq_none]
          simp [bv]
          omega
  · obtain ⟨v', w', hrun, h1, h2⟩ := run_append_arg_grows (P := Tryd.prog) W 34 o 5 i0 (.int .u8 0) 1 1 Tryd.underlying34 hi hz0 hz1 hz2 rfl (by decide) ⟨g, 0, none⟩ t.length cap (bv t) (by rw [bv_length]; omega)
      (fun j v hj => by
        rw [bv_get] at hj
        have hjl : j < t.length := by
          rcases Nat.lt_or_ge j t.length with h' | h'
          · exact h'
          · rw [List.getElem?_eq_none h'] at hj; cases hj
        rw [Addr.add_lit, Nat.zero_add, h.cell j hjl, ← hj, List.getElem?_eq_getElem hjl, List.getD_eq_getElem?_getD, List.getElem?_eq_getElem hjl]
        rfl) ad 1 c [.int .u8 (u.toNat : Int)] rfl hnews (by omega) (by unfold maxLen; omega) (by omega)
    have ho : Own B v' (t ++ [u]) w' := by
      unfold Own
      rw [bv_append, List.length_append, List.length_singleton]
      refine ⟨h1.1, ?_⟩
      rcases h1.2 with hz | ⟨g', cap', cur, e1, hb, r⟩
      · exact .inl hz
      · exact .inr ⟨g', cap', cur, e1, by omega, r⟩
    obtain ⟨g', cap', rfl, hrw⟩ := RowM.own ho (by simp)
    rw [List.length_append, List.length_singleton] at hrun
    exact ⟨g', cap', w', hrun, hrw, (Below.refl B W).grown h2 hB (fun k hk => by cases hk)⟩

theorem wp_appM {ops : Array Oper} {rest : List Oper} {o : Oper} {a : Act} {Q : Exit → Act → World → Prop} (hgd : o.guard = none) (s x : Operand)
    (ho : o.op = .call { callee := .builtin .append, args := #[s, x], argTypes := #[34, 34] }) (B : Nat) (g cap n : Nat) (t : List UInt8) (u : UInt8) (W : World) (cs : Array Value) (hc : cs.toList = bv [u])
    (hs : a.eval s = .slice (some ⟨g, 0, none⟩) n cap) (hn : n = t.length) (hrow : RowM B W g cap t) (hx : a.eval x = .slice (some ⟨W.heap.size, 0, none⟩) 1 1) (hlen : t.length + 1 ≤ 140737488355328) (hB : B ≤ W.heap.size)
    (h : ∀ g' cap' w', Hid (RowM B w' g' cap' (t ++ [u])) → Hid (Below B W w') → wpList Tryd.prog ops Q rest (a.put o.dst (.slice (some ⟨g', 0, none⟩) (n + 1) cap')) w') : wpList Tryd.prog ops Q (o :: rest) a (W.alloc (.cells cs 5)) := by
  refine wpList_wanted (by simp [Region.wanted, hgd]) ?_
  have hcell : (W.alloc (.cells cs 5)).cell? ⟨W.heap.size, 0, none⟩ = some (.int .u8 (u.toNat : Int)) := by
    rw [cell_of_row _ _ _ _ _ _ (heap_alloc_new W (.cells cs 5)), ← Array.getElem?_toList, hc]
    rfl
  obtain ⟨g', cap', w', hrun, h1, h2⟩ := run_appM o.type B g cap n t u _ hn (hrow.alloc _) ⟨W.heap.size, 0, none⟩ 1 hcell hlen (by simp; omega)
  have := h g' cap' w' h1 (((Below.refl B W).alloc hB _).trans h2)
  unfold Oper.wp
  simp [execOp, ho, resolve, invoke, builtin, hs, hx, hrun, Result.andThen]
  exact this

end Bs
end Go.Proofs.YtcnjnlmjgbmjnabDoor
