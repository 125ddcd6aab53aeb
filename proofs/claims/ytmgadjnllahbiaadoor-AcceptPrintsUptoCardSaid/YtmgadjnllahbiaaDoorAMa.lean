/-
  The law's media: a media type as the document has it.
-/
import Derived.Test.YtmgadjnllahbiaaDoorALk
import Derived.Test.YtmgadjnllahbiaaDoorRPrm2
import Derived.Maps.AppendAt
set_option linter.unusedVariables false
set_option linter.unusedSimpArgs false
namespace Go.Proofs.YtmgadjnllahbiaaDoor
open Go.RowKit Go.Shelf
namespace Ac
open Oc Tg

theorem heap_keep {W : World} {b : Nat} {o o' : Obj} (h : W.heap[b]? = some o) : (W.alloc o').heap[b]? = some o := by
  have hlt : b < W.heap.size := (Array.getElem?_eq_some_iff.1 h).1
  show (W.heap.push o')[b]? = _
  rw [Array.getElem?_push_lt hlt]
  rw [Array.getElem?_eq_getElem hlt] at h
  exact h
theorem heap_newAt (W : World) (o : Obj) (n : Nat) (h : W.heap.size = n) : (W.alloc o).heap[n]? = some o := by
  subst h
  exact heap_alloc_new W o
theorem take_nthM (t : List Prm) (k : Nat) (h : k < t.length) : t.take (k + 1) = t.take k ++ [nth t k] := by
  unfold nth
  rw [List.take_add_one, List.getElem?_eq_getElem h, List.getD_eq_getElem?_getD, List.getElem?_eq_getElem h]; rfl
/-- A parameter appended to a slice of the call's own; every block but the slice's own stays. -/
theorem wp_appP2 {ops : Array Oper} {rest : List Oper} {o : Oper} {a : Act} {Q : Exit → Act → World → Prop} (T S : Nat) (hinfo : (Tryd.prog.info? T).map (fun i => (i.zero, i.size, i.bytes)) = some (some (.agg #[.string ⟨#[]⟩, .string ⟨#[]⟩, .bool false]), 3, 40))
    (hund : Tryd.prog.underlying S = some (.slice T)) (hgd : o.guard = none) (s x : Operand)
    (ho : o.op = .call { callee := .builtin .append, args := #[s, x], argTypes := #[S, S] }) (B : Nat) (v : Value) (t : List Prm) (W : World) (p : Prm) (n1 n2 : ByteArray) (h1 : n1 = str p.1) (h2 : n2 = str p.2.1) (b : Bool) (h3 : b = p.2.2)
    (hs : a.eval s = v) (hown : OwnP T B v t W) (g : Nat) (hx : a.eval x = .slice (some ⟨g, 0, none⟩) 1 1) (hg : g = W.heap.size) (hlen : t.length + 1 ≤ 2147483648) (hB : B ≤ W.heap.size)
    (h : ∀ v' w', OwnP T B v' (t ++ [p]) w' → Below B W w' → (∀ k, k < W.heap.size → v.ownBlock ≠ some k → w'.heap[k]? = W.heap[k]?) → wpList Tryd.prog ops Q rest (a.put o.dst v') w') : wpList Tryd.prog ops Q (o :: rest) a (W.alloc (.cells #[.string n1, .string n2, .bool b] T)) := by
  subst h1 h2 h3 hg
  obtain ⟨i0, hi, hz0, hz1, hz2⟩ := info_parts hinfo
  refine wpList_append_own_at _ hgd s x S ho B T i0 (.agg #[.string ⟨#[]⟩, .string ⟨#[]⟩, .bool false]) 3 40 hund hi hz0 hz1 hz2 rfl (by decide) v t.length _ hs (World.ownsRow.alloc hown _) ⟨W.heap.size, 0, none⟩ 1 1 (enc1 p) hx rfl ?_ ?_ ?_ ?_ ?_ ?_
  · intro j u hj
    unfold enc1 at hj
    match j, hj with
    | 0, hj => simp at hj; subst hj; simp [Addr.add]
    | 1, hj => simp at hj; subst hj; simp [Addr.add]
    | 2, hj => simp at hj; subst hj; simp [Addr.add]
  · intro u hu
    unfold enc1 at hu
    simp at hu
    rcases hu with rfl | rfl | rfl <;> rfl
  · unfold maxLen; omega
  · omega
  · simp; omega
  · intro v' w' h1 h2 _ h4
    refine h v' w' ?_ (((Below.refl B W).alloc hB _).grown h2 (by simp; omega) (fun k hk => (World.ownsRow.lt hown k hk).1)) (fun k hk hne => (h2.block k (by simp; omega) (fun e => hne e.symm)).trans (Lib.alloc_old W _ k hk))
    unfold OwnP
    rw [encP_snoc, List.length_append]
    exact h1
/-- The row's block is none that holds cells of another type. -/
theorem OwnP.notBlk {T B : Nat} {v : Value} {t : List Prm} {w : World} (h : OwnP T B v t w) {k : Nat} {cs : Array Value} {T' : TypeId} {fz : Nat × Nat} (hk : w.heap[k]? = some (.cells cs T' fz)) (hT : T' ≠ T) : v.ownBlock ≠ some k := by
  intro e
  rcases h.2 with ⟨rfl, _⟩ | ⟨g, cap, cur, rfl, _, hg, _⟩
  · cases e
  · have : g = k := by simpa [Value.ownBlock] using e
    subst this
    rw [hk] at hg
    injection hg with hg
    injection hg with _ h2 _
    exact hT h2

theorem OwnP.setOther {T B p j : Nat} {v : Value} {t : List Prm} {w : World} (h : OwnP T B v t w) (hne : v.ownBlock ≠ some p) (u : Value) : OwnP T B v t (w.setCell ⟨p, j, none⟩ u) := by
  refine ⟨h.1, ?_⟩
  rcases h.2 with hn | ⟨g, cap, cur, rfl, hb, hg, rest⟩
  · exact .inl hn
  · refine .inr ⟨g, cap, cur, rfl, hb, ?_, rest⟩
    rw [heap_setCell_other w ⟨p, j, none⟩ g u (fun e => hne (by simpa [Value.ownBlock] using e))]
    exact hg

set_option maxRecDepth 100000 in
set_option maxHeartbeats 4000000 in
theorem media_any (A B : ByteArray) (v : Value) (ps : List Prm) (hl : ps.length ≤ 16777216) (w : World) (hrd : RdP v ps w) :
    Calls Tryd.prog 4 #[.agg #[.string A, .string B, v]] w fun e w' => ∃ u, e = .returned (.agg #[.string A, .string B, u]) ∧ OwnP 41 w.heap.size u ps w' ∧ Below w.heap.size w w' := by
  have HR : Hid (RdP v ps w) := hrd
  obtain ⟨va, vc, rfl, _⟩ := hrd
  obtain ⟨w1, hw1⟩ : ∃ w1, w1 = (((w.alloc (.cells #[.string A, .string B, .slice va ps.length vc] 24)).alloc (.cells #[.string ⟨#[]⟩, .string ⟨#[]⟩, .slice none 0 0] 27)).alloc (.cells #[] 41)).alloc (.cells #[.string A, .string B, .slice (some ⟨w.heap.size + 1 + 1, 0, none⟩) 0 0] 27) := ⟨_, rfl⟩
  have hb1 : Below w.heap.size w w1 := by rw [hw1]; exact ((((Below.refl _ w).alloc (Nat.le_refl _) _).alloc (by simp) _).alloc (by simp; omega) _).alloc (by simp; omega) _
  have hz1 : w1.heap.size = w.heap.size + 4 := by rw [hw1]; simp
  have B0 : Hid (w1.heap[w.heap.size]? = some (.cells #[.string A, .string B, .slice va ps.length vc] 24 (0, 0))) := by
    show _ = _; rw [hw1]; exact heap_keep (heap_keep (heap_keep (heap_alloc_new w _)))
  have B1 : Hid (w1.heap[w.heap.size + 1]? = some (.cells #[.string ⟨#[]⟩, .string ⟨#[]⟩, .slice none 0 0] 27 (0, 0))) := by
    show _ = _; rw [hw1]; exact heap_keep (heap_keep (heap_newAt _ _ _ (by simp)))
  have B2 : Hid (w1.heap[w.heap.size + 1 + 1]? = some (.cells #[] 41 (0, 0))) := by
    show _ = _; rw [hw1]; exact heap_keep (heap_newAt _ _ _ (by simp))
  have B3 : Hid (w1.heap[w.heap.size + 1 + 1 + 1]? = some (.cells #[.string A, .string B, .slice (some ⟨w.heap.size + 1 + 1, 0, none⟩) 0 0] 27 (0, 0))) := by
    show _ = _; rw [hw1]; exact heap_newAt _ _ _ (by simp)
  have O0 : Hid (OwnP 41 (w.heap.size + 1 + 1) (.slice (some ⟨w.heap.size + 1 + 1, 0, none⟩) 0 0) [] w1) := (⟨by simp [encP], .inr ⟨w.heap.size + 1 + 1, 0, #[], rfl, Nat.le_refl _, B2.out, by simp, by decide, by simp, by simp [encP]⟩⟩ : OwnP _ _ _ _ _)
  have HB1 : Hid (Below w.heap.size w w1) := hb1
  clear hb1
  go_enter Tryd.func4, Tryd.ntmps4
  go_wp2
  rw [← hw1]
  clear hw1
  go_loopw [4] (fun iv wr => ∃ (k : Nat) (uv : Value), k ≤ ps.length ∧ iv = .int .i64 k ∧ Hid (wr.heap[w.heap.size]? = some (.cells #[.string A, .string B, .slice va ps.length vc] 24 (0, 0))) ∧ Hid (wr.heap[w.heap.size + 1]? = some (.cells #[.string ⟨#[]⟩, .string ⟨#[]⟩, .slice none 0 0] 27 (0, 0))) ∧ Hid (wr.heap[w.heap.size + 1 + 1 + 1]? = some (.cells #[.string A, .string B, uv] 27 (0, 0))) ∧ Hid (OwnP 41 (w.heap.size + 1 + 1) uv (ps.take k) wr) ∧ Hid (Below w.heap.size w wr) ∧ Hid (w.heap.size + 4 ≤ wr.heap.size)) (fun iv _ => ps.length - (intOf iv).toNat)
  case atStart => exact ⟨0, _, Nat.zero_le _, rfl, B0, B1, B3, O0, HB1, (by omega : w.heap.size + 4 ≤ w1.heap.size)⟩
  case round =>
    obtain ⟨k, uv, hk, rfl, hB0, hB1, hB3, hown, hbl, hsz⟩ := hrel
    obtain ⟨ua, uc, rfl, _⟩ := OwnP.rd hown.out
    have hlkk : (ps.take k).length = k := by rw [List.length_take]; omega
    rw [hlkk] at hB3 hown
    have c2 := Lib.cell_of_heap hB0.out 2
    have d0 := Lib.cell_of_heap hB3.out 0
    have d1 := Lib.cell_of_heap hB3.out 1
    have d2 := Lib.cell_of_heap hB3.out 2
    have fd2 := Lib.frozen_of_heap hB3.out 2
    simp at c2 d0 d1 d2
    by_cases hlt : k < ps.length
    · obtain ⟨a', c', e', hcs⟩ := HR.out.below hbl.out
      injection e' with e1 _ e2
      subst e1 e2
      rcases hcs with h | ⟨g, o, rfl, hlc, hcell⟩
      · rw [h] at hlt; simp at hlt
      obtain ⟨p0, p1, p2⟩ := hcell k hlt
      clear hcell
      have HTk : Hid (ps.take (k + 1) = ps.take k ++ [nth ps k]) := take_nthM ps k hlt
      have hlk : (ps.take k).length + 1 ≤ 2147483648 := by rw [List.length_take]; omega
      generalize nth ps k = p at *
      obtain ⟨pn, pv, pb⟩ := p
      dsimp only at p0 p1 p2
      generalize hn : str pn = n at p0
      generalize hv : str pv = vv at p1
      have HNe : Hid (n = str pn) := hn.symm
      have HVe : Hid (vv = str pv) := hv.symm
      clear hn hv
      obtain ⟨w5, hw5⟩ : ∃ w5, w5 = wr.alloc (.cells #[.string n, .string vv, .bool pb] 40) := ⟨_, rfl⟩
      have E0 : Hid (w5.heap[w.heap.size]? = some (.cells #[.string A, .string B, .slice (some ⟨g, o, none⟩) ps.length vc] 24 (0, 0))) := by show _ = _; rw [hw5]; exact heap_keep hB0.out
      have E1 : Hid (w5.heap[w.heap.size + 1]? = some (.cells #[.string ⟨#[]⟩, .string ⟨#[]⟩, .slice none 0 0] 27 (0, 0))) := by show _ = _; rw [hw5]; exact heap_keep hB1.out
      have E3 : Hid (w5.heap[w.heap.size + 1 + 1 + 1]? = some (.cells #[.string A, .string B, .slice ua k uc] 27 (0, 0))) := by show _ = _; rw [hw5]; exact heap_keep hB3.out
      have O5 : Hid (OwnP 41 (w.heap.size + 1 + 1) (.slice ua k uc) (ps.take k) w5) := by show OwnP _ _ _ _ _; rw [hw5]; exact World.ownsRow.alloc hown.out _
      have HB5 : Hid (Below w.heap.size w w5) := by show Below _ _ _; rw [hw5]; exact hbl.out.alloc hbl.out.size _
      have hz5 : Hid (w.heap.size + 5 ≤ w5.heap.size) := by show _ ≤ _; rw [hw5]; have := hsz.out; simp; omega
      have hB5 : w.heap.size + 1 + 1 ≤ w5.heap.size := by have := hz5.out; omega
      have x0 := Lib.cell_of_heap E3.out 0
      have x1 := Lib.cell_of_heap E3.out 1
      have x2 := Lib.cell_of_heap E3.out 2
      simp only [List.getElem?_toArray, List.getElem?_cons_succ, List.getElem?_cons_zero] at x0 x1 x2
      clear c2 d0 d1 d2 fd2
      have c2 := Lib.cell_of_heap hB0.out 2
      simp at c2
      subst hw5
      go_wp2_with (at_builtin; go_must (refine wp_appP2 41 25 infoP2 Tryd.underlying25 rfl (.tmp 25) (.tmp 33) rfl (w.heap.size + 1 + 1) (.slice ua k uc) (ps.take k) _ (pn, pv, pb) _ _ HNe.out HVe.out _ rfl rfl O5.out _ (by simp [Act.eval, Act.put]) rfl hlk hB5 ?_; intro v7 w7 hown7 hb7 hkeep; have K0 : Hid (w7.heap[w.heap.size]? = some (.cells #[.string A, .string B, .slice (some ⟨g, o, none⟩) ps.length vc] 24 (0, 0))) := (hkeep _ (by have := hz5.out; omega) (OwnP.notBlk O5.out E0.out (by decide))).trans E0.out; have K1 : Hid (w7.heap[w.heap.size + 1]? = some (.cells #[.string ⟨#[]⟩, .string ⟨#[]⟩, .slice none 0 0] 27 (0, 0))) := (hkeep _ (by have := hz5.out; omega) (OwnP.notBlk O5.out E1.out (by decide))).trans E1.out; have K3 : Hid (w7.heap[w.heap.size + 1 + 1 + 1]? = some (.cells #[.string A, .string B, .slice ua k uc] 27 (0, 0))) := (hkeep _ (by have := hz5.out; omega) (OwnP.notBlk O5.out E3.out (by decide))).trans E3.out; have HO7 : Hid (OwnP 41 (w.heap.size + 1 + 1) v7 (ps.take (k + 1)) w7) := (by rw [HTk.out]; exact hown7 : OwnP _ _ _ _ _); have HB7 : Hid (Below w.heap.size w w7) := HB5.out.trans (hb7.mono (by omega)); have hz7 : Hid (w.heap.size + 1 + 1 + 1 < w7.heap.size) := (by have := hz5.out; have := hb7.size; omega : w.heap.size + 1 + 1 + 1 < w7.heap.size); obtain ⟨u7, c7, rfl, _⟩ := OwnP.rd HO7.out; have y2 := Lib.cell_of_heap K3.out 2; have fy2 := Lib.frozen_of_heap K3.out 2; simp only [List.getElem?_toArray, List.getElem?_cons_succ, List.getElem?_cons_zero] at y2; clear hown7 hb7 hkeep))
      go_roundw
      case rel =>
        have HO8 := HO7.out
        rw [List.length_take] at HO8
        refine ⟨k + 1, .slice u7 (min (k + 1) ps.length) c7, by omega, by go_num, ?_, ?_, ?_, ?_, ?_, ?_⟩
        · exact (heap_setCell_other w7 ⟨w.heap.size + 1 + 1 + 1, 2, none⟩ _ _ (by simp; omega)).trans K0.out
        · exact (heap_setCell_other w7 ⟨w.heap.size + 1 + 1 + 1, 2, none⟩ _ _ (by simp)).trans K1.out
        · exact heap_setCell_same w7 _ 2 _ _ _ K3.out
        · exact OwnP.setOther HO8 (OwnP.notBlk HO8 K3.out (by decide)) _
        · exact HB7.out.setCell (by simp; omega) _
        · exact Nat.le_trans (Nat.succ_le_of_lt hz7.out) (by simp)
      case measure => simp [intOf]; omega
    · obtain rfl : k = ps.length := by omega
      rw [List.take_length] at hown
      have e1a := Lib.cell_of_heap hB1.out 0
      have e1b := Lib.cell_of_heap hB1.out 1
      have e1c := Lib.cell_of_heap hB1.out 2
      have f1a := Lib.frozen_of_heap hB1.out 0
      have f1b := Lib.frozen_of_heap hB1.out 1
      have f1c := Lib.frozen_of_heap hB1.out 2
      simp at e1a e1b e1c
      go_wp2
      refine bodyPost_ret (v := .agg #[.string A, .string B, .slice ua ps.length uc]) (by simp [results, Tryd.results4, go_sem, e1a, e1b, e1c]) rfl ?_
      refine ⟨_, rfl, ?_, (Below.setCell (p := ⟨w.heap.size + 1, 2, none⟩) (Below.setCell (p := ⟨w.heap.size + 1, 1, none⟩) (Below.setCell (p := ⟨w.heap.size + 1, 0, none⟩) hbl.out (by simp) _) (by simp) _) (by simp) _)⟩
      exact OwnP.mono (OwnP.setBelow (a := ⟨w.heap.size + 1, 2, none⟩) (OwnP.setBelow (a := ⟨w.heap.size + 1, 1, none⟩) (OwnP.setBelow (a := ⟨w.heap.size + 1, 0, none⟩) hown.out (by simp) _) (by simp) _) (by simp) _) (by omega)

end Ac
end Go.Proofs.YtmgadjnllahbiaaDoor
