/-
  slices.Insert of one field into a row of the call's own: in the midst, where there is no room; all ways in one.
-/
import Derived.Test.YtggmidkmpgjnoaaDoorFIm
import Derived.Laws.NewBlocks
set_option linter.unusedVariables false
set_option linter.unusedSimpArgs false
namespace Go.Proofs.YtggmidkmpgjnoaaDoor
open Go.RowKit Go.Shelf Go.Lib
namespace Fd
open Oc Tg

theorem zc_len (k : Nat) : (Builtin.zeroCells (Value.agg #[.string ⟨#[]⟩, .string ⟨#[]⟩]).cells k).size = k * 2 := by rw [size_zeroCells]; rfl

set_option maxRecDepth 100000 in
set_option maxHeartbeats 4000000 in
/-- There is no room. -/
theorem Insert_grow (B : Nat) (t : List Fl) (i : Nat) (hi : i < t.length) (f : Fl) (vb g cap : Nat) (cur : Array Value) (w : World) (hb : B ≤ g) (hg : w.heap[g]? = some (.cells cur 46 (0, 0))) (hc : t.length ≤ cap) (hc' : cap < t.length + 1) (hs : cur.size = cap * 2) (ht : cur.toList.take (t.length * 2) = encF t)
    (hvb : w.heap[vb]? = some (.cells #[.string (str f.1), .string (str f.2)] 46 (0, 0))) (hne : vb ≠ g) (hB : B ≤ w.heap.size) (hl : t.length ≤ 16777216) :
    Calls Tryd.prog 30 #[.slice (some ⟨g, 0, none⟩) t.length cap, .int .i64 (i : Nat), .slice (some ⟨vb, 0, none⟩) 1 1] w fun e w' => ∃ u, e = .returned u ∧ OwnF 46 B u (t.take i ++ f :: t.drop i) w' ∧ Below B w w' := by
  have hadd : ∀ (b o j : Nat), Addr.add ⟨b, o, none⟩ j = ⟨b, o + j, none⟩ := fun b o j => by unfold Addr.add; split <;> simp_all
  have hcell : ∀ k u, (encF t)[k]? = some u → w.cell? ⟨g, k, none⟩ = some u := fun k u hk => by
    rw [Lib.cell_of_heap hg]
    rw [← ht, List.getElem?_take] at hk
    split at hk
    · simpa using hk
    · cases hk
  have hgw : g < w.heap.size := (Array.getElem?_eq_some_iff.1 hg).1
  have hvw : vb < w.heap.size := (Array.getElem?_eq_some_iff.1 hvb).1
  have hdl : (encF (t.drop i)).length = (t.length - i) * 2 := by rw [encF_len, List.length_drop]
  have htl : (encF (t.take i)).length = i * 2 := by rw [encF_len, List.length_take]; omega
  obtain ⟨i0, hi0, hz0, hz1, hz2⟩ := info_parts infoF
  have hold : (Builtin.firstCells i0.size i (.slice (some ⟨g, 0, none⟩) i cap)).run Tryd.prog w.drew = .ok (encF (t.take i)).toArray w.drew := by
    rw [hz1]
    exact run_firstCells_some (w := w.drew) 2 i ⟨g, 0, none⟩ i cap (encF (t.take i)) htl (fun j u hj => by
      rw [hadd, Nat.zero_add]
      refine hcell j u ?_
      rw [← encF_take t i (by omega), List.getElem?_take] at hj
      split at hj
      · exact hj
      · cases hj)
  have hkk : (t.length : Int) + 1 - (i : Int) = ((t.length + 1 - i : Nat) : Int) := by omega
  have hik : i + (t.length + 1 - i) = t.length + 1 := by omega
  have hbig : (t.length + 1) * 32 ≤ 140737488355328 := by omega
  have hrz : ∀ ty, (Builtin.append_ #[22, 3] ty #[.slice (some ⟨g, 0, none⟩) i cap, .int .i64 ((t.length : Int) + 1 - (i : Int))]).run Tryd.prog w =
      .ok (.slice (some ⟨w.heap.size, 0, none⟩) (t.length + 1) (grownCap w (t.length + 1) cap 46)) (w.drew.alloc (.cells ((encF (t.take i)).toArray ++ Builtin.zeroCells (Value.agg #[.string ⟨#[]⟩, .string ⟨#[]⟩]).cells (t.length + 1 - i) ++ Builtin.zeroCells (Value.agg #[.string ⟨#[]⟩, .string ⟨#[]⟩]).cells (grownCap w (t.length + 1) cap 46 - (t.length + 1))) 46)) := fun ty => by
    have h := Lib.run_append_grow_zeros w 22 3 ty 46 i0 _ .i64 .i64 Tryd.underlying22 Tryd.underlying3 hi0 hz0 (some ⟨g, 0, none⟩) i cap (encF (t.take i)) hold (t.length + 1 - i) (by omega) (by omega) (by omega) (by omega) (by rw [hz2]; omega) (by rw [hz2, hik]; exact growslice_fits (by omega) hbig)
    rw [hik] at h
    rw [hkk]
    exact h
  obtain ⟨G, hG⟩ : ∃ G, G = grownCap w (t.length + 1) cap 46 := ⟨_, rfl⟩
  have hGn : t.length + 1 ≤ G := by rw [hG]; exact grownCap_ge w _ _ _
  have hGm : G ≤ maxLen := by rw [hG]; exact grownCap_le_maxLen w (t.length + 1) cap 46 (by unfold maxLen; omega)
  rw [← hG] at hrz
  obtain ⟨ROW, hROW⟩ : ∃ ROW : Array Value, ROW = (encF (t.take i)).toArray ++ Builtin.zeroCells (Value.agg #[.string ⟨#[]⟩, .string ⟨#[]⟩]).cells (t.length + 1 - i) ++ Builtin.zeroCells (Value.agg #[.string ⟨#[]⟩, .string ⟨#[]⟩]).cells (G - (t.length + 1)) := ⟨_, rfl⟩
  rw [← hROW] at hrz
  have hRs : ROW.size = G * 2 := by
    rw [hROW, Array.size_append, Array.size_append, zc_len, zc_len]
    simp only [List.size_toArray, htl]
    omega
  have hRl : ROW.toList.length = G * 2 := by simpa using hRs
  have hRt : ROW.toList.take (i * 2) = encF (t.take i) := by
    rw [hROW]
    simp only [Array.toList_append, List.append_assoc]
    rw [List.take_left' (by simpa using htl)]
  obtain ⟨A1, hA1⟩ : ∃ A1 : Array Value, A1 = (ROW.toList.take (i * 2) ++ encF1 f ++ ROW.toList.drop (i * 2 + (encF1 f).length)).toArray := ⟨_, rfl⟩
  have hA1s : A1.size = G * 2 := by
    rw [hA1]
    simp only [List.size_toArray, List.length_append, List.length_take, List.length_drop, hRl, show (encF1 f).length = 2 from rfl]
    omega
  have hA1l : A1.toList.length = G * 2 := by simpa using hA1s
  have hA1t : A1.toList.take ((i + 1) * 2) = encF (t.take i) ++ encF1 f := by
    rw [hA1, hRt]
    show ((encF (t.take i) ++ encF1 f ++ _) : List Value).take _ = _
    rw [List.take_left' (by simp only [List.length_append, htl, show (encF1 f).length = 2 from rfl]; omega)]
  obtain ⟨A2, hA2⟩ : ∃ A2 : Array Value, A2 = (A1.toList.take ((i + 1) * 2) ++ encF (t.drop i) ++ A1.toList.drop ((i + 1) * 2 + (encF (t.drop i)).length)).toArray := ⟨_, rfl⟩
  have hA2s : A2.size = G * 2 := by
    rw [hA2]
    simp only [List.size_toArray, List.length_append, List.length_take, List.length_drop, hA1l, hdl]
    omega
  have hA2t : A2.toList.take ((t.length + 1) * 2) = encF (t.take i ++ f :: t.drop i) := by
    have e1 : encF (t.take i ++ f :: t.drop i) = encF (t.take i) ++ encF1 f ++ encF (t.drop i) := by rw [encF_app]; show _ ++ (encF1 f ++ encF (t.drop i)) = _; rw [List.append_assoc]
    rw [hA2, hA1t, e1]
    show ((encF (t.take i) ++ encF1 f ++ encF (t.drop i) ++ _) : List Value).take _ = _
    rw [List.take_left' (by simp only [List.length_append, htl, hdl, show (encF1 f).length = 2 from rfl]; omega)]
  -- the worlds
  have hN : ∀ W : World, W.heap = (w.alloc (.cells ROW 46)).heap → W.heap[w.heap.size]? = some (.cells ROW 46 (0, 0)) ∧ W.heap[vb]? = some (.cells #[.string (str f.1), .string (str f.2)] 46 (0, 0)) ∧ W.heap[g]? = some (.cells cur 46 (0, 0)) := fun W hW => by
    rw [hW]
    exact ⟨heap_alloc_new w _, (Lib.alloc_old w _ vb hvw).trans hvb, (Lib.alloc_old w _ g hgw).trans hg⟩
  have hcpA : ∀ (W : World), W.heap = (w.alloc (.cells ROW 46)).heap → ∀ ty dc, (Builtin.copy_ #[22, 22] ty #[.slice (some ⟨w.heap.size, i * 2, none⟩) (t.length + 1 - i) dc, .slice (some ⟨vb, 0, none⟩) 1 1]).run Tryd.prog W = .ok (goInt 1) (W.setRow w.heap.size A1) := fun W hW ty dc => by
    obtain ⟨h1, h2, h3⟩ := hN W hW
    rw [hA1]
    exact run_copyF W ty w.heap.size (i * 2) (t.length + 1 - i) dc ⟨vb, 0, none⟩ 1 1 1 ROW (encF1 f) h1 (by simp only [Nat.min_def]; split <;> omega) rfl
      (fun j u hj => by
        rw [hadd, Lib.cell_of_heap h2, Nat.zero_add]
        unfold encF1 at hj
        match j, hj with
        | 0, hj => simpa using hj
        | 1, hj => simpa using hj) (by rw [hRs, show (encF1 f).length = 2 from rfl]; omega) (by intro u hu; unfold encF1 at hu; simp at hu; rcases hu with rfl | rfl <;> rfl)
  have hgne : g ≠ w.heap.size := by omega
  have hcpB : ∀ (W0 W : World), W0.heap = (w.alloc (.cells ROW 46)).heap → W.heap = (W0.setRow w.heap.size A1).heap → ∀ ty dc sc, (Builtin.copy_ #[22, 22] ty #[.slice (some ⟨w.heap.size, (i + 1) * 2, none⟩) (t.length - i) dc, .slice (some ⟨g, i * 2, none⟩) (t.length - i) sc]).run Tryd.prog W = .ok (goInt ((t.length - i : Nat) : Int)) (W.setRow w.heap.size A2) := fun W0 W hW0 hW ty dc sc => by
    obtain ⟨h1, h2, h3⟩ := hN W0 hW0
    rw [hA2]
    exact run_copyF W ty w.heap.size ((i + 1) * 2) (t.length - i) dc ⟨g, i * 2, none⟩ (t.length - i) sc (t.length - i) A1 (encF (t.drop i)) (by rw [hW]; exact setRow_heap W0 w.heap.size ROW A1 46 _ h1) (by simp only [Nat.min_def]; split <;> omega) hdl
      (fun j u hj => by
        rw [hadd, Lib.cell_of_heap (cs := cur) (by rw [hW, setRow_other W0 w.heap.size g _ hgne]; exact h3), ← Lib.cell_of_heap hg]
        refine hcell _ u ?_
        rw [← encF_drop t i (by omega), List.getElem?_drop] at hj
        exact hj) (by rw [hdl, hA1s]; omega) (encF_one _)
  have HRes : Hid (∀ W0 W : World, W0.heap = (w.alloc (.cells ROW 46)).heap → W.heap = (W0.setRow w.heap.size A1).heap → OwnF 46 B (.slice (some ⟨w.heap.size, 0, none⟩) (t.length + 1) G) (t.take i ++ f :: t.drop i) (W.setRow w.heap.size A2)) := fun W0 W hW0 hW =>
    own_set (cur := A1) hB (by rw [hW]; exact setRow_heap W0 w.heap.size ROW A1 46 _ (hN W0 hW0).1) A2 _ hA2s (by simp; omega) hGn hGm hA2t
  have HBl : Hid (∀ W0 W : World, Below B w W0 → W0.heap = (w.alloc (.cells ROW 46)).heap → W.heap = (W0.setRow w.heap.size A1).heap → W.os = w.os → W.tape = w.tape → W.output = w.output → Below B w (W.setRow w.heap.size A2)) := fun W0 W hb0 hW0 hW h1 h2 h3 => ⟨h1, h2, h3, by simp [World.setRow, hW, hW0], fun k hk => by
    have hkg : k ≠ w.heap.size := by omega
    rw [setRow_other _ _ k _ hkg, hW, setRow_other _ _ k _ hkg, hW0]
    exact Lib.alloc_old w _ k (by omega)⟩
  have hz2' : ¬ ((i : Int) = (t.length : Int)) := by omega
  have hz3 : (cap : Int) < (t.length : Int) + 1 := by omega
  have hw1 : IntKind.i64.wrap ((i : Int) + 1) = (i : Int) + 1 := by rw [IntKind.wrap_i64]; omega
  have hb1 : (0 : Int) ≤ (i : Int) + 1 := by omega
  have hin : i ≤ t.length := by omega
  have htn : ((i : Int) + 1).toNat = i + 1 := by omega
  have hb3 : (i : Int) ≤ (t.length : Int) := by omega
  have hGi : ¬ (G = i) := by omega
  have hGim : ¬ (G = i + 1) := by omega
  have hci : ¬ (cap = i) := by omega
  have hG63 : G ≤ 9223372036854775807 := by unfold maxLen at hGm; omega
  have hE : ((w.alloc (.cells ROW 46)).drew).heap = (w.alloc (.cells ROW 46)).heap := rfl
  have hF : (((w.alloc (.cells ROW 46)).drew.setRow w.heap.size A1).drew).heap = ((w.alloc (.cells ROW 46)).setRow w.heap.size A1).heap := rfl
  clear hA1 hA2 hA2t hA1s hA2s hA1l hA1t hRt hRl hRs hROW hG hold hkk hik hcell hdl htl hs ht hN hGm
  go_enter Tryd.func30, Tryd.ntmps30
  go_wp2_with (first
    | (at_builtin; refine Lib.wpList_append_run _ rfl _ _ _ _ rfl _ _ rfl rfl _ _ (hrz _) ?_)
    | (at_builtin; refine wpList_copy_at _ rfl _ _ 22 22 rfl _ _ rfl rfl (hcpA _ hE _ _) ?_))
  go_region_law (refine step_copy_at rfl _ _ 22 22 rfl (.slice (some ⟨w.heap.size, (i + 1) * 2, none⟩) (t.length - i) (G - (i + 1))) (.slice (some ⟨g, i * 2, none⟩) (t.length - i) (cap - i)) (by simp [Act.eval, Act.put]) (by simp [Act.eval, Act.put]) (hcpB (w.alloc (.cells ROW 46)) _ rfl hF 3 (G - (i + 1)) (cap - i)) ?_)
  go_wp2
  go_ret
  exact ⟨_, rfl, HRes.out (w.alloc (.cells ROW 46)) _ rfl (by rfl), HBl.out (w.alloc (.cells ROW 46)) _ ((Below.refl B w).alloc hB _) rfl (by rfl) (by rfl) (by rfl) (by rfl)⟩

/-- All ways. -/
theorem Insert_any (B : Nat) (v : Value) (t : List Fl) (i : Nat) (hi : i ≤ t.length) (f : Fl) (vb : Nat) (w : World) (hown : OwnF 46 B v t w) (hvb : w.heap[vb]? = some (.cells #[.string (str f.1), .string (str f.2)] 46 (0, 0))) (hne : v.ownBlock ≠ some vb) (hB : B ≤ w.heap.size) (hl : t.length ≤ 16777216) :
    Calls Tryd.prog 30 #[v, .int .i64 (i : Nat), .slice (some ⟨vb, 0, none⟩) 1 1] w fun e w' => ∃ u, e = .returned u ∧ OwnF 46 B u (t.take i ++ f :: t.drop i) w' ∧ Below B w w' := by
  by_cases h : i = t.length
  · subst h
    rw [List.take_length, List.drop_length]
    exact Insert_end B v t f vb w hown hvb hB hl
  · rcases hown.2 with ⟨_, h0⟩ | ⟨g, cap, cur, rfl, hb, hg, hc, hm, hs, ht⟩
    · omega
    · have hne' : vb ≠ g := fun e => hne (by rw [e]; rfl)
      by_cases hroom : t.length + 1 ≤ cap
      · exact Insert_shift B t i (by omega) f vb g cap cur w hb hg hroom hm hs ht hvb hne' hB hl
      · exact Insert_grow B t i (by omega) f vb g cap cur w hb hg (by omega) (by omega) hs ht hvb hne' hB hl

end Fd
end Go.Proofs.YtggmidkmpgjnoaaDoor
