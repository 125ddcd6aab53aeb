/-
  slices.Insert of one field into a row of the call's own: in the midst.
-/
import Derived.Test.YtggmidkmpgjnoaaDoorFIn
set_option linter.unusedVariables false
set_option linter.unusedSimpArgs false
namespace Go.Proofs.YtggmidkmpgjnoaaDoor
open Go.RowKit Go.Shelf Go.Lib
namespace Fd
open Oc Tg

theorem sizeF (w : World) : (Go.sizeOf 46).run Tryd.prog w = .ok 2 w := by
  obtain ⟨i0, hi, hz0, hz1, hz2⟩ := info_parts infoF
  simp [Go.sizeOf, typeInfo, hi, hz1]

set_option maxRecDepth 100000 in
set_option maxHeartbeats 4000000 in
/-- There is room. -/
theorem Insert_shift (B : Nat) (t : List Fl) (i : Nat) (hi : i < t.length) (f : Fl) (vb g cap : Nat) (cur : Array Value) (w : World) (hb : B ≤ g) (hg : w.heap[g]? = some (.cells cur 46 (0, 0))) (hc : t.length + 1 ≤ cap) (hm : cap ≤ maxLen) (hs : cur.size = cap * 2) (ht : cur.toList.take (t.length * 2) = encF t)
    (hvb : w.heap[vb]? = some (.cells #[.string (str f.1), .string (str f.2)] 46 (0, 0))) (hne : vb ≠ g) (hB : B ≤ w.heap.size) (hl : t.length ≤ 16777216) :
    Calls Tryd.prog 30 #[.slice (some ⟨g, 0, none⟩) t.length cap, .int .i64 (i : Nat), .slice (some ⟨vb, 0, none⟩) 1 1] w fun e w' => ∃ u, e = .returned u ∧ OwnF 46 B u (t.take i ++ f :: t.drop i) w' ∧ Below B w w' := by
  have hadd : ∀ (b o j : Nat), Addr.add ⟨b, o, none⟩ j = ⟨b, o + j, none⟩ := fun b o j => by unfold Addr.add; split <;> simp_all
  have hcurl : cur.toList.length = cap * 2 := by simpa using hs
  have hcell : ∀ k u, (encF t)[k]? = some u → w.cell? ⟨g, k, none⟩ = some u := fun k u hk => by
    rw [Lib.cell_of_heap hg]
    rw [← ht, List.getElem?_take] at hk
    split at hk
    · simpa using hk
    · cases hk
  have hdl : (encF (t.drop i)).length = (t.length - i) * 2 := by rw [encF_len, List.length_drop]
  -- the first copy
  obtain ⟨A1, hA1⟩ : ∃ A1 : Array Value, A1 = (cur.toList.take ((i + 1) * 2) ++ encF (t.drop i) ++ cur.toList.drop ((i + 1) * 2 + (encF (t.drop i)).length)).toArray := ⟨_, rfl⟩
  have hA1s : A1.size = cap * 2 := by
    rw [hA1]
    simp only [List.size_toArray, List.length_append, List.length_take, List.length_drop, hdl, hcurl]
    omega
  have hcp1 : ∀ ty dc sc, (Builtin.copy_ #[22, 22] ty #[.slice (some ⟨g, (i + 1) * 2, none⟩) (t.length - i) dc, .slice (some ⟨g, i * 2, none⟩) (t.length + 1 - i) sc]).run Tryd.prog w.drew = .ok (goInt ((t.length - i : Nat) : Int)) (w.drew.setRow g A1) := fun ty dc sc => by
    rw [hA1]
    exact run_copyF w.drew ty g ((i + 1) * 2) (t.length - i) dc ⟨g, i * 2, none⟩ (t.length + 1 - i) sc (t.length - i) cur (encF (t.drop i)) hg (by simp only [Nat.min_def]; split <;> omega) hdl
      (fun j u hj => by
        rw [hadd]
        refine hcell _ u ?_
        rw [← encF_drop t i (by omega), List.getElem?_drop] at hj
        exact hj) (by rw [hdl, hs]; omega) (encF_one _)
  -- the second
  obtain ⟨A2, hA2⟩ : ∃ A2 : Array Value, A2 = (A1.toList.take (i * 2) ++ encF1 f ++ A1.toList.drop (i * 2 + (encF1 f).length)).toArray := ⟨_, rfl⟩
  have hA2s : A2.size = cap * 2 := by
    rw [hA2]
    simp only [List.size_toArray, List.length_append, List.length_take, List.length_drop, Array.length_toList, hA1s, show (encF1 f).length = 2 from rfl]
    omega
  have hg1 : (w.drew.setRow g A1).heap[g]? = some (.cells A1 46 (0, 0)) := setRow_heap w.drew g cur A1 46 _ hg
  have hv1 : (w.drew.setRow g A1).heap[vb]? = some (.cells #[.string (str f.1), .string (str f.2)] 46 (0, 0)) := by rw [setRow_other w.drew g vb _ hne]; exact hvb
  have hcp2 : ∀ (W : World), W.heap = (w.drew.setRow g A1).heap → ∀ ty dc, (Builtin.copy_ #[22, 22] ty #[.slice (some ⟨g, i * 2, none⟩) (t.length + 1 - i) dc, .slice (some ⟨vb, 0, none⟩) 1 1]).run Tryd.prog W = .ok (goInt 1) (W.setRow g A2) := fun W hW ty dc => by
    rw [hA2]
    exact run_copyF W ty g (i * 2) (t.length + 1 - i) dc ⟨vb, 0, none⟩ 1 1 1 A1 (encF1 f) (by rw [hW]; exact hg1) (by simp only [Nat.min_def]; split <;> omega) rfl
      (fun j u hj => by
        rw [hadd, Lib.cell_of_heap (by rw [hW]; exact hv1), Nat.zero_add]
        unfold encF1 at hj
        match j, hj with
        | 0, hj => simpa using hj
        | 1, hj => simpa using hj) (by rw [hA1s, show (encF1 f).length = 2 from rfl]; omega) (by intro u hu; unfold encF1 at hu; simp at hu; rcases hu with rfl | rfl <;> rfl)
  have hA2t : A2.toList.take ((t.length + 1) * 2) = encF (t.take i ++ f :: t.drop i) := by
    have e1 : encF (t.take i ++ f :: t.drop i) = encF (t.take i) ++ encF1 f ++ encF (t.drop i) := by rw [encF_app]; show _ ++ (encF1 f ++ encF (t.drop i)) = _; rw [List.append_assoc]
    have hal : (encF (t.take i)).length = i * 2 := by rw [encF_len, List.length_take]; omega
    have h := put_mid cur.toList (encF (t.take i)) (encF1 f) (encF (t.drop i)) [] 0 (by
      rw [hal, ← encF_take t i (by omega), ← ht, List.take_take, Nat.min_eq_left (by omega)]) (by rw [hal, hdl, hcurl, show (encF1 f).length = 2 from rfl]; omega)
    simp only [hal, show (encF1 f).length = 2 from rfl] at h
    have e2 : A2.toList = encF (t.take i) ++ encF1 f ++ encF (t.drop i) ++ cur.toList.drop (i * 2 + 2 + (encF (t.drop i)).length) := by
      rw [hA2, hA1]
      simp only [show (encF1 f).length = 2 from rfl, show (i + 1) * 2 = i * 2 + 2 by omega]
      exact h
    rw [e2, e1, List.take_left' (by simp only [List.length_append, hal, hdl, show (encF1 f).length = 2 from rfl]; omega)]
  have hov : ∀ lb cb, (callFunc 50 #[.slice (some ⟨vb, 0, none⟩) 1 1, .slice (some ⟨g, (i + 1) * 2, none⟩) lb cb]).run Tryd.prog w = .ok (.value (.bool false)) w := fun lb cb => by
    rw [run_callFunc_extern Tryd.func50 (by kernel_rfl) (by kernel_rfl) (by kernel_rfl) (e := Extern.SlicesOverlaps.overlaps #[22, 22] #[4]) (by kernel_rfl),
      Lib.run_overlaps_apart w 22 4 46 Tryd.underlying22 2 sizeF ⟨vb, 0, none⟩ ⟨g, (i + 1) * 2, none⟩ 1 1 lb cb hne 46 46 2 (cap * 2) (by simp [World.shape?, hvb]) (by simp [World.shape?, hg, hs]) (by omega) (Lib.frozen_of_heap hvb 0) (Lib.frozen_of_heap hvb 2)]
    rfl
  have HRes : Hid (∀ W : World, W.heap = (w.drew.setRow g A1).heap → OwnF 46 B (.slice (some ⟨g, 0, none⟩) (t.length + 1) cap) (t.take i ++ f :: t.drop i) (W.setRow g A2)) := fun W hW =>
    own_set (cur := A1) hb (by rw [hW]; exact hg1) A2 _ hA2s (by simp; omega) hc hm hA2t
  have HBl : Hid (Below B w ((w.drew.setRow g A1).setRow g A2)) := ⟨rfl, rfl, rfl, by simp, fun k hk => by
    have hkg : k ≠ g := by omega
    rw [setRow_other _ g k _ hkg, setRow_other _ g k _ hkg]
    rfl⟩
  have hz2 : ¬ ((i : Int) = (t.length : Int)) := by omega
  have hw1 : IntKind.i64.wrap ((i : Int) + 1) = (i : Int) + 1 := by rw [IntKind.wrap_i64]; omega
  have hb1 : (0 : Int) ≤ (i : Int) + 1 := by omega
  have hin : i ≤ t.length := by omega
  have htn : ((i : Int) + 1).toNat = i + 1 := by omega
  have hb2 : ¬ (cap = i + 1) := by omega
  have hb3 : (i : Int) ≤ (t.length : Int) + 1 := by omega
  have hb4 : ¬ (cap = i) := by omega
  have hc63 : cap ≤ 9223372036854775807 := by unfold maxLen at hm; omega
  clear hA1 hA2 hA2t hA1s hA2s hg1 hv1 hcell hdl hcurl hs ht hm
  go_enter Tryd.func30, Tryd.ntmps30
  go_wp2_with (simp only [hov])
  go_region_law (refine step_copy_at rfl _ _ 22 22 rfl _ _ (by simp [Act.eval, Act.put]) (by simp [Act.eval, Act.put]) (hcp1 _ _ _) ?_)
  go_wp2_with (at_builtin; refine wpList_copy_at _ rfl _ _ 22 22 rfl _ _ rfl rfl (hcp2 _ rfl _ _) ?_)
  go_ret
  exact ⟨_, rfl, HRes.out _ rfl, HBl.out⟩

end Fd
end Go.Proofs.YtggmidkmpgjnoaaDoor
