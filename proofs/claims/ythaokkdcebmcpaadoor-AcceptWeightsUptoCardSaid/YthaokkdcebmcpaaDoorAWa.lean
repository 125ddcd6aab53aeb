/-
  accept.Weights.
-/
import Derived.Test.YthaokkdcebmcpaaDoorAWr
set_option linter.unusedVariables false
set_option linter.unusedSimpArgs false
namespace Go.Proofs.YthaokkdcebmcpaaDoor
open Go.RowKit Go.Shelf
namespace Ac
open Oc Tg

set_option maxRecDepth 100000 in
set_option maxHeartbeats 4000000 in
theorem readAllW_any (s : ByteArray) (hs : s.size ≤ 1048576) (w : World) (hw : Env w) :
    Calls Tryd.prog 49 #[.string s, .func (.func 50) #[] #[]] w fun e w' => ∃ v, e = .returned (.tuple #[v, .int .i64 (weightsR s.data.toList).2]) ∧ OwnW 96 w.heap.size v (weightsR s.data.toList).1 w' ∧ Below w.heap.size w w' := by
  have HL := List_any s (by omega) w
  obtain ⟨l1, l2⟩ := listR_short s.data.toList
  rw [size_list] at l1 l2
  have HE : Hid (Env w) := hw
  clear hw
  have HW0 : Hid ((listR s.data.toList).2 ≠ 0 → weightsR s.data.toList = ([], (listR s.data.toList).2)) := (fun h => by unfold weightsR; rw [if_pos h] : _ → weightsR s.data.toList = _)
  have HW1 : Hid ((listR s.data.toList).2 = 0 → weightsR s.data.toList = wts (listR s.data.toList).1) := (fun h => by unfold weightsR; rw [if_neg (by simp [h])] : _ → weightsR s.data.toList = _)
  generalize weightsR s.data.toList = WR at *
  generalize (listR s.data.toList).1 = t at *
  generalize (listR s.data.toList).2 = er at *
  have HSh : Hid (∀ x ∈ t, x.length ≤ s.size) := l2
  clear l2
  go_enter Tryd.func49, Tryd.ntmps49
  go_wp2_with fail
  refine HL.mono ?_
  rintro e w2 ⟨v, rfl, ho, hb2⟩
  have HB2 : Hid (Below w.heap.size w w2) := hb2
  have HO2 : Hid (OwnS w.heap.size v t w2) := ho
  have HE2 : Hid (Env w2) := HE.out.below hb2
  have hz2 := hb2.size
  clear hb2 ho HL
  by_cases her : er = 0
  · subst her
    have HW : Hid (WR = wts t) := (by simpa using HW1.out : WR = wts t)
    clear HW0 HW1
    have HR2 : Hid (RdS v t w2) := OwnS.rd HO2.out
    obtain ⟨va, vc, rfl⟩ := OwnS.form HO2.out
    go_wp2
    go_loopw [8, 23] (fun lv iv wr => ∃ k : Nat, k ≤ t.length ∧ iv = .int .i64 k ∧ Hid (∀ j, j < k → (wt (t.getD j [])).2 = 0) ∧ Hid (OwnW 96 w2.heap.size lv ((t.take k).map (fun x => (wt x).1)) wr) ∧ Hid (Below w2.heap.size w2 wr)) (fun _ iv _ => t.length - (intOf iv).toNat)
    case atStart => exact ⟨0, Nat.zero_le _, rfl, (fun j hj => by omega : ∀ j, j < 0 → _), ownW_nil _ _ _, Below.refl _ _⟩
    case round =>
      obtain ⟨k, hk, rfl, hall, hown, hbl⟩ := hrel
      by_cases hlt : k < t.length
      · have hsz := hbl.out.size
        obtain ⟨a', c', e', hcs⟩ := HR2.out.below hbl.out
        injection e' with e1 _ e2
        subst e1 e2
        rcases hcs with h | ⟨g, o, rfl, hlc, hcell⟩
        · rw [h] at hlt; simp at hlt
        have p0 := hcell k hlt
        clear hcell
        have hxl := getD_short HSh.out k hlt
        have HRW : Hid (∀ w, Env w → Calls Tryd.prog 50 #[.string (str (t.getD k []))] w fun e w' => e = .returned (.tuple #[.agg #[.string (str (wt (t.getD k [])).1.1), .int .i64 (wt (t.getD k [])).1.2], .int .i64 (wt (t.getD k [])).2]) ∧ Below w.heap.size w w') := fun w h => by
          have := readWeight_any (str (t.getD k [])) (by rw [str_size]; omega) w h
          rw [str_list] at this
          exact this
        have HErr : Hid ((wt (t.getD k [])).2 ≠ 0 → WR = ([], (wt (t.getD k [])).2)) := (fun h => by rw [HW.out]; exact wts_err t k hlt hall.out h : _ → WR = _)
        have HNext : Hid ((wt (t.getD k [])).2 = 0 → ∀ j, j < k + 1 → (wt (t.getD j [])).2 = 0) := (fun h j hj => by
          by_cases hjk : j = k
          · subst hjk; exact h
          · exact hall.out j (by omega) : _ → ∀ j, _)
        have HTk : Hid ((t.take (k + 1)).map (fun x => (wt x).1) = (t.take k).map (fun x => (wt x).1) ++ [(wt (t.getD k [])).1]) := take_wt t k hlt
        have hlk : ((t.take k).map (fun x => (wt x).1)).length + 1 ≤ 2147483648 := by rw [List.length_map, List.length_take]; omega
        generalize (t.take k).map (fun x => (wt x).1) = acc at *
        generalize (wt (t.getD k [])).2 = xe at *
        generalize hW1 : (wt (t.getD k [])).1 = W1 at *
        obtain ⟨wn, wqv⟩ := W1
        dsimp only at HRW HTk
        clear hW1
        generalize str (t.getD k []) = X at *
        generalize hN : str wn = N at HRW
        have HNe : Hid (N = str wn) := hN.symm
        clear hN
        go_wp2_with fail
        refine (HRW.out _ (HE2.out.below hbl.out)).mono ?_
        rintro e w5 ⟨rfl, hb5⟩
        have HB5 : Hid (Below w2.heap.size w2 w5) := bel_trans hbl.out hb5
        have HO5 : Hid (OwnW 96 w2.heap.size _ acc w5) := hown.out.below hb5
        clear hb5
        obtain ⟨w6, hw6⟩ : ∃ w6, w6 = w5.alloc (.cells #[.string N, .int .i64 wqv] 96) := ⟨_, rfl⟩
        have hb6 : Below w5.heap.size w5 w6 := by rw [hw6]; exact (Below.refl _ w5).alloc (Nat.le_refl _) _
        have HB6 : Hid (Below w2.heap.size w2 w6) := bel_trans HB5.out hb6
        have HO6 : Hid (OwnW 96 w2.heap.size _ acc w6) := HO5.out.below hb6
        have hz6 := HB6.out.size
        by_cases hx : xe = 0
        · subst hx
          have HN2 : Hid (∀ j, j < k + 1 → (wt (t.getD j [])).2 = 0) := (by first | exact HNext.out rfl | exact HNext.out trivial : ∀ j, j < k + 1 → (wt (t.getD j [])).2 = 0)
          subst hw6
          go_wp2_with (at_builtin; go_must (refine wp_appW 96 56 infoW Tryd.underlying56 rfl (.tmp 36) (.tmp 38) rfl w2.heap.size _ acc _ (wn, wqv) _ _ HNe.out rfl (by simp [Act.eval, Act.put]) HO6.out _ (by simp [Act.eval, Act.put]) rfl hlk hz6 ?_; intro v7 w7 hown7 hb7))
          have HO7 : Hid (OwnW 96 w2.heap.size v7 ((t.take (k + 1)).map (fun x => (wt x).1)) w7) := (by rw [HTk.out]; exact hown7 : OwnW _ _ _ _ _)
          have HB7 : Hid (Below w2.heap.size w2 w7) := HB6.out.trans hb7
          clear hown7 hb7
          go_wp2
          go_roundw
          case rel => exact ⟨k + 1, by omega, by go_num, HN2, HO7, HB7⟩
          case measure => simp [intOf]; omega
        · have dx : (xe != 0) = true := by simp [hx]
          have HWr : Hid (WR = ([], xe)) := HErr.out hx
          subst hw6
          go_wp2
          go_ret2
          rw [HWr.out]
          exact ⟨_, rfl, ownW_nil _ _ _, HB2.out.trans (HB6.out.mono hz2)⟩
      · obtain rfl : k = t.length := by omega
        have HWr : Hid (WR = (t.map (fun x => (wt x).1), 0)) := (by rw [HW.out]; exact wts_ok t hall.out : WR = _)
        rw [List.take_length] at hown
        go_wp2
        go_ret2
        rw [HWr.out]
        refine ⟨_, rfl, ?_, HB2.out.trans (hbl.out.mono hz2)⟩
        exact OwnW.mono hown.out hz2
  · have dx : (er != 0) = true := by simp [her]
    have HWr : Hid (WR = ([], er)) := HW0.out her
    clear HW0 HW1
    go_wp2
    go_ret2
    rw [HWr.out]
    exact ⟨_, rfl, ownW_nil _ _ _, HB2.out⟩

set_option maxHeartbeats 1000000 in
theorem Weights_any (s : ByteArray) (hs : s.size ≤ 1048576) (w : World) (hw : Env w) :
    Calls Tryd.prog 23 #[.string s] w fun e w' => ∃ v, e = .returned (.tuple #[v, .int .i64 (weightsR s.data.toList).2]) ∧ OwnW 96 w.heap.size v (weightsR s.data.toList).1 w' ∧ Below w.heap.size w w' := by
  have H := readAllW_any s hs w hw
  generalize weightsR s.data.toList = WR at *
  go_enter Tryd.func23, Tryd.ntmps23
  go_wp2_with fail
  refine H.mono ?_
  rintro e w2 ⟨v, rfl, ho, hb2⟩
  have HO : Hid (OwnW 96 w.heap.size v WR.1 w2) := ho
  clear ho
  go_wp2
  go_ret2
  exact ⟨_, rfl, HO.out, hb2⟩

end Ac
end Go.Proofs.YthaokkdcebmcpaaDoor
