/-
  The document's Ranges.
-/
import Derived.Test.YthfckgdaencagaaGreatDoorMgD1
import Derived.Test.YthfckgdaencagaaGreatDoorARp
import Derived.Test.YthfckgdaencagaaGreatDoorARm
set_option maxRecDepth 100000
set_option linter.unusedVariables false
set_option linter.unusedSimpArgs false
namespace Go.Proofs.YthfckgdaencagaaGreatDoor
open Go.RowKit Go.Shelf
namespace Ac
open Oc Tg

theorem infoO3 : (Tryz.prog.info? 58).map (fun i => (i.zero, i.size, i.bytes)) = some (some (.agg #[.string ⟨#[]⟩, .string ⟨#[]⟩, .slice none 0 0, .int .i64 0]), 4, 64) := by kernel_rfl
theorem ownO_emp {B : Nat} (T : Nat) (w : World) (hB : B ≤ w.heap.size) : OwnO T B (.slice (some ⟨w.heap.size, 0, none⟩) 0 0) [] (w.alloc (.cells #[] T)) :=
  ⟨by simp [encO], .inr ⟨w.heap.size, 0, #[], rfl, hB, heap_alloc_new w _, by simp, by decide, by simp, by simp [encO]⟩⟩
theorem ownO_emp2 {B n : Nat} (T : Nat) (w : World) (hn : n = w.heap.size) (hB : B ≤ w.heap.size) : OwnO T B (.slice (some ⟨n, 0, none⟩) 0 0) [] (w.alloc (.cells #[] T)) := by subst hn; exact ownO_emp T w hB
theorem ownO_set {T B p j : Nat} {v : Value} {t : List Rw} {w : World} {cs : Array Value} {T' : TypeId} {fz : Nat × Nat} (h : OwnO T B v t w) (hp : w.heap[p]? = some (.cells cs T' fz)) (hT : T' ≠ T) (u : Value) : OwnO T B v t (w.setCell ⟨p, j, none⟩ u) := by
  refine ⟨h.1, ?_⟩
  rcases h.2 with hn | ⟨g, cap, cur, rfl, hb, hg, rest⟩
  · exact .inl hn
  · refine .inr ⟨g, cap, cur, rfl, hb, ?_, rest⟩
    have hgp : g ≠ p := fun e => by
      subst e
      rw [hp] at hg
      simp at hg
      exact hT hg.2.1
    exact (heap_setCell_other w ⟨p, j, none⟩ g u (fun e' => hgp (by simpa using e'))).trans hg
theorem likeT_set {T p j : Nat} {ms : List Rw} {xs : List Rx} {W : World} {cs : Array Value} {T' : TypeId} {fz : Nat × Nat} (h : LikeT T ms xs W) (hp : W.heap[p]? = some (.cells cs T' fz)) (hT : T' ≠ T) (u : Value) : LikeT T ms xs (W.setCell ⟨p, j, none⟩ u) := ⟨h.1, fun i hi => by
  obtain ⟨h1, h2, h3, h4, h5⟩ := h.2 i hi
  have hne := h5.ne hp hT
  exact ⟨h1, h2, h3, RdP.setOther h4 hne u, h5.set hne u⟩⟩

set_option maxHeartbeats 8000000 in
theorem rRanges_any (s : ByteArray) (hs : s.size ≤ 1048576) (w : World) :
    Calls Tryz.prog 5 #[.string s] w fun e w' => ∃ v, e = .returned (.tuple #[v, .int .i64 (rangesR s.data.toList).2]) ∧ (∃ ms, OwnO 58 w.heap.size v ms w' ∧ LikeT 84 ms (rangesR s.data.toList).1 w') ∧ Below w.heap.size w w' := by
  have HL := rList_any s (by omega) w
  obtain ⟨l1, l2⟩ := listR_short s.data.toList
  rw [size_list] at l1 l2
  have HW0 : Hid ((listR s.data.toList).2 ≠ 0 → rangesR s.data.toList = ([], (listR s.data.toList).2)) := (fun h => by unfold rangesR; rw [if_pos h] : _ → rangesR s.data.toList = _)
  have HW1 : Hid ((listR s.data.toList).2 = 0 → rangesR s.data.toList = rgs (listR s.data.toList).1) := (fun h => by unfold rangesR; rw [if_neg (by simp [h])] : _ → rangesR s.data.toList = _)
  generalize rangesR s.data.toList = WR at *
  generalize (listR s.data.toList).1 = t at *
  generalize (listR s.data.toList).2 = er at *
  have HSh : Hid (∀ x ∈ t, x.length ≤ s.size) := l2
  clear l2
  go_enter Tryz.func5, Tryz.ntmps5
  go_wp2_with fail
  refine HL.mono ?_
  rintro e w2 ⟨v, rfl, ho, hb2⟩
  have HB2 : Hid (Below w.heap.size w w2) := hb2
  have HO2 : Hid (OwnS w.heap.size v t w2) := ho
  have hz2 := hb2.size
  clear hb2 ho HL
  by_cases her : er = 0
  · subst her
    have HW : Hid (WR = rgs t) := (by simpa using HW1.out : WR = rgs t)
    clear HW0 HW1
    have HR2 : Hid (RdS v t w2) := OwnS.rd HO2.out
    obtain ⟨va, vc, rfl⟩ := OwnS.form HO2.out
    go_wp2
    go_loopw [6, 7] (fun lv iv wr => ∃ (k : Nat) (ms : List Rw), k ≤ t.length ∧ iv = .int .i64 k ∧ Hid (∀ j, j < k → (rgR (t.getD j [])).2 = 0) ∧ Hid (OwnO 58 w2.heap.size lv ms wr) ∧ Hid (LikeT 84 ms ((t.take k).map (fun x => (rgR x).1)) wr) ∧ Hid (Below w2.heap.size w2 wr)) (fun _ iv _ => t.length - (intOf iv).toNat)
    case atStart => exact ⟨0, [], Nat.zero_le _, rfl, (fun j hj => by omega : ∀ j, j < 0 → _), ownO_emp _ w2 (Nat.le_refl _), LikeT.nil _ _, (Below.refl _ w2).alloc (Nat.le_refl _) _⟩
    case round =>
      obtain ⟨k, ms, hk, rfl, hall, hown, hlike, hbl⟩ := hrel
      have hsz := hbl.out.size
      by_cases hlt : k < t.length
      · obtain ⟨a', c', e', hcs⟩ := HR2.out.below hbl.out
        injection e' with e1 _ e2
        subst e1 e2
        rcases hcs with h | ⟨g, o, rfl, hlc, hcell⟩
        · rw [h] at hlt; simp at hlt
        have p0 := hcell k hlt
        clear hcell
        have hxl := getD_short HSh.out k hlt
        have HErr : Hid ((rgR (t.getD k [])).2 ≠ 0 → WR = ([], (rgR (t.getD k [])).2)) := (fun h => by rw [HW.out]; exact rgs_err t k hlt hall.out h : _ → WR = _)
        have HNext : Hid ((rgR (t.getD k [])).2 = 0 → ∀ j, j < k + 1 → (rgR (t.getD j [])).2 = 0) := (fun h j hj => by
          by_cases hjk : j = k
          · subst hjk; exact h
          · exact hall.out j (by omega) : _ → ∀ j, _)
        have HTk : Hid ((t.take (k + 1)).map (fun x => (rgR x).1) = (t.take k).map (fun x => (rgR x).1) ++ [(rgR (t.getD k [])).1]) := take_rg t k hlt
        have hlk : Hid (ms.length + 1 ≤ 2147483648) := (by have := hlike.out.1; rw [List.length_map, List.length_take] at this; omega : ms.length + 1 ≤ 2147483648)
        generalize (t.take k).map (fun x => (rgR x).1) = acc at *
        generalize t.getD k [] = x at *
        obtain ⟨m1, m2, _, _⟩ := med_bd x
        have HPt : Hid (∀ W, Calls Tryz.prog 14 #[.string (str x)] W fun e w' => ∃ v, e = .returned (.tuple #[.agg #[.string (str (mdT (med x))), .string (str (mdS (med x))), v], .bool (med x).isSome]) ∧ OwnP 84 (World.heap W).size v (mdP (med x)) w' ∧ Below (World.heap W).size W w') := fun W => by
          have := rparts_any (str x) (by rw [str_size]; omega) W
          rw [str_list, ← med_eq] at this
          exact this
        have HWg : Hid (∀ v W, RdP v (mdP (med x)) W → Calls Tryz.prog 15 #[v] W fun e w' => ∃ u, e = .returned (.tuple #[u, .int .i64 (wq (mdP (med x))).1, .int .i64 (wq (mdP (med x))).2]) ∧ OwnP 84 (World.heap W).size u ((mdP (med x)).take (qAt (mdP (med x)))) w' ∧ Below (World.heap W).size W w') := fun v W h => by
          have := rweight2_any v (mdP (med x)) (m1.mono (by omega)) (med_bare x) (by omega) W h
          rw [med_low, rAt_low (med_low x)] at this
          exact this
        have HVl : Hid (∀ v W, RdP v ((mdP (med x)).take (qAt (mdP (med x)))) W → Calls Tryz.prog 16 #[v] W fun e w' => e = .returned (.bool (!((mdP (med x)).take (qAt (mdP (med x)))).any noVal)) ∧ w' = W) := fun v W h => valued_any v _ W h (by rw [List.length_take]; omega)
        have N1 : Hid ((med x).isSome = false ∨ ((str (mdT (med x))).toList == [42] && (str (mdS (med x))).toList != [42]) = true ∨ ((mdP (med x)).take (qAt (mdP (med x)))).any noVal = true → rgR x = ((([], [], []), 0), 72)) := (fun h => by unfold rgR; rw [if_pos h] : _ → _)
        have N2 : Hid (¬ ((med x).isSome = false ∨ ((str (mdT (med x))).toList == [42] && (str (mdS (med x))).toList != [42]) = true ∨ ((mdP (med x)).take (qAt (mdP (med x)))).any noVal = true) → (wq (mdP (med x))).2 ≠ 0 → rgR x = ((([], [], []), 0), (wq (mdP (med x))).2)) := (fun h h2 => by unfold rgR; rw [if_neg h, if_pos h2] : _ → _ → _)
        have N3 : Hid (¬ ((med x).isSome = false ∨ ((str (mdT (med x))).toList == [42] && (str (mdS (med x))).toList != [42]) = true ∨ ((mdP (med x)).take (qAt (mdP (med x)))).any noVal = true) → (wq (mdP (med x))).2 = 0 → rgR x = (((mdT (med x), mdS (med x), (mdP (med x)).take (qAt (mdP (med x)))), (wq (mdP (med x))).1), 0)) := (fun h h2 => by unfold rgR; rw [if_neg h, if_neg (by simpa using h2)] : _ → _ → _)
        clear m1 m2 hxl
        generalize rgR x = RG at *
        generalize med x = MD at *
        generalize MD.isSome = mb at *
        generalize mdP MD = ps at *
        generalize (wq ps).1 = q1 at *
        generalize (wq ps).2 = q2 at *
        generalize ps.take (qAt ps) = PT at *
        generalize PT.any noVal = nv at *
        generalize mdT MD = TT at *
        generalize mdS MD = SS at *
        generalize str x = X at *
        go_wp2_with fail
        refine (HPt.out _).mono ?_
        rintro e w3 ⟨pv, rfl, ho3, hb3⟩
        have HR3 : Hid (RdP pv ps w3) := OwnP.rd ho3
        have HB3 : Hid (Below w2.heap.size w2 w3) := bel_trans hbl.out hb3
        have HO3 : Hid (OwnO 58 w2.heap.size _ ms w3) := hown.out.below hb3
        have HK3 : Hid (LikeT 84 ms acc w3) := hlike.out.below hb3
        clear hb3 ho3 hown hlike
        obtain ⟨pa, pc, rfl, _⟩ := HR3.out
        obtain ⟨w4, hw4⟩ : ∃ w4, w4 = w3.alloc (.cells #[.string (str TT), .string (str SS), .slice pa ps.length pc] 40) := ⟨_, rfl⟩
        have HX4 : Hid (w4.heap[w3.heap.size]? = some (.cells #[.string (str TT), .string (str SS), .slice pa ps.length pc] 40 (0, 0))) := by show _ = _; rw [hw4]; exact heap_alloc_new w3 _
        have hb4 : Below w3.heap.size w3 w4 := by rw [hw4]; exact (Below.refl _ w3).alloc (Nat.le_refl _) _
        have HB4 : Hid (Below w2.heap.size w2 w4) := bel_trans HB3.out hb4
        have HR4 : Hid (RdP (.slice pa ps.length pc) ps w4) := HR3.out.below hb4
        have HO4 : Hid (OwnO 58 w2.heap.size _ ms w4) := HO3.out.below hb4
        have HK4 : Hid (LikeT 84 ms acc w4) := HK3.out.below hb4
        have hz4 := HB4.out.size
        clear hb4 HR3 HO3 HK3
        have x0 := Lib.cell_of_heap HX4.out 0
        have x1 := Lib.cell_of_heap HX4.out 1
        have x2 := Lib.cell_of_heap HX4.out 2
        simp only [List.getElem?_toArray, List.getElem?_cons_zero, List.getElem?_cons_succ] at x0 x1 x2
        have hways : mb = false ∨ (mb = true ∧ ((str TT).toList == [42]) = true ∧ ((str SS).toList == [42]) = false) ∨ (mb = true ∧ ((str TT).toList == [42]) = true ∧ ((str SS).toList == [42]) = true) ∨ (mb = true ∧ ((str TT).toList == [42]) = false) := by
          cases mb
          · exact .inl rfl
          · right
            cases (str TT).toList == [42]
            · exact .inr (.inr ⟨rfl, rfl⟩)
            · cases (str SS).toList == [42]
              · exact .inl ⟨rfl, rfl, rfl⟩
              · exact .inr (.inl ⟨rfl, rfl, rfl⟩)
        have hsB : ((str SS).toList != [42]) = !((str SS).toList == [42]) := rfl
        rcases hways with rfl | ⟨rfl, hA, hB⟩ | ⟨rfl, hA, hB⟩ | ⟨rfl, hA⟩
        · have HM : Hid (WR = ([], 72)) := (by have h := N1.out (.inl rfl); have h2 := HErr.out (by rw [h]; decide); rw [h] at h2; exact h2 : WR = _)
          subst hw4
          go_wp2
          go_ret2
          rw [HM.out]
          exact ⟨_, rfl, ⟨[], ownO_emp2 _ _ (by simp) (Nat.le_trans hz2 hz4), LikeT.nil _ _⟩, HB2.out.trans ((HB4.out.alloc hz4 _).mono hz2)⟩
        · have HM : Hid (WR = ([], 72)) := (by have h := N1.out (.inr (.inl (by rw [hA, hsB, hB]; rfl))); have h2 := HErr.out (by rw [h]; decide); rw [h] at h2; exact h2 : WR = _)
          rw [hB] at hsB
          subst hw4
          go_wp2
          go_ret2
          rw [HM.out]
          exact ⟨_, rfl, ⟨[], ownO_emp2 _ _ (by simp) (Nat.le_trans hz2 hz4), LikeT.nil _ _⟩, HB2.out.trans ((HB4.out.alloc hz4 _).mono hz2)⟩
        all_goals
          have HNo : Hid (¬ (true = false ∨ ((str TT).toList == [42] && (str SS).toList != [42]) = true ∨ nv = true) ↔ nv = false) := (by
            rw [hA]
            first
              | (rw [hsB, hB]; cases nv <;> simp)
              | (cases nv <;> simp) : _ ↔ _)
          first
            | rw [hB] at hsB
            | skip
          go_wp2_with fail
          rw [← hw4]
          clear hw4
          refine (HWg.out _ _ HR4.out).mono ?_
          rintro e w5 ⟨uv, rfl, ho5, hb5⟩
          have HR5 : Hid (RdP uv PT w5) := OwnP.rd ho5
          have HT5 : Hid (TyB uv 84 w5) := TyB.own ho5
          have HB5 : Hid (Below w2.heap.size w2 w5) := bel_trans HB4.out hb5
          have HO5 : Hid (OwnO 58 w2.heap.size _ ms w5) := HO4.out.below hb5
          have HK5 : Hid (LikeT 84 ms acc w5) := HK4.out.below hb5
          have HX5 : Hid (w5.heap[w3.heap.size]? = some (.cells #[.string (str TT), .string (str SS), .slice pa ps.length pc] 40 (0, 0))) := (hb5.block _ (Array.getElem?_eq_some_iff.1 HX4.out).1).trans HX4.out
          have hz5 := HB5.out.size
          clear ho5 hb5 x0 x1 x2 HX4 HB4 HR4 HO4 HK4
          obtain ⟨ua, uc, rfl, _⟩ := HR5.out
          go_wp2_with fail
          refine (HVl.out _ _ HR5.out).mono ?_
          rintro e w6 ⟨rfl, rfl⟩
          cases nv with
          | true =>
            have HM : Hid (WR = ([], 72)) := (by have h := N1.out (.inr (.inr rfl)); have h2 := HErr.out (by rw [h]; decide); rw [h] at h2; exact h2 : WR = _)
            go_wp2
            go_ret2
            rw [HM.out]
            exact ⟨_, rfl, ⟨[], ownO_emp _ _ (Nat.le_trans hz2 hz5), LikeT.nil _ _⟩, HB2.out.trans ((HB5.out.alloc hz5 _).mono hz2)⟩
          | false =>
            have hnv0 := HNo.out.2 rfl
            by_cases hq : q2 = 0
            · have hRG := N3.out hnv0 hq
              have HN2 : Hid (∀ j, j < k + 1 → (rgR (t.getD j [])).2 = 0) := HNext.out (by rw [hRG])
              have HT7 : Hid ((t.take (k + 1)).map (fun x => (rgR x).1) = acc ++ [((TT, SS, PT), q1)]) := (by rw [HTk.out, hRG] : _ = _)
              have hqq : (q2 != 0) = false := by simp [hq]
              have n1 := HT5.out.ne HX5.out (by decide)
              have f2 := Lib.frozen_of_heap HX5.out 2
              have y0 := Lib.cell_of_heap HX5.out 0
              have y1 := Lib.cell_of_heap HX5.out 1
              have y2 := Lib.cell_of_heap HX5.out 2
              have hX7 := heap_setCell_same w6 w3.heap.size 2 _ _ (.slice ua PT.length uc) HX5.out
              have z0 := Lib.cell_of_heap hX7 0
              have z1 := Lib.cell_of_heap hX7 1
              have z2 := Lib.cell_of_heap hX7 2
              have hz3 : w2.heap.size ≤ w3.heap.size := HB3.out.size
              have HB7 : Hid (Below w2.heap.size w2 (w6.setCell ⟨w3.heap.size, 2, none⟩ (.slice ua PT.length uc))) := HB5.out.setCell (p := ⟨w3.heap.size, 2, none⟩) (by simp; omega) _
              have HO7 : Hid (OwnO 58 w2.heap.size _ ms (w6.setCell ⟨w3.heap.size, 2, none⟩ (.slice ua PT.length uc))) := ownO_set HO5.out HX5.out (by decide) _
              have HK7 : Hid (LikeT 84 ms acc (w6.setCell ⟨w3.heap.size, 2, none⟩ (.slice ua PT.length uc))) := likeT_set HK5.out HX5.out (by decide) _
              have HR7 : Hid (RdP (.slice ua PT.length uc) PT (w6.setCell ⟨w3.heap.size, 2, none⟩ (.slice ua PT.length uc))) := RdP.setOther HR5.out n1 _
              have HTy7 : Hid (TyB (.slice ua PT.length uc) 84 (w6.setCell ⟨w3.heap.size, 2, none⟩ (.slice ua PT.length uc))) := HT5.out.set n1 _
              have hz7 : w2.heap.size ≤ (w6.setCell ⟨w3.heap.size, 2, none⟩ (.slice ua PT.length uc)).heap.size := HB7.out.size
              simp at y0 y1 y2 z0 z1 z2
              clear hX7 n1 hRG
              go_wp2_with (at_builtin; go_must (refine wp_appO 58 27 infoO3 Tryz.underlying27 rfl (.tmp 67) (.tmp 71) rfl w2.heap.size _ ms _ ⟨str TT, str SS, ua, PT.length, uc, q1⟩ (by simp [Act.eval, Act.put]) HO7.out _ (by simp [Act.eval, Act.put]) rfl hlk.out hz7 ?_; intro v8 w8 hown8 hb8 hkeep))
              have HO8 : Hid (OwnO 58 w2.heap.size v8 (ms ++ [⟨str TT, str SS, ua, PT.length, uc, q1⟩]) w8) := hown8
              have HK8 : Hid (LikeT 84 (ms ++ [⟨str TT, str SS, ua, PT.length, uc, q1⟩]) ((t.take (k + 1)).map (fun x => (rgR x).1)) w8) := (by rw [HT7.out]; exact LikeT.snoc (x := ((TT, SS, PT), q1)) HK7.out HO7.out (by decide) HR7.out HTy7.out hkeep : LikeT _ _ _ _)
              have HB8 : Hid (Below w2.heap.size w2 w8) := HB7.out.trans hb8
              clear hown8 hb8 hkeep y0 y1 y2 z0 z1 z2
              go_wp2
              go_roundw
              case rel => exact ⟨k + 1, _, by omega, by go_num, HN2, HO8, HK8, HB8⟩
              case measure => simp [intOf]; omega
            · have HM : Hid (WR = ([], q2)) := (by have h := N2.out hnv0 hq; have h2 := HErr.out (by rw [h]; exact hq); rw [h] at h2; exact h2 : WR = _)
              have hqq : (q2 != 0) = true := by simp [hq]
              go_wp2
              go_ret2
              rw [HM.out]
              exact ⟨_, rfl, ⟨[], ownO_emp _ _ (Nat.le_trans hz2 hz5), LikeT.nil _ _⟩, HB2.out.trans ((HB5.out.alloc hz5 _).mono hz2)⟩
      · obtain rfl : k = t.length := by omega
        have HWr : Hid (WR = (t.map (fun x => (rgR x).1), 0)) := (by rw [HW.out]; exact rgs_ok t hall.out : WR = _)
        rw [List.take_length] at hlike
        go_wp2
        go_ret2
        rw [HWr.out]
        exact ⟨_, rfl, ⟨ms, hown.out.mono hz2, hlike.out⟩, HB2.out.trans (hbl.out.mono hz2)⟩
  · have dx : (er != 0) = true := by simp [her]
    have HWr : Hid (WR = ([], er)) := HW0.out her
    clear HW0 HW1
    go_wp2
    go_ret2
    rw [HWr.out]
    exact ⟨_, rfl, ⟨[], ownO_emp _ _ hz2, LikeT.nil _ _⟩, HB2.out.alloc hz2 _⟩

end Ac
end Go.Proofs.YthfckgdaencagaaGreatDoor
