/-
  The document's Weights.
-/
import Derived.Test.YthaokkdcebmcpaaDoorAWk
set_option linter.unusedVariables false
set_option linter.unusedSimpArgs false
namespace Go.Proofs.YthaokkdcebmcpaaDoor
open Go.RowKit Go.Shelf
namespace Ac
open Oc Tg

set_option maxRecDepth 100000 in
set_option maxHeartbeats 8000000 in
theorem rWeights_any (s : ByteArray) (hs : s.size ≤ 1048576) (w : World) :
    Calls Tryd.prog 24 #[.string s] w fun e w' => ∃ v, e = .returned (.tuple #[v, .int .i64 (weightsR s.data.toList).2]) ∧ OwnW 99 w.heap.size v (weightsR s.data.toList).1 w' ∧ Below w.heap.size w w' := by
  have HL := rList_any s (by omega) w
  obtain ⟨l1, l2⟩ := listR_short s.data.toList
  rw [size_list] at l1 l2
  have HW0 : Hid ((listR s.data.toList).2 ≠ 0 → weightsR s.data.toList = ([], (listR s.data.toList).2)) := (fun h => by unfold weightsR; rw [if_pos h] : _ → weightsR s.data.toList = _)
  have HW1 : Hid ((listR s.data.toList).2 = 0 → weightsR s.data.toList = wts (listR s.data.toList).1) := (fun h => by unfold weightsR; rw [if_neg (by simp [h])] : _ → weightsR s.data.toList = _)
  generalize weightsR s.data.toList = WR at *
  generalize (listR s.data.toList).1 = t at *
  generalize (listR s.data.toList).2 = er at *
  have HSh : Hid (∀ x ∈ t, x.length ≤ s.size) := l2
  clear l2
  go_enter Tryd.func24, Tryd.ntmps24
  go_wp2_with fail
  refine HL.mono ?_
  rintro e w2 ⟨v, rfl, ho, hb2⟩
  have HB2 : Hid (Below w.heap.size w w2) := hb2
  have HO2 : Hid (OwnS w.heap.size v t w2) := ho
  have hz2 := hb2.size
  clear hb2 ho HL
  by_cases her : er = 0
  · subst her
    have HW : Hid (WR = wts t) := (by simpa using HW1.out : WR = wts t)
    clear HW0 HW1
    have HR2 : Hid (RdS v t w2) := OwnS.rd HO2.out
    obtain ⟨va, vc, rfl⟩ := OwnS.form HO2.out
    go_wp2
    go_loopw [6, 7] (fun lv iv wr => ∃ k : Nat, k ≤ t.length ∧ iv = .int .i64 k ∧ Hid (∀ j, j < k → (wt (t.getD j [])).2 = 0) ∧ Hid (OwnW 99 w2.heap.size lv ((t.take k).map (fun x => (wt x).1)) wr) ∧ Hid (Below w2.heap.size w2 wr)) (fun _ iv _ => t.length - (intOf iv).toNat)
    case atStart => exact ⟨0, Nat.zero_le _, rfl, (fun j hj => by omega : ∀ j, j < 0 → _), ownW_empty _ w2 (Nat.le_refl _), (Below.refl _ w2).alloc (Nat.le_refl _) _⟩
    case round =>
      obtain ⟨k, hk, rfl, hall, hown, hbl⟩ := hrel
      have hsz := hbl.out.size
      by_cases hlt : k < t.length
      · obtain ⟨a', c', e', hcs⟩ := HR2.out.below hbl.out
        injection e' with e1 _ e2
        subst e1 e2
        rcases hcs with h | ⟨g, o, rfl, hlc, hcell⟩
        · rw [h] at hlt; simp at hlt
        have p0 := hcell k hlt
        have hgw : g < wr.heap.size := World.block_lt_of_cell? wr _ p0
        clear hcell
        have hxl := getD_short HSh.out k hlt
        have HErr : Hid ((wt (t.getD k [])).2 ≠ 0 → WR = ([], (wt (t.getD k [])).2)) := (fun h => by rw [HW.out]; exact wts_err t k hlt hall.out h : _ → WR = _)
        have HNext : Hid ((wt (t.getD k [])).2 = 0 → ∀ j, j < k + 1 → (wt (t.getD j [])).2 = 0) := (fun h j hj => by
          by_cases hjk : j = k
          · subst hjk; exact h
          · exact hall.out j (by omega) : _ → ∀ j, _)
        have HTk : Hid ((t.take (k + 1)).map (fun x => (wt x).1) = (t.take k).map (fun x => (wt x).1) ++ [(wt (t.getD k [])).1]) := take_wt t k hlt
        have hlk : ((t.take k).map (fun x => (wt x).1)).length + 1 ≤ 2147483648 := by rw [List.length_map, List.length_take]; omega
        generalize t.getD k [] = x at *
        have HRef := wt_ref x
        have hN := tokLen_le x
        obtain ⟨b0, b1, b2, b3⟩ := params_bd (x.drop (tokLen x))
        have HBare := params_bare (x.drop (tokLen x))
        rw [List.length_drop] at b1 b2 b3
        generalize (t.take k).map (fun x => (wt x).1) = acc at *
        have hX : (str x).size = x.length := str_size _
        have HXd : Hid ((str x).data.toList = x) := str_list _
        have T1 : Hid (∀ j, j < tokLen x → tokI (byt (str x) j) = true) := (fun j hj => by unfold byt; rw [HXd.out]; exact tokAt _ j hj : ∀ j, _ → tokI _ = true)
        have T2 : Hid (tokLen x < x.length → tokI (byt (str x) (tokLen x)) = false) := (fun h => by unfold byt; rw [HXd.out]; exact tokOut _ h : _ → tokI _ = false)
        have HP : Hid (∀ w, Calls Tryd.prog 52 #[.string ((str x).extract (tokLen x) x.length)] w fun e w' => ∃ v, e = .returned (.tuple #[v, .int .i64 (paramsR (x.drop (tokLen x))).2.1, .int .i64 (paramsR (x.drop (tokLen x))).2.2]) ∧ OwnP 73 w.heap.size v (paramsR (x.drop (tokLen x))).1 w' ∧ Below w.heap.size w w') := fun w => by
          have := rParams_any ((str x).extract (tokLen x) (str x).size) (by simp; omega) w
          rw [Lib.extract_to_end, HXd.out, hX] at this
          exact this
        have HLw : Hid (∀ w, Calls Tryd.prog 37 #[.string ((str x).extract 0 (tokLen x))] w fun e w' => e = .returned (.string (str (lower (x.take (tokLen x))))) ∧ Below w.heap.size w w') := fun w => by
          have := rLower_any ((str x).extract 0 (tokLen x)) (by simp; unfold maxLen; omega) w
          unfold lowS at this
          rw [show ((str x).extract 0 (tokLen x)).data.toList = x.take (tokLen x) by simp [str]] at this
          exact this
        have HRW : Hid (∀ v w, RdP v (paramsR (x.drop (tokLen x))).1 w → Calls Tryd.prog 48 #[v] w fun e w' => ∃ u, e = .returned (.tuple #[u, .int .i64 (wq ((paramsR (x.drop (tokLen x))).1.map lowP)).1, .int .i64 (wq ((paramsR (x.drop (tokLen x))).1.map lowP)).2]) ∧ Below w.heap.size w w') := fun v w h => rweight_any v _ (b2.mono (by omega)) HBare (by omega) w h
        generalize lower (x.take (tokLen x)) = LN at *
        generalize (wq ((paramsR (x.drop (tokLen x))).1.map lowP)).1 = q1 at *
        generalize (wq ((paramsR (x.drop (tokLen x))).1.map lowP)).2 = q2 at *
        clear HBare b2
        generalize (paramsR (x.drop (tokLen x))).1 = ps at *
        generalize (paramsR (x.drop (tokLen x))).2.1 = n at *
        generalize (paramsR (x.drop (tokLen x))).2.2 = pe at *
        generalize wt x = WX at *
        obtain ⟨W1, xe⟩ := WX
        obtain ⟨wn, wqv⟩ := W1
        dsimp only at HErr HNext HTk
        generalize tokLen x = N at *
        clear HXd
        generalize str x = X at *
        generalize x.length = XL at *
        have HRef' : Hid (_) := HRef
        clear HRef
        go_wp2
        go_loopw [8] (fun nv wx => ∃ m : Nat, m ≤ N ∧ nv = .int .i64 m ∧ wr = wx) (fun nv _ => N - (intOf nv).toNat)
        case atStart => exact ⟨0, Nat.zero_le _, rfl, rfl⟩
        case round =>
          obtain ⟨m, hm, rfl, rfl⟩ := hrel
          by_cases hltm : m < N
          · have hks : m < X.size := by omega
            have hby : ((X[m].toNat : Nat) : Int) = byt X m := byt_at X m hks
            obtain ⟨f0, f1⟩ := byt_bd X m
            have ht := T1.out m hltm
            go_wp2_with (go_at_call 51; refine (IsSign_any _ (by omega) (by omega) _).mono ?_; rintro e w' ⟨rfl, hw'⟩; rw [hw']; clear hw' w')
            go_roundw
            case rel => exact ⟨m + 1, by omega, by go_num, trivial⟩
            case measure => simp [intOf]; omega
          · obtain rfl : m = N := by omega
            have hml : (m : Int) ≤ (X.size : Int) := by omega
            rw [hX] at hml
            by_cases hjs : m < X.size
            all_goals first
              | (have hby : ((X[m].toNat : Nat) : Int) = byt X m := byt_at X m hjs
                 obtain ⟨f0, f1⟩ := byt_bd X m
                 have ht := T2.out (by omega)
                 go_wp2_with (go_at_call 51; refine (IsSign_any _ (by omega) (by omega) _).mono ?_; rintro e w' ⟨rfl, hw'⟩; rw [hw']; clear hw' w')
                 clear hby f0 f1 ht)
              | (have hlz : ¬ ((m : Int) < (X.size : Int)) := by omega
                 go_wp2_with fail
                 clear hlz)
            all_goals
              clear hjs T1 T2
              (try rw [hX])
              refine (HP.out _).mono ?_
              rintro e w5 ⟨pv, rfl, ho5, hb5⟩
              have p5 := (hb5.cell (p := ⟨g, o + k, none⟩) hgw).trans p0
              have hg5 : g < w5.heap.size := World.block_lt_of_cell? w5 _ p5
              have HB5 : Hid (Below w2.heap.size w2 w5) := bel_trans hbl.out hb5
              have HO5 : Hid (OwnW 99 w2.heap.size _ acc w5) := hown.out.below hb5
              have HPo : Hid (OwnP 73 wr.heap.size pv ps w5) := ho5
              clear hb5 ho5
              by_cases hg : 0 < m ∧ pe = 0 ∧ (m : Int) + n = XL
              · obtain ⟨g1, g2, g3⟩ := hg
                have HX : Hid (((wn, wqv), xe) = if q2 = 0 then ((LN, q1), 0) else (([], 0), q2)) := (by rw [HRef'.out, if_pos ⟨g1, g2, g3⟩] : ((wn, wqv), xe) = _)
                have z1 : ((m : Int) == 0) = false := by simp; omega
                have z2 : (pe != 0) = false := by simp [g2]
                have z3 : ((m : Int) + n != (XL : Int)) = false := by simp [g3]
                go_wp2_with fail
                refine (HRW.out _ _ (OwnP.rd HPo.out)).mono ?_
                rintro e w6 ⟨u, rfl, hb6⟩
                have p6 := (hb6.cell (p := ⟨g, o + k, none⟩) hg5).trans p5
                have hg6 : g < w6.heap.size := World.block_lt_of_cell? w6 _ p6
                have HB6 : Hid (Below w2.heap.size w2 w6) := bel_trans HB5.out hb6
                have HO6 : Hid (OwnW 99 w2.heap.size _ acc w6) := HO5.out.below hb6
                clear hb6 p5 HO5
                by_cases hq : q2 = 0
                · subst hq
                  have HX2 : Hid (((wn, wqv), xe) = ((LN, q1), (0 : Int))) := (by rw [HX.out]; first | rfl | exact if_pos trivial : ((wn, wqv), xe) = _)
                  obtain ⟨⟨rfl, rfl⟩, rfl⟩ : (wn = LN ∧ wqv = q1) ∧ xe = 0 := by simpa using HX2.out
                  clear HX HX2
                  have HN2 : Hid (∀ j, j < k + 1 → (wt (t.getD j [])).2 = 0) := (by first | exact HNext.out rfl | exact HNext.out trivial : ∀ j, j < k + 1 → (wt (t.getD j [])).2 = 0)
                  go_wp2_with fail
                  refine (HLw.out _).mono ?_
                  rintro e w7 ⟨rfl, hb7⟩
                  have HB7 : Hid (Below w2.heap.size w2 w7) := bel_trans HB6.out hb7
                  have HO7 : Hid (OwnW 99 w2.heap.size _ acc w7) := HO6.out.below hb7
                  have hz7 := HB7.out.size
                  clear hb7 HO6
                  go_wp2_with (at_builtin; go_must (refine wp_appW 99 59 infoW2 Tryd.underlying59 rfl (.tmp 88) (.tmp 98) rfl w2.heap.size _ acc _ (wn, wqv) _ _ rfl rfl (by simp [Act.eval, Act.put]) HO7.out _ (by simp [Act.eval, Act.put]) rfl hlk hz7 ?_; intro v8 w8 hown8 hb8))
                  have HO8 : Hid (OwnW 99 w2.heap.size v8 ((t.take (k + 1)).map (fun x => (wt x).1)) w8) := (by rw [HTk.out]; exact hown8 : OwnW _ _ _ _ _)
                  have HB8 : Hid (Below w2.heap.size w2 w8) := HB7.out.trans hb8
                  clear hown8 hb8
                  go_wp2
                  go_roundw
                  case rel => exact ⟨k + 1, by omega, by go_num, HN2, HO8, HB8⟩
                  case measure => simp [intOf]; omega
                · have HX2 : Hid (((wn, wqv), xe) = (([], (0 : Int)), q2)) := (by rw [HX.out, if_neg hq] : ((wn, wqv), xe) = _)
                  obtain ⟨⟨rfl, rfl⟩, rfl⟩ : (wn = [] ∧ wqv = 0) ∧ xe = q2 := by simpa using HX2.out
                  have HWr : Hid (WR = ([], xe)) := HErr.out hq
                  have dq : (xe != 0) = true := by simp [hq]
                  go_wp2
                  go_ret2
                  rw [HWr.out]
                  exact ⟨_, rfl, OwnW.mono (ownW_empty _ w6 (Nat.le_refl _)) (by have := HB6.out.size; omega), (HB2.out.trans (HB6.out.mono hz2)).alloc (by have := HB6.out.size; omega) _⟩
              · have HX : Hid (((wn, wqv), xe) = (([], (0 : Int)), (10 : Int))) := (by rw [HRef'.out, if_neg hg] : ((wn, wqv), xe) = _)
                obtain ⟨⟨rfl, rfl⟩, rfl⟩ : (wn = [] ∧ wqv = 0) ∧ xe = 10 := by simpa using HX.out
                have HWr : Hid (WR = ([], 10)) := HErr.out (by decide)
                have hbad : ((m : Int) == 0) = true ∨ (((m : Int) == 0) = false ∧ (pe != 0) = true) ∨ (((m : Int) == 0) = false ∧ (pe != 0) = false ∧ ((m : Int) + n != (XL : Int)) = true) := by
                  by_cases h1 : m = 0
                  · left; subst h1; rfl
                  · right
                    by_cases h2 : pe = 0
                    · right; exact ⟨by simp [h1], by simp [h2], by simp; intro h3; exact hg ⟨by omega, h2, h3⟩⟩
                    · left; exact ⟨by simp [h1], by simp [h2]⟩
                rcases hbad with z1 | ⟨z1, z2⟩ | ⟨z1, z2, z3⟩
                all_goals
                  go_wp2
                  go_ret2
                  rw [HWr.out]
                  exact ⟨_, rfl, OwnW.mono (ownW_empty _ w5 (Nat.le_refl _)) (by have := HB5.out.size; omega), (HB2.out.trans (HB5.out.mono hz2)).alloc (by have := HB5.out.size; omega) _⟩
      · obtain rfl : k = t.length := by omega
        have HWr : Hid (WR = (t.map (fun x => (wt x).1), 0)) := (by rw [HW.out]; exact wts_ok t hall.out : WR = _)
        rw [List.take_length] at hown
        go_wp2
        go_ret2
        rw [HWr.out]
        exact ⟨_, rfl, OwnW.mono hown.out hz2, HB2.out.trans (hbl.out.mono hz2)⟩
  · have dx : (er != 0) = true := by simp [her]
    have HWr : Hid (WR = ([], er)) := HW0.out her
    clear HW0 HW1
    go_wp2
    go_ret2
    rw [HWr.out]
    exact ⟨_, rfl, OwnW.mono (ownW_empty _ w2 (Nat.le_refl _)) hz2, HB2.out.alloc hz2 _⟩

end Ac
end Go.Proofs.YthaokkdcebmcpaaDoor
