/-
  The document's Normal, Segments.
-/
import Derived.Test.YtodgpcohdaejkabGreatDoorGRp
import Derived.Test.YtodgpcohdaejkabGreatDoorGRq
import Derived.Test.YtodgpcohdaejkabGreatDoorGWd
import Derived.Test.YtodgpcohdaejkabGreatDoorGNm
import Derived.Test.YtodgpcohdaejkabGreatDoorGRd2
set_option linter.unusedVariables false
set_option linter.unusedSimpArgs false
namespace Go.Proofs.YtodgpcohdaejkabGreatDoor
open Go.RowKit Go.Shelf
namespace Tg
open Oc

/-- One step of a region that draws: a text appended. -/
theorem step_apS {ops : Array Oper} {o : Oper} {a : Act} {K : Act → World → Prop} {Q : Exit → Act → World → Prop} {E : Prop} (hgd : o.guard = none) (s x : Operand)
    (ho : o.op = .call { callee := .builtin .append, args := #[s, x], argTypes := #[48, 9] }) (B : Nat) (v : Value) (l : List UInt8) (t : ByteArray) (W : World)
    (hs : a.eval s = v) (hown : Ow B v l W) (hx : a.eval x = .string t) (hlen : l.length + t.size ≤ 140737488355328) (hB : B ≤ W.heap.size)
    (h : ∀ v' w', Hid (Ow B v' (l ++ t.data.toList) w') → Hid (Below B W w') → K (a.put o.dst v') w') : if Region.wanted o (yielded ops a.tmps) = true then Oper.wp Tryz.prog o a W K Q else E := by
  obtain ⟨i0, hi, hz0, hz1, hz2⟩ := inf5
  have hw : Region.wanted o (yielded ops a.tmps) = true := by simp [Region.wanted, hgd]
  rw [if_pos hw]
  obtain ⟨v', w', hrun, h1, h2, _⟩ := Lib.run_append_own_string (P := Tryz.prog) (w := W) B 48 9 o.type 5 i0 Tryz.underlying48 Tryz.underlying9 hi hz0 hz1 hz2 v l.length (Lib.byteCells l) hown t (by unfold maxLen; omega) (by omega) hB
  have := h v' w' (by
    show Ow B v' (l ++ t.data.toList) w'
    unfold Ow
    rw [List.length_append, cells_app]
    rw [show Lib.strCells t = Lib.byteCells t.data.toList by rw [← cells_str, str_self]] at h1
    have e : t.data.toList.length = t.size := size_list t
    rw [e]
    exact h1) ((Below.refl B W).grown h2 hB (fun k hk => (World.ownsRow.lt hown k hk).1))
  unfold Oper.wp
  simp [execOp, ho, resolve, invoke, builtin, hs, hx, hrun, Result.andThen]
  exact this

attribute [local go_sem ↓] Go.wp_at_zero Go.wp_at_succ
set_option maxRecDepth 100000 in
set_option maxHeartbeats 8000000 in
theorem rNormal_any (s : ByteArray) (hs : s.size ≤ 1300000) (w : World) :
    Calls Tryz.prog 9 #[.string s] w fun e w' => e = .returned (.tuple #[.string (str (normR s.data.toList).1), .int .i64 (normR s.data.toList).2]) ∧ Below w.heap.size w w' := by
  have HI : Hid (∀ w, _) := fun w => rIsPath_any s (by omega) w
  cases hp : isPath s.data.toList with
  | false =>
    have hR : normR s.data.toList = ([], 53) := by unfold normR; rw [hp]; rfl
    rw [hR]
    rw [hp] at HI
    clear hR hp
    go_enter Tryz.func9, Tryz.ntmps9
    go_wp2_with fail
    refine (HI.out _).mono ?_
    rintro e w1 ⟨rfl, rfl⟩
    go_wp2
    go_ret2
    exact ⟨rfl, Below.refl _ _⟩
  | true =>
    have hR : normR s.data.toList = (joinS (dots (segs (ntr s.data.toList))), 0) := by unfold normR; rw [hp]; rfl
    rw [hR]
    rw [hp] at HI
    have hl := ntr_len s.data.toList
    have hl1 := ntr_pos hp
    rw [size_list] at hl
    have HP : Hid (∀ w, _) := fun w => plain_any s (by omega) w
    have hN1 : 1 ≤ (str (ntr s.data.toList)).size := by rw [str_size]; exact hl1
    have hNs : (str (ntr s.data.toList)).size ≤ 3900000 := by rw [str_size]; omega
    have hsg : segs (ntr s.data.toList) = splitB 47 ((str (ntr s.data.toList)).extract 1 (str (ntr s.data.toList)).size).data.toList := by
      rw [ext_list, str_list, List.take_of_length_le (by rw [List.length_drop, str_size]; omega)]; rfl
    have hes : ((str (ntr s.data.toList)).extract 1 (str (ntr s.data.toList)).size).size ≤ 3900000 := by
      rw [← size_list, ext_list, List.length_take, str_list, List.length_drop]
      rw [str_size] at hNs ⊢
      omega
    have HS : Hid (∀ w, Calls Tryz.prog 25 #[.string ((str (ntr s.data.toList)).extract 1 (str (ntr s.data.toList)).size), .int .u8 47] w fun e w' => ∃ v, e = .returned v ∧ OwnS w.heap.size v (segs (ntr s.data.toList)) w' ∧ Below w.heap.size w w') := fun w => by
      rw [hsg]
      exact rsplit_any ((str (ntr s.data.toList)).extract 1 (str (ntr s.data.toList)).size) (by omega) 47 w
    have hLl : (segs (ntr s.data.toList)).length ≤ 4194304 := by
      have := split_len 47 ((ntr s.data.toList).drop 1)
      rw [List.length_drop] at this
      unfold segs
      omega
    have hLz : ∀ z ∈ segs (ntr s.data.toList), z.length ≤ 4194304 := by
      intro z hz
      have h1 := join_splitB ((ntr s.data.toList).drop 1)
      have h2 : z.length ≤ (joinS (splitB 47 ((ntr s.data.toList).drop 1))).length := by
        unfold segs at hz
        unfold joinS
        obtain ⟨u, v, e⟩ := List.append_of_mem hz
        rw [e]
        simp
        omega
      rw [h1, List.length_cons, List.length_drop] at h2
      omega
    have hne := segs_ne (ntr s.data.toList)
    clear hR hsg hes
    dsimp only
    generalize str (ntr s.data.toList) = N at *
    generalize segs (ntr s.data.toList) = L at *
    have HZ : Hid (∀ z ∈ dots L, z.length ≤ 4194304) := by
      intro z hz
      rcases (dots_plain L z hz).2 with h | h
      · exact hLz z h
      · subst h; simp
    have hdl : (dots L).length ≤ 4194305 := by
      have := keep_len L
      unfold dots fin
      split
      · simp; omega
      · omega
    have hdn := dots_ne L hne
    have hdots : dots L = if (keep L).2 then (keep L).1 ++ [[]] else (keep L).1 := rfl
    clear hp hl hl1 hLz
    go_enter Tryz.func9, Tryz.ntmps9
    go_wp2_with fail
    refine (HI.out _).mono ?_
    rintro e w1 ⟨rfl, rfl⟩
    go_wp2_with fail
    refine (HP.out _).mono ?_
    rintro e w2 ⟨rfl, hb2⟩
    have H2 : Hid (_) := hb2
    clear hb2
    go_wp2_with fail
    refine (HS.out _).mono ?_
    rintro e w3 ⟨v4, rfl, ho4, hb3⟩
    have HB3 : Hid (_) := H2.out.trans (hb3.mono H2.out.size)
    have HO4 : Hid (OwnS w2.heap.size v4 L w3) := ho4
    obtain ⟨a4, c4, rfl⟩ := ho4.form
    have hL0 : 0 < L.length := List.length_pos_iff.2 hne
    obtain ⟨g4, rfl, hc4, hcell0⟩ := ho4.cell 0 hL0
    have hg4 : g4 < w3.heap.size := cell_lt hcell0
    have HE3 : Hid (_) := ownS_empty w3
    clear ho4 hb3 hcell0
    go_wp2
    go_loopw [5, 6, 7] (fun kv dv i wr => ∃ k : Nat, k ≤ L.length ∧ i = .int .i64 k ∧ dv = .bool (keep (L.take k)).2 ∧ Hid (OwnS w3.heap.size kv (keep (L.take k)).1 wr) ∧ Hid (Below w3.heap.size w3 wr)) (fun _ _ i _ => L.length - (intOf i).toNat)
    case atStart => exact ⟨0, Nat.zero_le _, rfl, rfl, HE3.out, (Below.refl _ w3).alloc (Nat.le_refl _) _⟩
    case round =>
      obtain ⟨k, hk, rfl, rfl, hown, hbl⟩ := hrel
      have hsz := hbl.out.size
      by_cases hlt : k < L.length
      · obtain ⟨g', e', _, hcell⟩ := HO4.out.cell k hlt
        injection e' with e'
        injection e' with e1
        subst e1
        have hce := (hbl.out.cell (p := ⟨g4, k, none⟩) hg4).trans hcell
        have hka : keep (L.take (k + 1)) = stp (keep (L.take k)) (L.getD k []) := by
          rw [List.take_succ_eq_append_getElem hlt, keep_app, List.getD_eq_getElem?_getD, List.getElem?_eq_getElem hlt]; rfl
        have hA : ((str (L.getD k [])).toList == [46]) = decide (L.getD k [] = [46]) := by rw [ByteArray.toList_eq, str_list, Bool.eq_iff_iff]; simp
        have hA2 : ((str (L.getD k [])).toList == [46, 46]) = decide (L.getD k [] = [46, 46]) := by rw [ByteArray.toList_eq, str_list, Bool.eq_iff_iff]; simp
        have hkl := keep_len (L.take k)
        rw [List.length_take] at hkl
        obtain ⟨a5, c5, rfl⟩ := hown.out.form
        clear hcell
        by_cases hz1 : L.getD k [] = [46]
        · have hz2 : ¬ L.getD k [] = [46, 46] := by rw [hz1]; decide
          have HKA : Hid (keep (L.take (k + 1)) = ((keep (L.take k)).1, true)) := by show _ = _; rw [hka]; unfold stp; rw [if_pos hz1]
          rw [decide_eq_true hz1] at hA
          rw [decide_eq_false hz2] at hA2
          clear hka hz1 hz2
          generalize str (L.getD k []) = X at *
          generalize keep (L.take k) = K at *
          go_wp2
          go_roundw
          case rel => exact ⟨k + 1, by omega, by go_num, by rw [HKA.out], (by rw [HKA.out]; exact hown.out : OwnS _ _ _ _), hbl⟩
          case measure => simp [intOf]; omega
        · by_cases hz2 : L.getD k [] = [46, 46]
          · have HKA : Hid (keep (L.take (k + 1)) = ((keep (L.take k)).1.dropLast, true)) := by show _ = _; rw [hka]; unfold stp; rw [if_neg hz1, if_pos hz2]
            rw [decide_eq_false hz1] at hA
            rw [decide_eq_true hz2] at hA2
            clear hka hz1 hz2
            generalize str (L.getD k []) = X at *
            generalize keep (L.take k) = K at *
            have hdr := own_drop hown.out
            have hcap : K.1.length ≤ c5 := by
              rcases hown.out.2 with ⟨e, h0⟩ | ⟨g, c, _, e, _, _, hn, _⟩
              · omega
              · injection e with e1 e2 e3; omega
            have hav : (if c5 = 0 then a5 else Option.map (fun x => x.add 0) a5) = a5 := by
              rcases hown.out.2 with ⟨e, h0⟩ | ⟨g, c, _, e, _⟩
              · injection e with e1; subst e1; simp
              · injection e with e1; subst e1; simp [Addr.add]
            have HDR : Hid (OwnS w3.heap.size (.slice a5 (K.1.length - 1) c5) K.1.dropLast wr) := by
              show OwnS _ _ _ _
              unfold OwnS encL
              rw [List.length_dropLast, List.map_dropLast]
              exact hdr
            clear hdr
            by_cases hk0 : K.1.length = 0
            · have hnil : K.1 = [] := List.length_eq_zero_iff.1 hk0
              have hgt : ¬ 0 < (K.1.length : Int) := by omega
              go_wp2
              go_roundw
              case rel => exact ⟨k + 1, by omega, by go_num, by rw [HKA.out], (by rw [HKA.out, hnil]; rw [hnil] at hown; exact hown.out : OwnS _ _ _ _), hbl⟩
              case measure => simp [intOf]; omega
            · have hgt : 0 < (K.1.length : Int) := by omega
              have hcp1 : ((K.1.length - 1 : Nat) : Int) ≤ (c5 : Int) := by omega
              have hsb : (K.1.length : Int) - 1 = ((K.1.length - 1 : Nat) : Int) := by omega
              go_wp2
              go_roundw
              case rel => exact ⟨k + 1, by omega, by go_num, by rw [HKA.out], (by rw [HKA.out]; exact HDR.out : OwnS _ _ _ _), hbl⟩
              case measure => simp [intOf]; omega
          · have HKA : Hid (keep (L.take (k + 1)) = ((keep (L.take k)).1 ++ [L.getD k []], false)) := by show _ = _; rw [hka]; unfold stp; rw [if_neg hz1, if_neg hz2]
            rw [decide_eq_false hz1] at hA
            rw [decide_eq_false hz2] at hA2
            clear hka hz1 hz2
            generalize L.getD k [] = z at *
            generalize keep (L.take k) = K at *
            go_wp2_with (at_builtin; go_must (refine wp_appS rfl (.tmp 53) (.tmp 58) rfl w3.heap.size _ K.1 _ z rfl hown.out rfl (by omega) hsz ?_); intro v2 w4 o2 b2)
            go_roundw
            case rel => exact ⟨k + 1, by omega, by go_num, by rw [HKA.out], (by rw [HKA.out]; exact o2 : OwnS _ _ _ _), hbl.out.trans b2⟩
            case measure => simp [intOf]; omega
      · obtain rfl : k = L.length := by omega
        rw [List.take_length] at hown
        have HFIN : Hid (dots L = dots L) := rfl
        have hklL := keep_len L
        cases hK2 : (keep L).2 with
        | false =>
          rw [List.take_length, hK2]
          rw [hK2] at hdots
          have hdd : dots L = (keep L).1 := by rw [hdots]; rfl
          have HO5 : Hid (OwnS w3.heap.size u5 (dots L) wr) := by rw [hdd]; exact hown.out
          have HB5 : Hid (Below w1.heap.size w1 wr) := HB3.out.trans (hbl.out.mono HB3.out.size)
          clear hdots hdd hK2 hown
          generalize hDD : dots L = DD at *
          have HDD : Hid (dots L = DD) := hDD
          clear hDD
          generalize hw5 : wr = w5 at *
          have hform := HO5.out.form
          obtain ⟨a5, c5, e5⟩ := hform
          have hne5 : 0 < DD.length := List.length_pos_iff.2 hdn
          obtain ⟨g5, ea5, hc5, _⟩ := (e5 ▸ HO5.out : OwnS w3.heap.size (.slice a5 DD.length c5) DD w5).cell 0 hne5
          subst ea5
          subst e5
          have HN5 : Hid (_) := Ow.none w5
          have hlt5 : g5 < w5.heap.size := by
            obtain ⟨g', e', _, hcell⟩ := HO5.out.cell 0 hne5
            injection e' with e'
            injection e' with e1
            subst e1
            exact cell_lt hcell
          go_wp2
          go_loopw [8, 9] (fun ov i wr => ∃ k : Nat, k ≤ DD.length ∧ i = .int .i64 k ∧ Hid (Ow w5.heap.size ov (joinS (DD.take k)) wr) ∧ Hid (Below w5.heap.size w5 wr)) (fun _ i _ => DD.length - (intOf i).toNat)
          case atStart => exact ⟨0, Nat.zero_le _, rfl, HN5.out, (Below.refl _ w5).alloc (Nat.le_refl _) _⟩
          case round =>
            obtain ⟨k, hk, rfl, hown, hbl⟩ := hrel
            have hsz := hbl.out.size
            by_cases hlt : k < DD.length
            · obtain ⟨g', e', _, hcell⟩ := HO5.out.cell k hlt
              injection e' with e'
              injection e' with e1
              subst e1
              have hce := (hbl.out.cell (p := ⟨g5, k, none⟩) hlt5).trans hcell
              have HT : Hid (joinS (DD.take (k + 1)) = joinS (DD.take k) ++ [47] ++ DD.getD k []) := by
                show _ = _
                rw [List.take_succ_eq_append_getElem hlt, join_app, List.getD_eq_getElem?_getD, List.getElem?_eq_getElem hlt]
                simp [joinS]
              have hzz : (DD.getD k []).length ≤ 4194304 := HZ.out _ (by rw [List.getD_eq_getElem?_getD, List.getElem?_eq_getElem hlt]; exact List.getElem_mem _)
              have HTL : Hid ((joinS (DD.take k)).length ≤ 20000000000000) := by
                show _ ≤ _
                have h1 := joinS_len (DD.take k) 4194304 (fun z hz => HZ.out z (List.mem_of_mem_take hz))
                have h2 : (DD.take k).length ≤ 4194305 := by rw [List.length_take]; omega
                have h3 : (DD.take k).length * (4194304 + 1) ≤ 4194305 * (4194304 + 1) := Nat.mul_le_mul_right _ h2
                omega
              have hxs : (str (DD.getD k [])).size ≤ 4194304 := by rw [str_size]; exact hzz
              have hxl : (str (DD.getD k [])).data.toList = DD.getD k [] := str_list _
              rw [← hxl] at HT
              generalize str (DD.getD k []) = X at *
              generalize joinS (DD.take k) = t at *
              have hce0 : wr.drew.cell? ⟨g5, k, none⟩ = some (.string X) := hce
              have HOd : Hid (Ow w5.heap.size u8 t wr.drew) := hown.out
              have HCS : Hid ((#[Value.int .u8 47] : Array Value).toList = Lib.byteCells [47]) := (rfl : (#[Value.int .u8 47] : Array Value).toList = Lib.byteCells [47])
              have hzw : w5.heap.size ≤ wr.drew.heap.size := hsz
              have hla : wr.drew.heap.size = wr.heap.size := rfl
              have hg5w : g5 < wr.heap.size := Nat.lt_of_lt_of_le hlt5 hsz
              have hce1 : (wr.drew.alloc (.cells #[.int .u8 47] 5)).cell? ⟨g5, k, none⟩ = some (.string X) := (Below.cell ((Below.refl _ wr.drew).alloc (Nat.le_refl _) _) (p := ⟨g5, k, none⟩) hg5w).trans hce0
              go_wp2
              go_region_law (first | (refine step_ap rfl (.tmp 71) (.tmp 72) rfl w5.heap.size u8 t [47] 1 rfl wr.drew _ HCS.out (by simp [Act.eval, Act.put]) HOd.out (by simp [Act.eval, Act.put]) (by have := HTL.out; simp; omega) hzw ?_; intro v2 w2 HO2 HB2; have hce2 := (HB2.out.cell (p := ⟨g5, k, none⟩) hlt5).trans hce0; have hw2 := HB2.out.size) | (refine step_apS rfl (.tmp 73) (.tmp 77) rfl w5.heap.size v2 (t ++ [47]) X w2 (by simp [Act.eval, Act.put]) HO2.out (by simp [Act.eval, Act.put]) (by have := HTL.out; simp; omega) (Nat.le_trans hzw hw2) ?_; intro v3 w3' HO3 HB3))
              all_goals go_wp2
              all_goals exact ⟨⟨k + 1, by omega, by go_num, (by rw [HT.out]; exact HO3.out : Ow w5.heap.size _ (joinS (DD.take (k + 1))) _), hbl.out.drew.trans (HB2.out.trans HB3.out)⟩, by simp [intOf]; omega⟩
            · obtain rfl : k = DD.length := by omega
              have hback := hown.out.back
              rw [List.take_length] at hback
              have hbw : Below w1.heap.size w1 wr := HB5.out.trans (hbl.out.mono HB5.out.size)
              have HBW : Hid (_) := hbw
              clear hbw
              obtain ⟨R, hR⟩ : ∃ R, R = joinS DD := ⟨_, rfl⟩
              rw [← hR] at hback
              have HE : Hid (_ = _) := hR
              clear hR
              go_wp2
              go_ret2
              exact ⟨by rw [HDD.out, ← HE.out]; rfl, HBW.out⟩
        | true =>
          rw [List.take_length, hK2]
          rw [hK2] at hdots
          have hdd : dots L = (keep L).1 ++ [[]] := by rw [hdots]; rfl
          obtain ⟨a6, c6, e6⟩ := hown.out.form
          subst e6
          have hso := hown.out
          go_wp2_with (at_builtin; go_must (refine wp_appS rfl (.tmp 61) (.tmp 62) rfl w3.heap.size _ (keep L).1 _ [] rfl hso rfl (by omega) hsz ?_); intro v2 w5 o2 b2)
          have HO5 : Hid (OwnS w3.heap.size v2 (dots L) w5) := by rw [hdd]; exact o2
          have HB5 : Hid (Below w1.heap.size w1 w5) := HB3.out.trans ((hbl.out.trans b2).mono HB3.out.size)
          clear hdots hdd hK2 hown hso o2 b2
          generalize hDD : dots L = DD at *
          have HDD : Hid (dots L = DD) := hDD
          clear hDD
          have hform := HO5.out.form
          obtain ⟨a5, c5, e5⟩ := hform
          have hne5 : 0 < DD.length := List.length_pos_iff.2 hdn
          obtain ⟨g5, ea5, hc5, _⟩ := (e5 ▸ HO5.out : OwnS w3.heap.size (.slice a5 DD.length c5) DD w5).cell 0 hne5
          subst ea5
          subst e5
          have HN5 : Hid (_) := Ow.none w5
          have hlt5 : g5 < w5.heap.size := by
            obtain ⟨g', e', _, hcell⟩ := HO5.out.cell 0 hne5
            injection e' with e'
            injection e' with e1
            subst e1
            exact cell_lt hcell
          go_wp2
          go_loopw [8, 9] (fun ov i wr => ∃ k : Nat, k ≤ DD.length ∧ i = .int .i64 k ∧ Hid (Ow w5.heap.size ov (joinS (DD.take k)) wr) ∧ Hid (Below w5.heap.size w5 wr)) (fun _ i _ => DD.length - (intOf i).toNat)
          case atStart => exact ⟨0, Nat.zero_le _, rfl, HN5.out, (Below.refl _ w5).alloc (Nat.le_refl _) _⟩
          case round =>
            obtain ⟨k, hk, rfl, hown, hbl⟩ := hrel
            have hsz := hbl.out.size
            by_cases hlt : k < DD.length
            · obtain ⟨g', e', _, hcell⟩ := HO5.out.cell k hlt
              injection e' with e'
              injection e' with e1
              subst e1
              have hce := (hbl.out.cell (p := ⟨g5, k, none⟩) hlt5).trans hcell
              have HT : Hid (joinS (DD.take (k + 1)) = joinS (DD.take k) ++ [47] ++ DD.getD k []) := by
                show _ = _
                rw [List.take_succ_eq_append_getElem hlt, join_app, List.getD_eq_getElem?_getD, List.getElem?_eq_getElem hlt]
                simp [joinS]
              have hzz : (DD.getD k []).length ≤ 4194304 := HZ.out _ (by rw [List.getD_eq_getElem?_getD, List.getElem?_eq_getElem hlt]; exact List.getElem_mem _)
              have HTL : Hid ((joinS (DD.take k)).length ≤ 20000000000000) := by
                show _ ≤ _
                have h1 := joinS_len (DD.take k) 4194304 (fun z hz => HZ.out z (List.mem_of_mem_take hz))
                have h2 : (DD.take k).length ≤ 4194305 := by rw [List.length_take]; omega
                have h3 : (DD.take k).length * (4194304 + 1) ≤ 4194305 * (4194304 + 1) := Nat.mul_le_mul_right _ h2
                omega
              have hxs : (str (DD.getD k [])).size ≤ 4194304 := by rw [str_size]; exact hzz
              have hxl : (str (DD.getD k [])).data.toList = DD.getD k [] := str_list _
              rw [← hxl] at HT
              generalize str (DD.getD k []) = X at *
              generalize joinS (DD.take k) = t at *
              have hce0 : wr.drew.cell? ⟨g5, k, none⟩ = some (.string X) := hce
              have HOd : Hid (Ow w5.heap.size u8 t wr.drew) := hown.out
              have HCS : Hid ((#[Value.int .u8 47] : Array Value).toList = Lib.byteCells [47]) := (rfl : (#[Value.int .u8 47] : Array Value).toList = Lib.byteCells [47])
              have hzw : w5.heap.size ≤ wr.drew.heap.size := hsz
              have hla : wr.drew.heap.size = wr.heap.size := rfl
              have hg5w : g5 < wr.heap.size := Nat.lt_of_lt_of_le hlt5 hsz
              have hce1 : (wr.drew.alloc (.cells #[.int .u8 47] 5)).cell? ⟨g5, k, none⟩ = some (.string X) := (Below.cell ((Below.refl _ wr.drew).alloc (Nat.le_refl _) _) (p := ⟨g5, k, none⟩) hg5w).trans hce0
              go_wp2
              go_region_law (first | (refine step_ap rfl (.tmp 71) (.tmp 72) rfl w5.heap.size u8 t [47] 1 rfl wr.drew _ HCS.out (by simp [Act.eval, Act.put]) HOd.out (by simp [Act.eval, Act.put]) (by have := HTL.out; simp; omega) hzw ?_; intro v2 w2 HO2 HB2; have hce2 := (HB2.out.cell (p := ⟨g5, k, none⟩) hlt5).trans hce0; have hw2 := HB2.out.size) | (refine step_apS rfl (.tmp 73) (.tmp 77) rfl w5.heap.size v2 (t ++ [47]) X w2 (by simp [Act.eval, Act.put]) HO2.out (by simp [Act.eval, Act.put]) (by have := HTL.out; simp; omega) (Nat.le_trans hzw hw2) ?_; intro v3 w3' HO3 HB3))
              all_goals go_wp2
              all_goals exact ⟨⟨k + 1, by omega, by go_num, (by rw [HT.out]; exact HO3.out : Ow w5.heap.size _ (joinS (DD.take (k + 1))) _), hbl.out.drew.trans (HB2.out.trans HB3.out)⟩, by simp [intOf]; omega⟩
            · obtain rfl : k = DD.length := by omega
              have hback := hown.out.back
              rw [List.take_length] at hback
              have hbw : Below w1.heap.size w1 wr := HB5.out.trans (hbl.out.mono HB5.out.size)
              have HBW : Hid (_) := hbw
              clear hbw
              obtain ⟨R, hR⟩ : ∃ R, R = joinS DD := ⟨_, rfl⟩
              rw [← hR] at hback
              have HE : Hid (_ = _) := hR
              clear hR
              go_wp2
              go_ret2
              exact ⟨by rw [HDD.out, ← HE.out]; rfl, HBW.out⟩

end Tg
end Go.Proofs.YtodgpcohdaejkabGreatDoor
