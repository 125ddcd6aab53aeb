/- Several texts as one. -/
import Derived.Test.YtepidekmnkempaaDoorMgM
import Derived.Test.YtepidekmnkempaaDoorMgG
import Derived.Laws.AppendOwnNone
import Derived.Test.YtepidekmnkempaaDoorMgL
/-
  The document's Params.
-/
set_option linter.unusedVariables false
set_option linter.unusedSimpArgs false
namespace Go.Proofs.YtepidekmnkempaaDoor
open Go.RowKit Go.Shelf
namespace Oc

theorem blanks_eq (s : ByteArray) (hs : s.size ≤ 134217728) (x : Int) (a : Nat) (hx : x = (a : Int)) (ha : a ≤ s.size) (w : World) :
    Calls Tryd.prog 56 #[.string s, .int .i64 x] w fun e w' => e = .returned (.int .i64 (bl (s.data.toList.drop a))) ∧ w' = w := by
  subst hx
  exact blanks_any s hs a ha w
theorem signs_eq (s : ByteArray) (hs : s.size ≤ 134217728) (x : Int) (a : Nat) (hx : x = (a : Int)) (ha : a ≤ s.size) (w : World) :
    Calls Tryd.prog 57 #[.string s, .int .i64 x] w fun e w' => e = .returned (.int .i64 (tokLen (s.data.toList.drop a))) ∧ w' = w := by
  subst hx
  exact signs_any s hs a ha w

theorem infoP2 : (Tryd.prog.info? 75).map (fun i => (i.zero, i.size, i.bytes)) = some (some (.agg #[.string ⟨#[]⟩, .string ⟨#[]⟩, .bool false]), 3, 40) := by kernel_rfl

theorem rp_zero {r : List UInt8} (h : tokLen r = 0) : rp r = some ((r.take 0, [], false), 0) := by
  unfold rp
  rw [h, if_neg]
  simp [told]
theorem rp_bare {r : List UInt8} {n : Nat} (h : tokLen r = n) (h2 : told r n = false) : rp r = some ((r.take n, [], false), n) := by
  unfold rp
  rw [h, h2]
  rfl
theorem rp_tok {r : List UInt8} {n m : Nat} (h : tokLen r = n) (h2 : told r n = true) (h3 : tokLen (r.drop (n + 1)) = m) (h4 : 0 < m) : rp r = some ((r.take n, (r.drop (n + 1)).take m, true), n + 1 + m) := by
  unfold rp
  rw [h, h2, if_pos rfl]
  unfold rv
  rw [h3, if_pos h4]
  rfl
theorem rp_quo {r : List UInt8} {n m : Nat} (h : tokLen r = n) (h2 : told r n = true) (h3 : tokLen (r.drop (n + 1)) = 0) (h4 : qlen (r.drop (n + 1)) = m) (h5 : m ≠ 0) :
    ∃ x, unqR (r.drop (n + 1)) = (x, (m : Int), 0) ∧ rp r = some ((r.take n, x, true), n + 1 + m) := by
  refine ⟨psay false (((r.drop (n + 1)).drop 1).take (m - 2)), ?_, ?_⟩
  · unfold unqR
    rw [h4, if_neg h5]
  · unfold rp
    rw [h, h2, if_pos rfl]
    unfold rv
    rw [h3, h4, if_neg (by omega), if_neg h5]
    rfl
theorem rp_err {r : List UInt8} {n : Nat} (h : tokLen r = n) (h2 : told r n = true) (h3 : tokLen (r.drop (n + 1)) = 0) (h4 : qlen (r.drop (n + 1)) = 0) : rp r = none := by
  unfold rp
  rw [h, h2, if_pos rfl]
  unfold rv
  rw [h3, h4, if_neg (by omega), if_pos rfl]
  rfl

set_option maxRecDepth 100000 in
set_option maxHeartbeats 4000000 in
theorem rParams_any (s : ByteArray) (hs : s.size ≤ 134217728) (w : World) :
    Calls Tryd.prog 32 #[.string s] w fun e w' => ∃ v, e = .returned (.tuple #[v, .int .i64 (paramsR s.data.toList).2.1, .int .i64 (paramsR s.data.toList).2.2]) ∧ OwnP 75 w.heap.size v (paramsR s.data.toList).1 w' ∧ Below w.heap.size w w' := by
  go_enter Tryd.func32, Tryd.ntmps32
  go_wp2
  go_loopw [5, 6] (fun lv ev wr => ∃ (e0 : Nat) (acc : List Prm), e0 ≤ s.size ∧ ev = .int .i64 e0 ∧ acc.length ≤ e0 ∧ Hid (prm s.data.toList = (prm (s.data.toList.drop e0)).map (fun y => (acc ++ y.1, e0 + y.2))) ∧ Hid (OwnP 75 w.heap.size lv acc wr) ∧ Hid (Below w.heap.size w wr)) (fun _ ev _ => s.size - (intOf ev).toNat)
  case atStart => exact ⟨0, [], Nat.zero_le _, rfl, Nat.le_refl _, (by simp : prm s.data.toList = (prm (s.data.toList.drop 0)).map (fun y => ([] ++ y.1, 0 + y.2))), ownP_empty _ w (Nat.le_refl _), (Below.refl _ w).alloc (Nat.le_refl _) _⟩
  case round =>
    obtain ⟨e0, acc, he0, rfl, hacc, hst, hown, hbl⟩ := hrel
    have hsz := hbl.out.size
    have hb1 := bl_le (s.data.toList.drop e0)
    rw [List.length_drop, size_list] at hb1
    have HSemi : Hid (semi (s.data.toList.drop e0) (bl (s.data.toList.drop e0)) = decide (e0 + bl (s.data.toList.drop e0) < s.size ∧ byt s (e0 + bl (s.data.toList.drop e0)) = 59)) := by
      show semi _ _ = _
      unfold semi byt
      rw [List.length_drop, size_list, Bool.eq_iff_iff, decide_eq_true_iff, decide_eq_true_iff, drop_getD]
      constructor
      · rintro ⟨h1, h2⟩; exact ⟨by omega, by rw [h2]; rfl⟩
      · rintro ⟨h1, h2⟩; exact ⟨by omega, UInt8.toNat_inj.1 (by show _ = 59; omega)⟩
    have HStop : Hid (semi (s.data.toList.drop e0) (bl (s.data.toList.drop e0)) = false → paramsR s.data.toList = (acc, (e0 : Int), 0)) := fun h => paramsR_some (x := (acc, e0)) (by rw [hst.out, prm_end (pstep_stop h)]; simp)
    by_cases hgo : e0 + bl (s.data.toList.drop e0) < s.size ∧ byt s (e0 + bl (s.data.toList.drop e0)) = 59
    · have HGo : Hid (semi (s.data.toList.drop e0) (bl (s.data.toList.drop e0)) = true) := (by rw [HSemi.out]; exact decide_eq_true hgo : semi _ _ = true)
      obtain ⟨hg1, hg2⟩ := hgo
      have hby : ((s[e0 + bl (s.data.toList.drop e0)].toNat : Nat) : Int) = byt s (e0 + bl (s.data.toList.drop e0)) := byt_at s _ hg1
      have hge : ¬ ((s.size : Int) ≤ (e0 : Int) + (bl (s.data.toList.drop e0) : Int)) := by omega
      have h59 : (byt s (e0 + bl (s.data.toList.drop e0)) != 59) = false := by simp [hg2]
      have HD1 : Hid (s.data.toList.drop (e0 + bl (s.data.toList.drop e0) + 1) = (s.data.toList.drop e0).drop (bl (s.data.toList.drop e0) + 1)) := (by rw [List.drop_drop, Nat.add_assoc] : s.data.toList.drop (e0 + bl (s.data.toList.drop e0) + 1) = _)
      have hb2 := bl_le ((s.data.toList.drop e0).drop (bl (s.data.toList.drop e0) + 1))
      rw [List.length_drop, List.length_drop, size_list] at hb2
      have HD2 : Hid (∀ d, s.data.toList.drop (e0 + bl (s.data.toList.drop e0) + 1 + d) = ((s.data.toList.drop e0).drop (bl (s.data.toList.drop e0) + 1)).drop d) := fun d => drop_three _ _ _ _
      have HBad : Hid (rp (((s.data.toList.drop e0).drop (bl (s.data.toList.drop e0) + 1)).drop (bl ((s.data.toList.drop e0).drop (bl (s.data.toList.drop e0) + 1)))) = none → paramsR s.data.toList = ([], 0, 15)) := fun h => paramsR_none (by rw [hst.out, prm_none (pstep_bad HGo.out h)]; rfl)
      have HEmpty : Hid (∀ x, rp (((s.data.toList.drop e0).drop (bl (s.data.toList.drop e0) + 1)).drop (bl ((s.data.toList.drop e0).drop (bl (s.data.toList.drop e0) + 1)))) = some x → x.2 = 0 → prm s.data.toList = (prm (s.data.toList.drop (e0 + (bl (s.data.toList.drop e0) + 1)))).map (fun y => ((acc ++ []) ++ y.1, (e0 + (bl (s.data.toList.drop e0) + 1)) + y.2))) := fun x h h0 => prm_step hst.out (pstep_empty HGo.out h h0)
      have HOne : Hid (∀ x, rp (((s.data.toList.drop e0).drop (bl (s.data.toList.drop e0) + 1)).drop (bl ((s.data.toList.drop e0).drop (bl (s.data.toList.drop e0) + 1)))) = some x → x.2 ≠ 0 → prm s.data.toList = (prm (s.data.toList.drop (e0 + (bl (s.data.toList.drop e0) + 1 + bl ((s.data.toList.drop e0).drop (bl (s.data.toList.drop e0) + 1)) + x.2)))).map (fun y => ((acc ++ [x.1]) ++ y.1, (e0 + (bl (s.data.toList.drop e0) + 1 + bl ((s.data.toList.drop e0).drop (bl (s.data.toList.drop e0) + 1)) + x.2)) + y.2))) := fun x h h0 => prm_step hst.out (pstep_one HGo.out h h0)
      clear hg2 HSemi HStop
      generalize hc2 : bl ((s.data.toList.drop e0).drop (bl (s.data.toList.drop e0) + 1)) = c2 at *
      have HC2 : Hid (bl ((s.data.toList.drop e0).drop (bl (s.data.toList.drop e0) + 1)) = c2) := hc2
      clear hc2
      go_wp2_with fail
      refine (blanks_eq s hs _ e0 rfl he0 _).mono ?_
      rintro e w2 ⟨rfl, rfl⟩
      generalize bl (s.data.toList.drop e0) = c1 at *
      go_wp2_with fail
      refine (blanks_eq s hs _ (e0 + c1 + 1) (by omega) (by omega) _).mono ?_
      rintro e w3 ⟨rfl, rfl⟩
      rw [HD1.out, HC2.out]
      have HT3 : Hid (s.data.toList.drop (e0 + c1 + 1 + c2) = ((s.data.toList.drop e0).drop (c1 + 1)).drop c2) := HD2.out c2
      have hr3l : (((s.data.toList.drop e0).drop (c1 + 1)).drop c2).length = s.size - (e0 + c1 + 1 + c2) := by rw [← HT3.out, List.length_drop, size_list]
      have HTD : Hid (∀ n, told (((s.data.toList.drop e0).drop (c1 + 1)).drop c2) n = decide (0 < n ∧ e0 + c1 + 1 + c2 + n < s.size ∧ byt s (e0 + c1 + 1 + c2 + n) = 61)) := by
        intro n
        unfold told byt
        rw [hr3l, Bool.eq_iff_iff, decide_eq_true_iff, decide_eq_true_iff, ← HT3.out, drop_getD]
        constructor
        · rintro ⟨h0, h1, h2⟩; exact ⟨h0, by omega, by rw [h2]; rfl⟩
        · rintro ⟨h0, h1, h2⟩; exact ⟨h0, by omega, UInt8.toNat_inj.1 (by show _ = 61; omega)⟩
      have HNx : Hid (∀ n, (((s.data.toList.drop e0).drop (c1 + 1)).drop c2).drop n = s.data.toList.drop (e0 + c1 + 1 + c2 + n)) := fun n => by rw [← HT3.out, List.drop_drop]
      have hn3 := tokLen_le (((s.data.toList.drop e0).drop (c1 + 1)).drop c2)
      rw [hr3l] at hn3
      clear hr3l
      generalize ((s.data.toList.drop e0).drop (c1 + 1)).drop c2 = r3 at *
      go_wp2_with fail
      refine (signs_eq s hs _ (e0 + c1 + 1 + c2) (by omega) (by omega) _).mono ?_
      rintro e w4 ⟨rfl, rfl⟩
      rw [HT3.out]
      by_cases hz : tokLen r3 = 0
      · have HN := HEmpty.out _ (rp_zero hz) rfl
        rw [List.append_nil, show e0 + (c1 + 1) = e0 + c1 + 1 by omega] at HN
        have HN' : Hid (prm s.data.toList = (prm (s.data.toList.drop (e0 + c1 + 1))).map (fun y => (acc ++ y.1, (e0 + c1 + 1) + y.2))) := HN
        clear HN
        rw [hz]
        go_wp2
        go_roundw
        case rel => exact ⟨e0 + c1 + 1, acc, by omega, by go_num, by omega, HN', hown, hbl⟩
        case measure => simp [intOf]; omega
      · generalize hn : tokLen r3 = n at *
        have HTok : Hid (tokLen r3 = n) := hn
        clear hn
        have HNm : Hid (s.extract (e0 + c1 + 1 + c2) (e0 + c1 + 1 + c2 + n) = str (r3.take n)) := (by rw [ext_take, HT3.out] : s.extract (e0 + c1 + 1 + c2) (e0 + c1 + 1 + c2 + n) = _)
        have hn0 : ((n : Int) == 0) = false := by simp; omega
        by_cases htd : e0 + c1 + 1 + c2 + n < s.size ∧ byt s (e0 + c1 + 1 + c2 + n) = 61
        · have HTold : Hid (told r3 n = true) := (by rw [HTD.out n]; exact decide_eq_true ⟨by omega, htd⟩ : told r3 n = true)
          obtain ⟨ht1, ht2⟩ := htd
          have hby3 : ((s[e0 + c1 + 1 + c2 + n].toNat : Nat) : Int) = byt s (e0 + c1 + 1 + c2 + n) := byt_at s _ ht1
          have h61 : (byt s (e0 + c1 + 1 + c2 + n) == 61) = true := by simp [ht2]
          have HN1 : Hid (r3.drop (n + 1) = s.data.toList.drop (e0 + c1 + 1 + c2 + n + 1)) := (by rw [HNx.out]; rfl : r3.drop (n + 1) = _)
          have hm := tokLen_le (s.data.toList.drop (e0 + c1 + 1 + c2 + n + 1))
          rw [List.length_drop, size_list] at hm
          clear ht2
          go_wp2_with fail
          refine (signs_eq s hs _ (e0 + c1 + 1 + c2 + n + 1) (by omega) (by omega) _).mono ?_
          rintro e w5 ⟨rfl, rfl⟩
          by_cases hm0 : 0 < tokLen (s.data.toList.drop (e0 + c1 + 1 + c2 + n + 1))
          · have HRP := rp_tok HTok.out HTold.out (by rw [HN1.out]) hm0
            rw [HN1.out] at HRP
            have HN := HOne.out _ HRP (by show _ + _ ≠ 0; omega)
            have HVal : Hid (s.extract (e0 + c1 + 1 + c2 + n + 1) (e0 + c1 + 1 + c2 + n + 1 + tokLen (s.data.toList.drop (e0 + c1 + 1 + c2 + n + 1))) = str ((s.data.toList.drop (e0 + c1 + 1 + c2 + n + 1)).take (tokLen (s.data.toList.drop (e0 + c1 + 1 + c2 + n + 1))))) := ext_take _ _ _
            clear HRP
            generalize tokLen (s.data.toList.drop (e0 + c1 + 1 + c2 + n + 1)) = m at *
            rw [show e0 + (c1 + 1 + c2 + (n + 1 + m)) = e0 + c1 + 1 + c2 + n + 1 + m by omega] at HN
            generalize (s.data.toList.drop (e0 + c1 + 1 + c2 + n + 1)).take m = vl at *
            have HN' : Hid (prm s.data.toList = (prm (s.data.toList.drop (e0 + c1 + 1 + c2 + n + 1 + m))).map (fun y => ((acc ++ [(r3.take n, vl, true)]) ++ y.1, (e0 + c1 + 1 + c2 + n + 1 + m) + y.2))) := HN
            clear HN
            have hmz : ((m : Int) == 0) = false := by simp; omega
            have HO5 : Hid (∀ o, OwnP 75 w.heap.size _ acc (w4.alloc o)) := fun o => hown.out.below ((Below.refl _ _).alloc (Nat.le_refl _) o)
            have HB5 : Hid (∀ o, Below w.heap.size w (w4.alloc o)) := fun o => hbl.out.alloc hsz o
            go_wp2_with (at_builtin; go_must (refine wp_appP 75 28 infoP2 Tryd.underlying28 rfl (.tmp 95) (.tmp 97) rfl w.heap.size _ acc _ (r3.take n, vl, true) _ _ HNm.out HVal.out _ rfl rfl (HO5.out _) _ rfl (by simp) ?h1 ?h2 ?_))
            case h1 => omega
            case h2 => first | omega | (simp; omega)
            intro v6 w6 hown6 hb6
            have HO6 : Hid (OwnP 75 w.heap.size v6 (acc ++ [(r3.take n, vl, true)]) w6) := hown6
            have HB6 : Hid (Below w.heap.size w w6) := (HB5.out _).trans hb6
            clear hown6 hb6
            go_wp2
            go_roundw
            case rel => exact ⟨e0 + c1 + 1 + c2 + n + 1 + m, _, by omega, by go_num, by simp; omega, HN', HO6, HB6⟩
            case measure => simp [intOf]; omega
          · have hmz : tokLen (s.data.toList.drop (e0 + c1 + 1 + c2 + n + 1)) = 0 := by omega
            rw [hmz]
            have HMZ : Hid (tokLen (r3.drop (n + 1)) = 0) := (by rw [HN1.out]; exact hmz : tokLen _ = 0)
            have HE5 : Hid ((s.extract (e0 + c1 + 1 + c2 + n + 1) s.size).data.toList = r3.drop (n + 1)) := (by rw [Lib.extract_to_end, HN1.out] : (s.extract (e0 + c1 + 1 + c2 + n + 1) s.size).data.toList = _)
            have hql := (qlen_bd (r3.drop (n + 1))).1
            rw [HN1.out, List.length_drop, size_list] at hql
            clear hmz hm0 hm
            have Hp0 : Hid (∀ o, Below w.heap.size w (w4.alloc o)) := fun o => hbl.out.alloc hsz o
            have HO5 : Hid (∀ o, OwnP 75 w.heap.size _ acc (w4.alloc o)) := fun o => hown.out.below ((Below.refl _ _).alloc (Nat.le_refl _) o)
            by_cases hq : qlen (r3.drop (n + 1)) = 0
            · have HN : Hid (paramsR s.data.toList = ([], 0, 15)) := HBad.out (rp_err HTok.out HTold.out HMZ.out hq)
              have HU : Hid (unqR (r3.drop (n + 1)) = ([], 0, 13)) := unqR_q _ hq
              go_wp2_with fail
              refine (rUnquote_any (s.extract (e0 + c1 + 1 + c2 + n + 1) s.size) (by simp; omega) _).mono ?_
              rintro e w6 ⟨rfl, hb6⟩
              rw [HE5.out, HU.out]
              have hs6 := hb6.size
              simp at hs6
              go_wp2
              go_ret3
              rw [HN.out]
              exact ⟨_, rfl, ownP_empty _ _ (by omega), ((Hp0.out _).trans (hb6.mono (by simp; omega))).alloc (by omega) _⟩
            · obtain ⟨x, hx1, hx2⟩ := rp_quo HTok.out HTold.out HMZ.out rfl hq
              have HN := HOne.out _ hx2 (by show _ + _ ≠ 0; omega)
              have HU : Hid (unqR (r3.drop (n + 1)) = (x, (qlen (r3.drop (n + 1)) : Int), 0)) := hx1
              clear hx1 hx2
              rw [HN1.out] at hq HU HN
              generalize qlen (s.data.toList.drop (e0 + c1 + 1 + c2 + n + 1)) = m at *
              simp only at HN
              rw [show e0 + (c1 + 1 + c2 + (n + 1 + m)) = e0 + c1 + 1 + c2 + n + 1 + m by omega] at HN
              have HN' : Hid (prm s.data.toList = (prm (s.data.toList.drop (e0 + c1 + 1 + c2 + n + 1 + m))).map (fun y => ((acc ++ [(r3.take n, x, true)]) ++ y.1, (e0 + c1 + 1 + c2 + n + 1 + m) + y.2))) := HN
              clear HN
              go_wp2_with fail
              refine (rUnquote_any (s.extract (e0 + c1 + 1 + c2 + n + 1) s.size) (by simp; omega) _).mono ?_
              rintro e w6 ⟨rfl, hb6⟩
              rw [HE5.out, HN1.out, HU.out]
              have k0 : w6.cell? ⟨w4.heap.size, 0, none⟩ = some (.string (s.extract (e0 + c1 + 1 + c2) (e0 + c1 + 1 + c2 + n))) := (hb6.cell (p := ⟨w4.heap.size, 0, none⟩) (by simp)).trans (by simp)
              have k1 : w6.cell? ⟨w4.heap.size, 1, none⟩ = some (.string ByteArray.empty) := (hb6.cell (p := ⟨w4.heap.size, 1, none⟩) (by simp)).trans (by simp)
              have k2 : w6.cell? ⟨w4.heap.size, 2, none⟩ = some (.bool true) := (hb6.cell (p := ⟨w4.heap.size, 2, none⟩) (by simp)).trans (by simp)
              have kf : w6.frozen? ⟨w4.heap.size, 1, none⟩ = false := (hb6.frozen (p := ⟨w4.heap.size, 1, none⟩) (by simp)).trans (by simp)
              have hs6 : w4.heap.size < w6.heap.size := by have := hb6.size; simp at this; omega
              have bx : ∀ u, Below w4.heap.size w4 (w6.setCell ⟨w4.heap.size, 1, none⟩ u) := fun u => (((Below.refl _ _).alloc (Nat.le_refl _) _).trans (hb6.mono (by simp))).setCell (Nat.le_refl _) u
              have HO7 : Hid (∀ u, OwnP 75 w.heap.size _ acc (w6.setCell ⟨w4.heap.size, 1, none⟩ u)) := fun u => hown.out.below (bx u)
              have HB7 : Hid (∀ u, Below w.heap.size w (w6.setCell ⟨w4.heap.size, 1, none⟩ u)) := fun u => hbl.out.trans ((bx u).mono hsz)
              clear bx hb6
              generalize hy : str x = y
              have HY : Hid (y = str x) := hy.symm
              clear hy
              go_wp2_with (at_builtin; go_must (refine wp_appP 75 28 infoP2 Tryd.underlying28 rfl (.tmp 95) (.tmp 97) rfl w.heap.size _ acc _ (r3.take n, x, true) _ _ HNm.out HY.out _ rfl rfl (HO7.out _) _ rfl (by simp) ?h1 ?h2 ?_))
              case h1 => omega
              case h2 => first | omega | (simp; omega)
              intro v7 w7 hown7 hb7
              have HO8 : Hid (OwnP 75 w.heap.size v7 (acc ++ [(r3.take n, x, true)]) w7) := hown7
              have HB8 : Hid (Below w.heap.size w w7) := (HB7.out _).trans hb7
              clear hown7 hb7
              go_wp2
              go_roundw
              case rel => exact ⟨e0 + c1 + 1 + c2 + n + 1 + m, _, by omega, by go_num, by simp; omega, HN', HO8, HB8⟩
              case measure => simp [intOf]; omega
        · have HTold : Hid (told r3 n = false) := (by rw [HTD.out n]; exact decide_eq_false (fun h => htd h.2) : told r3 n = false)
          have HN := HOne.out _ (rp_bare HTok.out HTold.out) hz
          rw [show e0 + (c1 + 1 + c2 + n) = e0 + c1 + 1 + c2 + n by omega] at HN
          have HN' : Hid (prm s.data.toList = (prm (s.data.toList.drop (e0 + c1 + 1 + c2 + n))).map (fun y => ((acc ++ [(r3.take n, [], false)]) ++ y.1, (e0 + c1 + 1 + c2 + n) + y.2))) := HN
          clear HN
          have HO5 : Hid (∀ o, OwnP 75 w.heap.size _ acc (w4.alloc o)) := fun o => hown.out.below ((Below.refl _ _).alloc (Nat.le_refl _) o)
          have HB5 : Hid (∀ o, Below w.heap.size w (w4.alloc o)) := fun o => hbl.out.alloc hsz o
          have hts : ¬ ((e0 : Int) + (c1 : Int) + 1 + (c2 : Int) + (n : Int) < (s.size : Int)) ∨ ∃ h : e0 + c1 + 1 + c2 + n < s.size, ((s[e0 + c1 + 1 + c2 + n].toNat : Nat) : Int) = byt s (e0 + c1 + 1 + c2 + n) ∧ (byt s (e0 + c1 + 1 + c2 + n) == 61) = false := by
            by_cases h1 : e0 + c1 + 1 + c2 + n < s.size
            · right; exact ⟨h1, byt_at s _ h1, by simp; exact fun e => htd ⟨h1, e⟩⟩
            · left; omega
          clear htd
          rcases hts with t1 | ⟨hlt, t2, t3⟩
          all_goals
            go_wp2_with (at_builtin; go_must (refine wp_appP 75 28 infoP2 Tryd.underlying28 rfl (.tmp 95) (.tmp 97) rfl w.heap.size _ acc _ (r3.take n, [], false) _ _ HNm.out rfl _ rfl rfl (HO5.out _) _ rfl (by simp) ?h1 ?h2 ?_))
            case h1 => omega
            case h2 => first | omega | (simp; omega)
            intro v6 w6 hown6 hb6
            have HO6 : Hid (OwnP 75 w.heap.size v6 (acc ++ [(r3.take n, [], false)]) w6) := hown6
            have HB6 : Hid (Below w.heap.size w w6) := (HB5.out _).trans hb6
            clear hown6 hb6
            go_wp2
            go_roundw
            case rel => exact ⟨e0 + c1 + 1 + c2 + n, _, by omega, by go_num, by simp; omega, HN', HO6, HB6⟩
            case measure => simp [intOf]; omega
    · have HN : Hid (paramsR s.data.toList = (acc, (e0 : Int), 0)) := HStop.out (by rw [HSemi.out]; exact decide_eq_false hgo)
      have hts : ((s.size : Int) ≤ (e0 : Int) + (bl (s.data.toList.drop e0) : Int)) ∨ ¬ ((s.size : Int) ≤ (e0 : Int) + (bl (s.data.toList.drop e0) : Int)) ∧ ∃ h : e0 + bl (s.data.toList.drop e0) < s.size, ((s[e0 + bl (s.data.toList.drop e0)].toNat : Nat) : Int) = byt s (e0 + bl (s.data.toList.drop e0)) ∧ (byt s (e0 + bl (s.data.toList.drop e0)) != 59) = true := by
        by_cases h1 : e0 + bl (s.data.toList.drop e0) < s.size
        · right
          exact ⟨by omega, h1, byt_at s _ h1, by simp; exact fun e => hgo ⟨h1, e⟩⟩
        · left; omega
      clear hgo HSemi HStop
      rcases hts with t1 | ⟨t1, hlt, t2, t3⟩
      all_goals
        go_wp2_with fail
        refine (blanks_eq s hs _ e0 rfl he0 _).mono ?_
        rintro e w2 ⟨rfl, rfl⟩
        generalize bl (s.data.toList.drop e0) = c1 at *
        go_wp2
        go_ret3
        rw [HN.out]
        exact ⟨_, rfl, hown.out, hbl.out⟩

end Oc
end Go.Proofs.YtepidekmnkempaaDoor

/-
  A slice of texts appended to one of the call's own.
-/
set_option linter.unusedVariables false
set_option linter.unusedSimpArgs false
namespace Go.Proofs.YtepidekmnkempaaDoor
open Go.RowKit Go.Shelf
namespace Oc

theorem wpList_wanted {P : Program} {ops : Array Oper} {rest : List Oper} {o : Oper} {a : Act} {w : World} {Q : Exit → Act → World → Prop} (hw : Region.wanted o (yielded ops a.tmps) = true)
    (h : o.wp P a w (wpList P ops Q rest) Q) : wpList P ops Q (o :: rest) a w := by
  rw [wpList, if_pos hw]
  exact .inl h

theorem wp_appR {ops : Array Oper} {rest : List Oper} {o : Oper} {a : Act} {W : World} {Q : Exit → Act → World → Prop} (hw : Region.wanted o (yielded ops a.tmps) = true) (s x : Operand)
    (ho : o.op = .call { callee := .builtin .append, args := #[s, x], argTypes := #[57, 57] }) (B : Nat) (v y : Value) (t u : List (List UInt8))
    (hs : a.eval s = v) (hown : OwnS B v t W) (hx : a.eval x = y) (hy : RdS y u W) (hnil : u = [] → y = .slice none 0 0 ∨ ∃ g c, y = .slice (some g) 0 c) (hlen : t.length + u.length ≤ 4294967296) (hB : B ≤ W.heap.size)
    (h : ∀ v' w', OwnS B v' (t ++ u) w' → Below B W w' → wpList Tryd.prog ops Q rest (a.put o.dst v') w') : wpList Tryd.prog ops Q (o :: rest) a W := by
  obtain ⟨i0, hi, hz0, hz1, hz2⟩ := infoS
  refine wpList_wanted hw ?_
  have own' : ∀ (ad : Addr) (c : Nat), y = .slice (some ad) u.length c → (∀ j, j < u.length → W.cell? (ad.add j) = some (.string (str (u.getD j [])))) → o.wp Tryd.prog a W (wpList Tryd.prog ops Q rest) Q := by
    intro ad c ey hcell
    refine wp_append_own W s x 57 ho B 9 i0 (.string ⟨#[]⟩) 1 16 Tryd.underlying57 hi hz0 hz1 hz2 rfl (by decide) v t.length _ hs hown ad u.length c (encS u) (hx.trans ey) (by simp [encS]) ?_ ?_ ?_ ?_ hB ?_
    · intro j z hj
      have hjl : j < u.length := by
        have := (List.getElem?_eq_some_iff.1 hj).1
        simpa [encS] using this
      rw [hcell j hjl]
      unfold encS at hj
      rw [List.getElem?_map, List.getElem?_eq_getElem hjl] at hj
      rw [List.getD_eq_getElem?_getD, List.getElem?_eq_getElem hjl]
      simpa using hj
    · intro z hz
      unfold encS at hz
      obtain ⟨l, _, rfl⟩ := List.mem_map.1 hz
      rfl
    · unfold maxLen; omega
    · omega
    · intro v' w' h1 h2 _
      refine h v' w' ?_ ((Below.refl B W).grown h2 hB (fun k hk => (World.ownsRow.lt hown k hk).1))
      unfold OwnS
      rw [List.length_append]
      simpa [encS] using h1
  obtain ⟨a2, c2, rfl, hr⟩ := hy
  by_cases hu : u = []
  · subst hu
    rcases hnil rfl with e | ⟨g, c, e⟩
    · have hrun := run_append_owned_none (P := Tryd.prog) (w := W) B 57 o.type 9 i0 1 Tryd.underlying57 hi v t.length _ hown
      have hx' : a.eval x = .slice none 0 0 := hx.trans e
      unfold Oper.wp
      simp [execOp, ho, resolve, invoke, builtin, hs, hx', hrun, Result.andThen]
      have := h v W (by simpa using hown) (Below.refl _ _)
      exact this
    · exact own' g c e (fun j hj => by simp at hj)
  · rcases hr with hr | ⟨g, o', rfl, hc, hcell⟩
    · exact absurd hr hu
    · refine own' ⟨g, o', none⟩ c2 rfl (fun j hj => ?_)
      have ea : Addr.add ⟨g, o', none⟩ j = ⟨g, o' + j, none⟩ := by unfold Addr.add; split <;> simp_all
      rw [ea]
      exact hcell j hj
theorem OwnS.nilish {B : Nat} {v : Value} {t : List (List UInt8)} {w : World} (h : OwnS B v t w) : t = [] → v = .slice none 0 0 ∨ ∃ g c, v = .slice (some g) 0 c := by
  intro e
  subst e
  rcases h.2 with ⟨rfl, _⟩ | ⟨g, cap, cur, rfl, _⟩
  · exact .inl rfl
  · exact .inr ⟨_, _, rfl⟩

theorem listR_split {a b : List UInt8} (ha : (listR a).2 = 0) (hb : (listR b).2 = 0) : listR (a ++ 44 :: b) = ((listR a).1 ++ (listR b).1, 0) := by
  unfold listR at *
  cases h1 : lst [] a with
  | none => rw [h1] at ha; cases ha
  | some t =>
    cases h2 : lst [] b with
    | none => rw [h2] at hb; cases hb
    | some u =>
      rw [lst_split a.length a [] b t (Nat.le_refl _) h1, h2]
      rfl

end Oc
end Go.Proofs.YtepidekmnkempaaDoor

/-
  The document's weight, Weights; the law's sameWeights.
-/
set_option linter.unusedVariables false
set_option linter.unusedSimpArgs false
namespace Go.Proofs.YtepidekmnkempaaDoor
open Go.RowKit Go.Shelf
namespace Ac
open Oc Tg

theorem infoQ2 : (Tryd.prog.info? 75).map (fun i => (i.zero, i.size, i.bytes)) = some (some (.agg #[.string ⟨#[]⟩, .string ⟨#[]⟩, .bool false]), 3, 40) := by kernel_rfl
theorem take_nthP (t : List Prm) (k : Nat) (h : k < t.length) : t.take (k + 1) = t.take k ++ [nth t k] := by
  unfold nth
  rw [List.take_add_one, List.getElem?_eq_getElem h, List.getD_eq_getElem?_getD, List.getElem?_eq_getElem h]; rfl
/-- Is its name q, in either case? -/
def isQr (p : Prm) : Bool := decide (lower p.1 = [113])
/-- How many stand ahead of the first q. -/
def rAt (ps : List Prm) : Nat := match ps.findIdx? isQr with | some k => k | none => ps.length
theorem low_q (p : Prm) : isQ (lowP p) = isQr p := rfl
theorem rfind (ps : List Prm) : (ps.map lowP).find? isQ = (ps.find? isQr).map lowP := by
  rw [List.find?_map]
  rfl
theorem rwq (ps : List Prm) : wq (ps.map lowP) = match ps.find? isQr with | none => (1000, 0) | some p => qual p.2.1 := by
  unfold wq
  rw [rfind]
  cases ps.find? isQr <;> rfl
theorem rwq_none {ps : List Prm} (h : ∀ j, j < ps.length → isQr (nth ps j) = false) : wq (ps.map lowP) = (1000, 0) := by
  rw [rwq]
  have : ps.find? isQr = none := by
    rw [List.find?_eq_none]
    intro x hx
    obtain ⟨j, hj, rfl⟩ := List.mem_iff_getElem.1 hx
    have := h j hj
    unfold nth at this
    rw [List.getD_eq_getElem?_getD, List.getElem?_eq_getElem hj] at this
    simpa using this
  rw [this]
theorem rwq_at {ps : List Prm} {k : Nat} (hk : k < ps.length) (h1 : isQr (nth ps k) = true) (h : ∀ j, j < k → isQr (nth ps j) = false) : wq (ps.map lowP) = qual (nth ps k).2.1 := by
  rw [rwq]
  have e : nth ps k = ps[k] := by unfold nth; rw [List.getD_eq_getElem?_getD, List.getElem?_eq_getElem hk]; rfl
  have : ps.find? isQr = some ps[k] := by
    rw [List.find?_eq_some_iff_getElem]
    refine ⟨by rw [← e]; exact h1, k, hk, rfl, fun j hj => ?_⟩
    have := h j hj
    unfold nth at this
    rw [List.getD_eq_getElem?_getD, List.getElem?_eq_getElem (by omega)] at this
    simpa using this
  rw [this, e]

set_option maxRecDepth 100000 in
set_option maxHeartbeats 4000000 in
theorem rweight_any (v : Value) (ps : List Prm) (hM : EachP 1048576 ps) (hB : Bare ps) (hl : ps.length ≤ 16777216) (w : World) (hrd : RdP v ps w) :
    Calls Tryd.prog 23 #[v] w fun e w' => ∃ u, e = .returned (.tuple #[u, .int .i64 (wq (ps.map lowP)).1, .int .i64 (wq (ps.map lowP)).2]) ∧ Below w.heap.size w w' := by
  have HR : Hid (RdP v ps w) := hrd
  have HM : Hid (EachP 1048576 ps) := hM
  have HBa : Hid (Bare ps) := hB
  obtain ⟨a, c, rfl, _⟩ := hrd
  clear hM hB
  go_enter Tryd.func23, Tryd.ntmps23
  go_wp2
  go_loopw [5, 6] (fun ov iv wr => ∃ k : Nat, k ≤ ps.length ∧ iv = .int .i64 k ∧ Hid (∀ j, j < k → isQr (nth ps j) = false) ∧ Hid (OwnP 75 w.heap.size ov (ps.take k) wr) ∧ Hid (Below w.heap.size w wr)) (fun _ iv _ => ps.length - (intOf iv).toNat)
  case atStart => exact ⟨0, Nat.zero_le _, rfl, (fun j hj => by omega : ∀ j, j < 0 → _), ownP_empty _ w (Nat.le_refl _), (Below.refl _ w).alloc (Nat.le_refl _) _⟩
  case round =>
    obtain ⟨k, hk, rfl, hall, hown, hbl⟩ := hrel
    have hsz := hbl.out.size
    by_cases hlt : k < ps.length
    · obtain ⟨a', c', e', hcs⟩ := HR.out.below hbl.out
      injection e' with e1 _ e2
      subst e1 e2
      rcases hcs with h | ⟨g, o, rfl, hlc, hcell⟩
      · rw [h] at hlt; simp at hlt
      obtain ⟨p0, p1, p2⟩ := hcell k hlt
      have hgw : g < wr.heap.size := World.block_lt_of_cell? wr _ p0
      clear hcell
      have hx := HM.out.at k hlt
      have HLw : Hid (∀ w, Calls Tryd.prog 33 #[.string (str (nth ps k).1)] w fun e w' => e = .returned (.string (str (lower (nth ps k).1))) ∧ Below w.heap.size w w') := fun w => by
        have := rLower_any (str (nth ps k).1) (by rw [str_size]; unfold maxLen; omega) w
        unfold lowS at this
        rw [str_list] at this
        exact this
      have HQl : Hid (∀ w, Calls Tryd.prog 40 #[.string (str (nth ps k).2.1)] w fun e w' => e = .returned (.tuple #[.int .i64 (qual (nth ps k).2.1).1, .int .i64 (qual (nth ps k).2.1).2]) ∧ w' = w) := fun w => by
        have := rQuality_any (str (nth ps k).2.1) (by rw [str_size]; unfold maxLen; omega) w
        rw [str_list] at this
        exact this
      have HEq : Hid (((str (lower (nth ps k).1)).toList == [113]) = isQr (nth ps k)) := by
        show _ = _
        have h := veq (lower (nth ps k).1) [113]
        have e : (str [113]).toList = [113] := by rw [Lib.toList_data]; rfl
        rw [e] at h
        exact h
      have HHit : Hid (isQr (nth ps k) = true → wq (ps.map lowP) = qual (nth ps k).2.1) := (fun h => rwq_at hlt h hall.out : _ → wq _ = _)
      have HNo : Hid (isQr (nth ps k) = true → (nth ps k).2.2 = false → qual (nth ps k).2.1 = (0, 71)) := (fun _ h => by
        have hm : nth ps k ∈ ps := by
          unfold nth
          rw [List.getD_eq_getElem?_getD, List.getElem?_eq_getElem hlt]
          exact List.getElem_mem hlt
        rw [HBa.out _ hm h]
        exact qual_nil : _ → _ → qual _ = _)
      have HNext : Hid (isQr (nth ps k) = false → ∀ j, j < k + 1 → isQr (nth ps j) = false) := (fun h j hj => by
        by_cases hjk : j = k
        · subst hjk; exact h
        · exact hall.out j (by omega) : _ → ∀ j, _)
      have HTk : Hid (ps.take (k + 1) = ps.take k ++ [nth ps k]) := take_nthP ps k hlt
      have hlk : (ps.take k).length + 1 ≤ 2147483648 := by rw [List.length_take]; omega
      generalize qual (nth ps k).2.1 = QL at *
      obtain ⟨q1, q2⟩ := QL
      dsimp only at HQl
      generalize isQr (nth ps k) = isq at *
      generalize nth ps k = p at *
      obtain ⟨pn, pv, pb⟩ := p
      dsimp only at p0 p1 p2 HLw HQl HEq HNo
      generalize str (lower pn) = LN at *
      generalize hn : str pn = n at p0 HLw
      generalize hv : str pv = vv at p1 HQl
      have HNe : Hid (n = str pn) := hn.symm
      have HVe : Hid (vv = str pv) := hv.symm
      clear hn hv hx
      go_wp2_with fail
      refine (HLw.out _).mono ?_
      rintro e w5 ⟨rfl, hb5⟩
      have d0 := (hb5.cell (p := ⟨g, o + k * 3, none⟩) hgw).trans p0
      have d1 := (hb5.cell (p := ⟨g, o + k * 3 + 1, none⟩) hgw).trans p1
      have d2 := (hb5.cell (p := ⟨g, o + k * 3 + 2, none⟩) hgw).trans p2
      have HB5 : Hid (Below w.heap.size w w5) := bel_trans hbl.out hb5
      have HO5 : Hid (OwnP 75 w.heap.size _ (ps.take k) w5) := hown.out.below hb5
      have hz5 := HB5.out.size
      clear hb5 p0 p1 p2
      cases isq with
      | true =>
        have hq := HEq.out
        have HH : Hid (wq (ps.map lowP) = (q1, q2)) := (by first | exact HHit.out rfl | exact HHit.out trivial : wq (ps.map lowP) = (q1, q2))
        cases pb with
        | false =>
          have HH2 : Hid ((q1, q2) = ((0 : Int), (71 : Int))) := (by first | exact HNo.out rfl rfl | exact HNo.out trivial trivial | exact HNo.out trivial rfl : (q1, q2) = ((0 : Int), (71 : Int)))
          go_wp2
          go_ret3
          rw [HH.out, HH2.out]
          exact ⟨_, rfl, HB5.out⟩
        | true =>
          go_wp2_with fail
          refine (HQl.out _).mono ?_
          rintro e w6 ⟨rfl, hw6⟩
          rw [hw6]
          clear hw6
          go_wp2
          go_ret3
          rw [HH.out]
          exact ⟨_, rfl, HB5.out⟩
      | false =>
        have hq := HEq.out
        have HN2 : Hid (∀ j, j < k + 1 → isQr (nth ps j) = false) := (by first | exact HNext.out rfl | exact HNext.out trivial : ∀ j, j < k + 1 → isQr (nth ps j) = false)
        go_wp2_with (at_builtin; go_must (refine wp_appP 75 28 infoQ2 Tryd.underlying28 rfl (.tmp 42) (.tmp 47) rfl w.heap.size _ (ps.take k) _ (pn, pv, pb) _ _ HNe.out HVe.out _ rfl (by simp [Act.eval, Act.put]) HO5.out _ (by simp [Act.eval, Act.put]) rfl hlk hz5 ?_; intro v7 w7 hown7 hb7))
        have HO7 : Hid (OwnP 75 w.heap.size v7 (ps.take (k + 1)) w7) := (by rw [HTk.out]; exact hown7 : OwnP _ _ _ _ _)
        have HB7 : Hid (Below w.heap.size w w7) := HB5.out.trans hb7
        clear hown7 hb7
        go_wp2
        go_roundw
        case rel => exact ⟨k + 1, by omega, by go_num, HN2, HO7, HB7⟩
        case measure => simp [intOf]; omega
    · have HE : Hid (wq (ps.map lowP) = (1000, 0)) := rwq_none (fun j hj => hall.out j (by omega))
      go_wp2
      go_ret3
      rw [HE.out]
      exact ⟨_, rfl, hbl.out⟩

theorem wt_ref (l : List UInt8) : wt l = if 0 < tokLen l ∧ (paramsR (l.drop (tokLen l))).2.2 = 0 ∧ (tokLen l : Int) + (paramsR (l.drop (tokLen l))).2.1 = l.length then (if (wq ((paramsR (l.drop (tokLen l))).1.map lowP)).2 = 0 then ((lower (l.take (tokLen l)), (wq ((paramsR (l.drop (tokLen l))).1.map lowP)).1), 0) else (([], 0), (wq ((paramsR (l.drop (tokLen l))).1.map lowP)).2)) else (([], 0), 10) := by
  unfold wt
  rw [wrd_eq]
  unfold wrdR full
  have hl := tokLen_le l
  have e : (0 < tokLen l ∧ (paramsR (l.drop (tokLen l))).2.2 = 0 ∧ (paramsR (l.drop (tokLen l))).2.1 = ((l.drop (tokLen l)).length : Int)) ↔ (0 < tokLen l ∧ (paramsR (l.drop (tokLen l))).2.2 = 0 ∧ (tokLen l : Int) + (paramsR (l.drop (tokLen l))).2.1 = l.length) := by
    rw [List.length_drop]
    constructor
    · rintro ⟨a, b, c⟩; exact ⟨a, b, by omega⟩
    · rintro ⟨a, b, c⟩; exact ⟨a, b, by omega⟩
  by_cases hc : 0 < tokLen l ∧ (paramsR (l.drop (tokLen l))).2.2 = 0 ∧ (paramsR (l.drop (tokLen l))).2.1 = ((l.drop (tokLen l)).length : Int)
  · rw [if_pos hc, if_pos (e.1 hc)]
    rfl
  · rw [if_neg hc, if_neg (fun h => hc (e.2 h))]
theorem tokAt (l : List UInt8) (k : Nat) (h : k < tokLen l) : tokB (l.getD k 0) = true := by
  have hl := tokLen_le l
  refine tw_take (p := tokB) l _ ?_
  have hk : k < (l.take (tokLen l)).length := by rw [List.length_take]; omega
  have e : (l.take (tokLen l))[k] = l.getD k 0 := by
    rw [List.getElem_take, List.getD_eq_getElem?_getD, List.getElem?_eq_getElem (by omega)]; rfl
  rw [← e]
  exact List.getElem_mem hk
theorem tokOut (l : List UInt8) (h : tokLen l < l.length) : tokB (l.getD (tokLen l) 0) = false := by
  refine tw_drop (p := tokB) l _ ?_
  show (l.drop (tokLen l)).head? = _
  rw [List.drop_eq_getElem_cons h, List.getD_eq_getElem?_getD, List.getElem?_eq_getElem h]; rfl

end Ac
end Go.Proofs.YtepidekmnkempaaDoor
