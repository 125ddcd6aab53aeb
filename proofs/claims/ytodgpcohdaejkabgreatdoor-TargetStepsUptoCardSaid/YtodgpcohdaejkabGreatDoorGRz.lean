/-
  target: Resolve; the document's Resolve.
-/
import Derived.Test.YtodgpcohdaejkabGreatDoorGRn
import Derived.Test.YtodgpcohdaejkabGreatDoorGPl5
set_option linter.unusedVariables false
set_option linter.unusedSimpArgs false
namespace Go.Proofs.YtodgpcohdaejkabGreatDoor
open Go.RowKit Go.Shelf
namespace Tg
open Oc

theorem data_at (s : ByteArray) (i : Nat) (h : i < s.size) : ((s.data[i]!).toNat : Int) = byt s i := by
  unfold byt
  rw [List.getD_eq_getElem?_getD, List.getElem?_eq_getElem (by rw [size_list]; exact h)]
  have : i < s.data.size := h
  rw [getElem!_pos s.data i this]
  simp
/-- The last slash of a path. -/
theorem last_of (s : ByteArray) (h : isPath s.data.toList = true) : ∃ i : Nat, i < s.size ∧ Lib.lastIndexByte s 47 = i ∧ byt s i = 47 ∧ (∀ j, i < j → j < s.size → byt s j ≠ 47) := by
  have hh := path_head h
  have h0 : 0 < s.size ∧ byt s 0 = 47 := by
    cases hl : s.data.toList with
    | nil => rw [hl] at hh; cases hh
    | cons c t =>
      rw [hl] at hh
      have e : c = 47 := by simpa using hh
      refine ⟨by rw [← size_list, hl]; simp, ?_⟩
      unfold byt
      rw [hl, e]
      rfl
  rcases Lib.lastIdx_spec s 47 s.size with ⟨_, hall⟩ | ⟨i, hi, e, hc, hb⟩
  · exact absurd h0.2 (by rw [← data_at s 0 h0.1]; exact hall 0 h0.1)
  · exact ⟨i, hi, e, by rw [← data_at s i hi]; exact hc, fun j h1 h2 => by rw [← data_at s j h2]; exact hb j h1 h2⟩
theorem split_last (s : ByteArray) (i : Nat) (hi : i < s.size) (hc : byt s i = 47) (hb : ∀ j, i < j → j < s.size → byt s j ≠ 47) :
    s.data.toList = s.data.toList.take i ++ 47 :: s.data.toList.drop (i + 1) ∧ 47 ∉ s.data.toList.drop (i + 1) ∧ (s.extract 0 (i + 1)).data.toList = dirL s.data.toList := by
  have e1 : s.data.toList.getD i 0 = 47 := UInt8.toNat_inj.1 (by unfold byt at hc; show _ = 47; omega)
  have e2 : s.data.toList = s.data.toList.take i ++ 47 :: s.data.toList.drop (i + 1) := by
    rw [← e1, ← drop_cons s i hi, List.take_append_drop]
  have e3 : 47 ∉ s.data.toList.drop (i + 1) := by
    intro hm
    obtain ⟨j, hj, e⟩ := List.mem_iff_getElem.1 hm
    rw [List.length_drop, size_list] at hj
    refine hb (i + 1 + j) (by omega) (by omega) ?_
    unfold byt
    rw [List.getElem_drop] at e
    rw [List.getD_eq_getElem?_getD, List.getElem?_eq_getElem (by rw [size_list]; omega)]
    simp [e]
  refine ⟨e2, e3, ?_⟩
  conv => rhs; rw [e2, dirL_eq _ _ e3]
  rw [ext_list, List.drop_zero, Nat.sub_zero, List.take_succ_eq_append_getElem (by rw [size_list]; exact hi)]
  congr 1
  rw [List.getD_eq_getElem?_getD, List.getElem?_eq_getElem (by rw [size_list]; exact hi)] at e1
  simpa using e1
theorem cat_list (a b : ByteArray) : (a ++ b).data.toList = a.data.toList ++ b.data.toList := by rw [ByteArray.data_append, Array.toList_append]

set_option maxRecDepth 100000 in
set_option maxHeartbeats 2000000 in
theorem Resolve_any (p r : ByteArray) (hs : p.size + r.size ≤ 1300000) (w : World) (hm : ML w) :
    Calls Tryz.prog 14 #[.string p, .string r] w fun e w' => e = .returned (.tuple #[.string (str (resR p.data.toList r.data.toList).1), .int .i64 (resR p.data.toList r.data.toList).2]) ∧ Below w.heap.size w w' := by
  have HI : Hid (∀ w, _) := fun w => isPath_any p (by omega) w
  have HO : Hid (∀ w, _) := fun w => isOf_any r (by omega) 15 pathOk ok_path path37 w
  have HM : Hid (ML w) := hm
  clear hm
  cases hp : isPath p.data.toList with
  | false =>
    have hR : resR p.data.toList r.data.toList = ([], 53) := by unfold resR; rw [hp]; rfl
    rw [hR]
    rw [hp] at HI
    clear hR hp
    go_enter Tryz.func14, Tryz.ntmps14
    go_wp2_with fail
    refine (HI.out _).mono ?_
    rintro e w1 ⟨rfl, hb⟩
    go_wp2
    go_ret2
    exact ⟨rfl, hb⟩
  | true =>
    rw [hp] at HI
    obtain ⟨i, hi, hli, hc, hbh⟩ := last_of p hp
    obtain ⟨e1, e2, e3⟩ := split_last p i hi hc hbh
    cases hr : allOk pathOk r.data.toList with
    | false =>
      rw [hr] at HO
      have hR : resR p.data.toList r.data.toList = ([], 53) := by
        unfold resR
        rw [if_pos hp, if_neg (by intro e; rw [e, allOk_nil] at hr; cases hr)]
        split
        · unfold normR; rw [if_neg (by unfold isPath; rw [hr, Bool.and_false]; simp)]
        · unfold normR
          rw [if_neg (by
            have := res_bad _ _ r.data.toList (by rw [← e1]; exact path_ok hp) e2 hr
            rw [← e1] at this
            rw [this]; simp)]
      rw [hR]
      clear hR hp hr e1 e2 e3 hli hc hbh
      go_enter Tryz.func14, Tryz.ntmps14
      go_wp2_with fail
      refine (HI.out _).mono ?_
      rintro e w1 ⟨rfl, hb⟩
      have H1 : Hid (_) := hb
      clear hb
      go_wp2_with fail
      refine (HO.out _).mono ?_
      rintro e w2 ⟨rfl, hb2⟩
      have H2 : Hid (Below w.heap.size w w2) := H1.out.trans (hb2.mono H1.out.size)
      clear hb2
      go_wp2
      go_ret2
      exact ⟨rfl, H2.out⟩
    | true =>
      rw [hr] at HO
      by_cases hr0 : r.size = 0
      · have hl : r.data.toList = [] := List.length_eq_zero_iff.1 (by rw [size_list]; exact hr0)
        have he : r.toList.isEmpty = true := by rw [ByteArray.toList_eq, hl]; rfl
        have hR : resR p.data.toList r.data.toList = normR p.data.toList := by unfold resR; rw [if_pos hp, if_pos hl]
        rw [hR]
        have HN : Hid (∀ w, ML w → _) := fun w h => Normal_any p (by omega) w h
        clear hR hp hr e1 e2 e3 hli hc hbh hl
        generalize normR p.data.toList = NR at *
        obtain ⟨n1, n2⟩ := NR
        dsimp only at *
        go_enter Tryz.func14, Tryz.ntmps14
        go_wp2_with fail
        refine (HI.out _).mono ?_
        rintro e w1 ⟨rfl, hb⟩
        have H1 : Hid (_) := hb
        clear hb
        go_wp2_with fail
        refine (HO.out _).mono ?_
        rintro e w2 ⟨rfl, hb2⟩
        have H2 : Hid (Below w.heap.size w w2) := H1.out.trans (hb2.mono H1.out.size)
        clear hb2
        go_wp2_with fail
        refine (HN.out _ (HM.out.below H2.out)).mono ?_
        rintro e w3 ⟨rfl, hb3⟩
        have H3 : Hid (Below w.heap.size w w3) := H2.out.trans (hb3.mono H2.out.size)
        clear hb3
        go_wp2
        go_ret2
        exact ⟨rfl, H3.out⟩
      · have hlt : 0 < r.size := by omega
        have hcr := drop_cons r 0 hlt
        rw [List.drop_zero] at hcr
        have hne : r.data.toList ≠ [] := by rw [hcr]; simp
        have he : r.toList.isEmpty = false := by rw [ByteArray.toList_eq]; cases h : r.data.toList with | nil => exact absurd h hne | cons _ _ => rfl
        have h0 : ((r[0].toNat : Nat) : Int) = ((r.data.toList.getD 0 0).toNat : Int) := by rw [getD_of r 0 hlt]
        have hhd : r.data.toList.head? = some (r.data.toList.getD 0 0) := by conv => lhs; rw [hcr]
                                                                             rfl
        by_cases hcc : r.data.toList.getD 0 0 = 47
        · have hR : resR p.data.toList r.data.toList = normR r.data.toList := by unfold resR; rw [if_pos hp, if_neg hne, hhd, hcc, if_pos rfl]
          rw [hR]
          have HN : Hid (∀ w, ML w → _) := fun w h => Normal_any r (by omega) w h
          rw [hcc] at h0
          clear hR hp hr e1 e2 e3 hli hc hbh hcr hne hhd hcc
          generalize normR r.data.toList = NR at *
          obtain ⟨n1, n2⟩ := NR
          dsimp only at *
          go_enter Tryz.func14, Tryz.ntmps14
          go_wp2_with fail
          refine (HI.out _).mono ?_
          rintro e w1 ⟨rfl, hb⟩
          have H1 : Hid (_) := hb
          clear hb
          go_wp2_with fail
          refine (HO.out _).mono ?_
          rintro e w2 ⟨rfl, hb2⟩
          have H2 : Hid (Below w.heap.size w w2) := H1.out.trans (hb2.mono H1.out.size)
          clear hb2
          go_wp2_with fail
          refine (HN.out _ (HM.out.below H2.out)).mono ?_
          rintro e w3 ⟨rfl, hb3⟩
          have H3 : Hid (Below w.heap.size w w3) := H2.out.trans (hb3.mono H2.out.size)
          clear hb3
          go_wp2
          go_ret2
          exact ⟨rfl, H3.out⟩
        · have hR : resR p.data.toList r.data.toList = normR (p.extract 0 (i + 1) ++ r).data.toList := by
            unfold resR
            rw [if_pos hp, if_neg hne, hhd, if_neg (by intro e; injection e with e; exact hcc e), cat_list, e3]
          rw [hR]
          have hes : (p.extract 0 (i + 1)).size = i + 1 := by rw [← size_list, ext_list, List.drop_zero, List.length_take, size_list]; omega
          have hcs : (p.extract 0 (i + 1) ++ r).size = i + 1 + r.size := by rw [← size_list, cat_list, List.length_append, size_list, size_list, hes]
          have HN : Hid (∀ w, ML w → _) := fun w h => Normal_any (p.extract 0 (i + 1) ++ r) (by omega) w h
          have HL : Hid (∀ w, _) := fun w => Tryz.strings_LastIndexByte p 47 (by omega) w
          rw [hli] at HL
          have hb47 : (((r.data.toList.getD 0 0).toNat : Int) == 47) = false := by
            rw [beq_eq_false_iff_ne]
            intro e
            exact hcc (UInt8.toNat_inj.1 (by show _ = 47; omega))
          generalize r.data.toList.getD 0 0 = c at *
          clear hR hp hr e1 e2 e3 hli hc hbh hcr hne hhd hcc
          generalize normR (p.extract 0 (i + 1) ++ r).data.toList = NR at *
          obtain ⟨n1, n2⟩ := NR
          dsimp only at *
          go_enter Tryz.func14, Tryz.ntmps14
          go_wp2_with fail
          refine (HI.out _).mono ?_
          rintro e w1 ⟨rfl, hb⟩
          have H1 : Hid (_) := hb
          clear hb
          go_wp2_with fail
          refine (HO.out _).mono ?_
          rintro e w2 ⟨rfl, hb2⟩
          have H2 : Hid (Below w.heap.size w w2) := H1.out.trans (hb2.mono H1.out.size)
          clear hb2
          go_wp2_with fail
          refine (HL.out _).mono ?_
          rintro e w3 ⟨rfl, rfl⟩
          go_wp2_with fail
          refine (HN.out _ (HM.out.below H2.out)).mono ?_
          rintro e w4 ⟨rfl, hb3⟩
          have H3 : Hid (Below w.heap.size w w4) := H2.out.trans (hb3.mono H2.out.size)
          clear hb3
          go_wp2
          go_ret2
          exact ⟨rfl, H3.out⟩

end Tg
end Go.Proofs.YtodgpcohdaejkabGreatDoor
