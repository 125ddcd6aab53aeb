/-
  TargetDots: the walk.
-/
import Derived.Test.YtodgpcohdaejkabGreatDoorGRy
import Derived.Test.YtodgpcohdaejkabGreatDoorGPl6
set_option linter.unusedVariables false
set_option linter.unusedSimpArgs false
namespace Go.Proofs.YtodgpcohdaejkabGreatDoor
open Go.RowKit Go.Shelf
namespace Tg
open Oc

theorem ntr_le (l : List UInt8) : (ntr l).length ≤ l.length := by
  rw [ntr_zs]
  conv => rhs; rw [← zs_flat l]
  have hok := zs_ok l
  revert hok
  generalize zs l = k
  intro hok
  induction k with
  | nil => exact Nat.le_refl _
  | cons z r ih =>
    rw [List.flatMap_cons, List.flatten_cons, List.length_append, List.length_append]
    have h1 := ih fun u hu => hok u (by simp [hu])
    have h2 : (ntZ z).length ≤ z.length := by
      rcases hok z (by simp) with ⟨h3, ht⟩ | ⟨h1, _⟩
      · match z, h3 with
        | [a, b, c], _ =>
          have e : ntZ [a, b, c] = encB (byteOf b c) := by simp [ntZ, valZ, enc]
          rw [e]
          unfold encB
          split <;> simp
      · unfold ntZ
        rw [if_neg (by omega)]
        exact Nat.le_refl _
    omega
theorem fold_join (k : List (List UInt8)) : ∀ a : List (List UInt8) × Bool, (joinS (k.foldl stp a).1).length + (if (k.foldl stp a).2 then 1 else 0) ≤ (joinS a.1).length + (if a.2 then 1 else 0) + (joinS k).length := by
  induction k with
  | nil => intro a; exact Nat.le_refl _
  | cons z r ih =>
    intro a
    have h := ih (stp a z)
    rw [List.foldl_cons]
    have e : (joinS (z :: r)).length = 1 + z.length + (joinS r).length := by simp [joinS]; omega
    have hd : (joinS a.1.dropLast).length ≤ (joinS a.1).length := by
      cases hh : a.1 with
      | nil => exact Nat.le_refl _
      | cons x t =>
        rw [← hh]
        have hne : a.1 ≠ [] := by rw [hh]; simp
        conv => rhs; rw [← List.dropLast_concat_getLast hne]
        rw [join_app, List.length_append]
        omega
    have h2 : (joinS (stp a z).1).length + (if (stp a z).2 then 1 else 0) ≤ (joinS a.1).length + (if a.2 then 1 else 0) + (1 + z.length) := by
      unfold stp
      split
      · simp; omega
      · split
        · simp; omega
        · dsimp only
          rw [join_app, List.length_append]
          have : (joinS [z]).length = 1 + z.length := by simp [joinS]; omega
          simp
          omega
    omega
theorem dots_le (k : List (List UInt8)) : (joinS (dots k)).length ≤ (joinS k).length := by
  have h := fold_join k ([], false)
  unfold dots fin keep
  split
  · rename_i h2
    rw [h2] at h
    rw [join_app, List.length_append]
    have : (joinS [[]]).length = 1 := rfl
    simp [joinS] at h ⊢
    omega
  · simp [joinS] at h ⊢
    omega
theorem norm_le {l : List UInt8} (h : isPath l = true) : (joinS (dots ((segs l).map ntr))).length ≤ l.length := by
  refine Nat.le_trans (dots_le _) ?_
  rw [← ntr_join _ (segs_whole h), join_segs l (path_head h)]
  exact ntr_le l

set_option maxRecDepth 100000 in
set_option maxHeartbeats 8000000 in
theorem walk_TargetDots (p : ByteArray) (hs : p.size ≤ 1048576) (a : Int) (ha : (Lit.int .i64 a).wf = true) (w : World) (hm : ML w) :
    Calls Tryz.prog 4 #[.string p, .int .i64 a] w fun e w' => e = .returned (.bool true) ∧ Below w.heap.size w w' := by
  have ha' : -9223372036854775808 ≤ a ∧ a ≤ 9223372036854775807 := by simpa [Lit.wf, IntKind.min, IntKind.max, IntKind.signed, IntKind.bits] using ha
  clear ha
  have HA : Hid (∀ w, ML w → _) := fun w h => awake_any w h
  have HN : Hid (∀ w, ML w → _) := fun w h => Normal_any p (by omega) w h
  have HM : Hid (ML w) := hm
  clear hm
  cases hp : isPath p.data.toList with
  | false =>
    have hR : normR p.data.toList = ([], 53) := by unfold normR; rw [hp]; rfl
    have HR : Hid (∀ w, _) := fun w => rNormal_any p (by omega) w
    rw [hR] at HN HR
    have hse : (str []).toList.isEmpty = true := by rw [ByteArray.toList_eq, str_list]; rfl
    clear hR hp
    go_enter Tryz.func4, Tryz.ntmps4
    go_wp2_with fail
    refine (HN.out _ HM.out).mono ?_
    rintro e w1 ⟨rfl, h1⟩
    have H1 : Hid (Below w.heap.size w w1) := h1
    clear h1
    go_wp2_with fail
    refine (HR.out _).mono ?_
    rintro e w2 ⟨rfl, h2⟩
    have H2 : Hid (Below w.heap.size w w2) := H1.out.trans (h2.mono H1.out.size)
    clear h2
    go_wp2_with fail
    refine (HA.out _ (HM.out.below H2.out)).mono ?_
    rintro e w3 ⟨rfl, h3⟩
    have H3 : Hid (Below w.heap.size w w3) := H2.out.trans (h3.mono H2.out.size)
    clear h3
    go_wp2
    go_ret
    exact ⟨rfl, H3.out⟩
  | true =>
    have hR := normR_path hp
    have hk := nf_of hp
    have hle := norm_le hp
    rw [size_list] at hle
    rw [hR] at HN
    generalize dots ((segs p.data.toList).map ntr) = k at *
    have hnn := hk.norm
    have hns : (str (joinS k)).size ≤ 1048576 := by rw [str_size]; omega
    have HN2 : Hid (∀ w, ML w → Calls Tryz.prog 8 #[.string (str (joinS k))] w fun e w' => e = .returned (.tuple #[.string (str (joinS k)), .int .i64 0]) ∧ Below w.heap.size w w') := fun w h => by
      have := Normal_any (str (joinS k)) (by omega) w h
      rw [str_list, hnn] at this
      exact this
    have HS : Hid (∀ w, ML w → Calls Tryz.prog 10 #[.string (str (joinS k))] w fun e w' => ∃ v, e = .returned (.tuple #[v, .int .i64 0]) ∧ OwnS w.heap.size v (k.map fun z => (decR z).1) w' ∧ Below w.heap.size w w') := fun w h => by
      have := Segments_any (str (joinS k)) (by omega) w h
      rw [str_list, hk.segR] at this
      exact this
    have hkd : ∀ z ∈ (k.map fun z => (decR z).1), z ≠ [46] ∧ z ≠ [46, 46] := by
      intro z hz
      obtain ⟨u, hu, rfl⟩ := List.mem_map.1 hz
      exact hk.dots u hu
    have hkl : (k.map fun z => (decR z).1).length ≤ 1048577 := by
      rw [List.length_map]
      have h1 := split_len 47 ((joinS k).drop 1)
      have h2 := splitB_join k hk.ne hk.no
      unfold segs at h2
      rw [h2, List.length_drop] at h1
      omega
    have HAT : Hid (∀ i : Nat, i < (str (joinS k)).size → byt (str (joinS k)) i = 47 → (∀ w, ML w → Calls Tryz.prog 8 #[.string ((str (joinS k)).extract 0 i ++ ⟨#[47, 46]⟩ ++ (str (joinS k)).extract i (str (joinS k)).size)] w fun e w' => e = .returned (.tuple #[.string (str (joinS k)), .int .i64 0]) ∧ Below w.heap.size w w') ∧ (∀ w, ML w → Calls Tryz.prog 8 #[.string ((str (joinS k)).extract 0 i ++ ⟨#[47, 120, 47, 46, 46]⟩ ++ (str (joinS k)).extract i (str (joinS k)).size)] w fun e w' => e = .returned (.tuple #[.string (str (joinS k)), .int .i64 0]) ∧ Below w.heap.size w w')) := by
      intro i hi hb
      rw [str_size] at hi
      have h47 : (joinS k)[i]? = some 47 := by
        unfold byt at hb
        rw [str_list, List.getD_eq_getElem?_getD, List.getElem?_eq_getElem hi] at hb
        rw [List.getElem?_eq_getElem hi]
        congr 1
        exact UInt8.toNat_inj.1 (by simp at hb; show _ = 47; omega)
      obtain ⟨a, b, e1, e2, e3, e4⟩ := at_slash k hk.no i h47
      have x1 : ((str (joinS k)).extract 0 i).data.toList = joinS a := by rw [ext_list, str_list, List.drop_zero, Nat.sub_zero, e3]
      have x2 : ((str (joinS k)).extract i (str (joinS k)).size).data.toList = joinS b := by rw [ext_list, str_list, List.take_of_length_le (by rw [List.length_drop, str_size]; omega), e4]
      have hsz : (joinS a).length + (joinS b).length = (joinS k).length := by rw [e1, join_app, List.length_append]
      subst e1
      constructor
      · intro w h
        have := Normal_any ((str (joinS (a ++ b))).extract 0 i ++ ⟨#[47, 46]⟩ ++ (str (joinS (a ++ b))).extract i (str (joinS (a ++ b))).size) (by rw [← size_list, cat_list, cat_list, x1, x2, List.length_append, List.length_append]; simp; omega) w h
        rw [cat_list, cat_list, x1, x2, show (⟨#[47, 46]⟩ : ByteArray).data.toList = [47, 46] from rfl, hk.dot e2] at this
        exact this
      · intro w h
        have := Normal_any ((str (joinS (a ++ b))).extract 0 i ++ ⟨#[47, 120, 47, 46, 46]⟩ ++ (str (joinS (a ++ b))).extract i (str (joinS (a ++ b))).size) (by rw [← size_list, cat_list, cat_list, x1, x2, List.length_append, List.length_append]; simp; omega) w h
        rw [cat_list, cat_list, x1, x2, show (⟨#[47, 120, 47, 46, 46]⟩ : ByteArray).data.toList = [47, 120, 47, 46, 46] from rfl, hk.updown e2] at this
        exact this
    clear hR hk hle hp hnn
    dsimp only at HN
    generalize str (joinS k) = n at *
    generalize hD : (k.map fun z => (decR z).1) = D at *
    have HKD : Hid (_) := hkd
    clear hkd hD
    go_enter Tryz.func4, Tryz.ntmps4
    go_wp2_with fail
    refine (HN.out _ HM.out).mono ?_
    rintro e w1 ⟨rfl, h1⟩
    have H1 : Hid (Below w.heap.size w w1) := h1
    clear h1
    go_wp2_with fail
    refine (HN2.out _ (HM.out.below H1.out)).mono ?_
    rintro e w2 ⟨rfl, h2⟩
    have H2 : Hid (Below w.heap.size w w2) := H1.out.trans (h2.mono H1.out.size)
    clear h2
    go_wp2_with fail
    refine (HS.out _ (HM.out.below H2.out)).mono ?_
    rintro e w3 ⟨v, rfl, ho3, h3⟩
    have H3 : Hid (Below w.heap.size w w3) := H2.out.trans (h3.mono H2.out.size)
    have HO : Hid (OwnS w2.heap.size v D w3) := ho3
    clear h3
    obtain ⟨av, cv, rfl⟩ := ho3.form
    clear ho3
    go_wp2
    go_loop [13] (fun i => ∃ j : Nat, j ≤ D.length ∧ i = .int .i64 j) (fun i => D.length - (intOf i).toNat)
    case atStart => exact ⟨0, Nat.zero_le _, rfl⟩
    case round =>
      obtain ⟨j, hj, rfl⟩ := hrel
      by_cases hlt : j < D.length
      · obtain ⟨g, rfl, hcap, hcell⟩ := HO.out.cell j hlt
        have hz := HKD.out (D.getD j []) (by rw [List.getD_eq_getElem?_getD, List.getElem?_eq_getElem hlt]; exact List.getElem_mem _)
        have hA : ((str (D.getD j [])).toList == [46]) = false := by rw [ByteArray.toList_eq, str_list, beq_eq_false_iff_ne]; exact hz.1
        have hA2 : ((str (D.getD j [])).toList == [46, 46]) = false := by rw [ByteArray.toList_eq, str_list, beq_eq_false_iff_ne]; exact hz.2
        generalize str (D.getD j []) = X at *
        clear hz
        go_wp2
        go_round
        case rel => exact ⟨j + 1, by omega, by go_num⟩
        case measure => simp [intOf]; omega
      · have HW : Hid (∀ w', Below w.heap.size w w' → ML w') := fun w' h => HM.out.below h
        by_cases hat : 0 ≤ a ∧ a < n.size ∧ byt n a.toNat = 47
        · obtain ⟨h0, hl, hb⟩ := hat
          obtain ⟨i, rfl⟩ := Int.eq_ofNat_of_zero_le h0
          obtain ⟨HX, HY⟩ := HAT.out i (by omega) (by simpa using hb)
          have hil : i < n.size := by omega
          have hby : ((n[i].toNat : Nat) : Int) = 47 := by rw [byt_at n i hil]; simpa using hb
          have HX' : Hid (∀ w, ML w → _) := HX
          have HY' : Hid (∀ w, ML w → _) := HY
          clear HX HY hb
          have hk1 : (n.extract 0 i).size = i := by rw [← size_list, ext_list, List.drop_zero, List.length_take, size_list]; omega
          have hk2 : (n.extract i n.size).size = n.size - i := by rw [← size_list, ext_list, List.length_take, List.length_drop, size_list]; omega
          have hq1 : (⟨#[47, 46]⟩ : ByteArray).size = 2 := rfl
          have hq2 : (⟨#[47, 120, 47, 46, 46]⟩ : ByteArray).size = 5 := rfl
          have HM3 : Hid (ML w3) := HM.out.below H3.out
          go_wp2_with fail
          generalize (⟨#[47, 46]⟩ : ByteArray) = K1 at *
          generalize (⟨#[47, 120, 47, 46, 46]⟩ : ByteArray) = K2 at *
          have hk3 : (n.extract 0 i ++ K1).size = i + 2 := by rw [← size_list, cat_list, List.length_append, size_list, size_list, hk1, hq1]
          have hk4 : (n.extract 0 i ++ K2).size = i + 5 := by rw [← size_list, cat_list, List.length_append, size_list, size_list, hk1, hq2]
          go_region_with (go_at_call 8; refine (HX'.out _ (by exact HM3.out)).mono ?_; rintro e w4 ⟨rfl, k4⟩)
          all_goals
            have H4 : Hid (Below w.heap.size w w4) := H3.out.drew.trans (k4.mono H3.out.size)
            have HM4 : Hid (ML w4) := HM.out.below H4.out
            clear k4
            go_wp2_with fail
            go_region_with (go_at_call 8; refine (HY'.out _ (by exact HM4.out)).mono ?_; rintro e w5 ⟨rfl, k5⟩)
            all_goals
              have H5 : Hid (Below w.heap.size w w5) := H4.out.drew.trans (k5.mono H4.out.size)
              clear k5
              go_wp2_with fail
              refine (HA.out _ (HM.out.below H5.out)).mono ?_
              rintro e w6 ⟨rfl, h6⟩
              have H6 : Hid (Below w.heap.size w w6) := H5.out.trans (h6.mono H5.out.size)
              clear h6
              go_wp2
              go_ret
              exact ⟨rfl, H6.out⟩
        · rcases (show a < 0 ∨ (0 ≤ a ∧ (n.size : Int) ≤ a) ∨ (0 ≤ a ∧ a < n.size ∧ byt n a.toNat ≠ 47) by
            by_cases h1 : a < 0
            · exact .inl h1
            · by_cases h2 : (n.size : Int) ≤ a
              · exact .inr (.inl ⟨by omega, h2⟩)
              · exact .inr (.inr ⟨by omega, by omega, fun h => hat ⟨by omega, by omega, h⟩⟩)) with h | ⟨h, h'⟩ | ⟨h, h', h''⟩
          · clear hat
            go_wp2_with fail
            refine (HA.out _ (HM.out.below H3.out)).mono ?_
            rintro e w4 ⟨rfl, h4⟩
            have H4 : Hid (Below w.heap.size w w4) := H3.out.trans (h4.mono H3.out.size)
            clear h4
            go_wp2
            go_ret
            exact ⟨rfl, H4.out⟩
          · clear hat
            go_wp2_with fail
            refine (HA.out _ (HM.out.below H3.out)).mono ?_
            rintro e w4 ⟨rfl, h4⟩
            have H4 : Hid (Below w.heap.size w w4) := H3.out.trans (h4.mono H3.out.size)
            clear h4
            go_wp2
            go_ret
            exact ⟨rfl, H4.out⟩
          · obtain ⟨i, rfl⟩ := Int.eq_ofNat_of_zero_le h
            have hil : i < n.size := by omega
            have hby : ((n[i].toNat : Nat) : Int) = byt n i := byt_at n i hil
            have hb : (byt n i != 47) = true := by simpa using h''
            clear hat h''
            go_wp2_with fail
            refine (HA.out _ (HM.out.below H3.out)).mono ?_
            rintro e w4 ⟨rfl, h4⟩
            have H4 : Hid (Below w.heap.size w w4) := H3.out.trans (h4.mono H3.out.size)
            clear h4
            go_wp2
            go_ret
            exact ⟨rfl, H4.out⟩

end Tg
end Go.Proofs.YtodgpcohdaejkabGreatDoor
