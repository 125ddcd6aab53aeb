/-
  The document's Resolve; TargetResolves: the walk.
-/
import Derived.Test.YtodgpcohdaejkabGreatDoorGRz
import Derived.Test.YtodgpcohdaejkabGreatDoorGAw
set_option linter.unusedVariables false
set_option linter.unusedSimpArgs false
namespace Go.Proofs.YtodgpcohdaejkabGreatDoor
open Go.RowKit Go.Shelf
namespace Tg
open Oc

set_option maxRecDepth 100000 in
set_option maxHeartbeats 2000000 in
theorem rResolve_any (p r : ByteArray) (hs : p.size + r.size ≤ 1300000) (w : World) :
    Calls Tryz.prog 15 #[.string p, .string r] w fun e w' => e = .returned (.tuple #[.string (str (resR p.data.toList r.data.toList).1), .int .i64 (resR p.data.toList r.data.toList).2]) ∧ Below w.heap.size w w' := by
  have HI : Hid (∀ w, _) := fun w => rIsPath_any p (by omega) w
  cases hp : isPath p.data.toList with
  | false =>
    have hR : resR p.data.toList r.data.toList = ([], 53) := by unfold resR; rw [hp]; rfl
    rw [hR]
    rw [hp] at HI
    clear hR hp
    go_enter Tryz.func15, Tryz.ntmps15
    go_wp2_with fail
    refine (HI.out _).mono ?_
    rintro e w1 ⟨rfl, rfl⟩
    go_wp2
    go_ret2
    exact ⟨rfl, Below.refl _ _⟩
  | true =>
    rw [hp] at HI
    by_cases hr0 : r.size = 0
    · have hl : r.data.toList = [] := List.length_eq_zero_iff.1 (by rw [size_list]; exact hr0)
      have he : r.toList.isEmpty = true := by rw [ByteArray.toList_eq, hl]; rfl
      have hR : resR p.data.toList r.data.toList = normR p.data.toList := by unfold resR; rw [if_pos hp, if_pos hl]
      rw [hR]
      have HN : Hid (∀ w, _) := fun w => rNormal_any p (by omega) w
      clear hR hp hl
      generalize normR p.data.toList = NR at *
      obtain ⟨n1, n2⟩ := NR
      dsimp only at *
      go_enter Tryz.func15, Tryz.ntmps15
      go_wp2_with fail
      refine (HI.out _).mono ?_
      rintro e w1 ⟨rfl, rfl⟩
      go_wp2_with fail
      refine (HN.out _).mono ?_
      rintro e w3 ⟨rfl, hb3⟩
      have H3 : Hid (_) := hb3
      clear hb3
      go_wp2
      go_ret2
      exact ⟨rfl, H3.out⟩
    · have hlt : 0 < r.size := by omega
      have hcr := drop_cons r 0 hlt
      rw [List.drop_zero] at hcr
      have hne : r.data.toList ≠ [] := by rw [hcr]; simp
      have he : r.toList.isEmpty = false := by rw [ByteArray.toList_eq]; cases h : r.data.toList with | nil => exact absurd h hne | cons _ _ => rfl
      have h0 : ((r[0].toNat : Nat) : Int) = ((r.data.toList.getD 0 0).toNat : Int) := by rw [getD_of r 0 hlt]
      have hhd : r.data.toList.head? = some (r.data.toList.getD 0 0) := by conv => lhs; rw [hcr]
                                                                           rfl
      by_cases hcc : r.data.toList.getD 0 0 = 47
      · have hR : resR p.data.toList r.data.toList = normR r.data.toList := by unfold resR; rw [if_pos hp, if_neg hne, hhd, hcc, if_pos rfl]
        rw [hR]
        have HN : Hid (∀ w, _) := fun w => rNormal_any r (by omega) w
        rw [hcc] at h0
        clear hR hp hcr hne hhd hcc
        generalize normR r.data.toList = NR at *
        obtain ⟨n1, n2⟩ := NR
        dsimp only at *
        go_enter Tryz.func15, Tryz.ntmps15
        go_wp2_with fail
        refine (HI.out _).mono ?_
        rintro e w1 ⟨rfl, rfl⟩
        go_wp2_with fail
        refine (HN.out _).mono ?_
        rintro e w3 ⟨rfl, hb3⟩
        have H3 : Hid (_) := hb3
        clear hb3
        go_wp2
        go_ret2
        exact ⟨rfl, H3.out⟩
      · obtain ⟨i, hi, hli, hc, hbh⟩ := last_of p hp
        obtain ⟨e1, e2, e3⟩ := split_last p i hi hc hbh
        have hR : resR p.data.toList r.data.toList = normR (p.extract 0 (i + 1) ++ r).data.toList := by
          unfold resR
          rw [if_pos hp, if_neg hne, hhd, if_neg (by intro e; injection e with e; exact hcc e), cat_list, e3]
        have HR : Hid (_ = _) := hR
        have hes : (p.extract 0 (i + 1)).size = i + 1 := by rw [← size_list, ext_list, List.drop_zero, List.length_take, size_list]; omega
        have hcs : (p.extract 0 (i + 1) ++ r).size = i + 1 + r.size := by rw [← size_list, cat_list, List.length_append, size_list, size_list, hes]
        have HN : Hid (∀ w, _) := fun w => rNormal_any (p.extract 0 (i + 1) ++ r) (by omega) w
        have hb47 : (((r.data.toList.getD 0 0).toNat : Int) == 47) = false := by
          rw [beq_eq_false_iff_ne]
          intro e
          exact hcc (UInt8.toNat_inj.1 (by show _ = 47; omega))
        have HBH : Hid (∀ j, i < j → j < p.size → byt p j ≠ 47) := hbh
        generalize r.data.toList.getD 0 0 = c at *
        clear hR hp e1 e2 e3 hli hbh hcr hne hhd hcc
        generalize normR (p.extract 0 (i + 1) ++ r).data.toList = NR at *
        obtain ⟨n1, n2⟩ := NR
        go_enter Tryz.func15, Tryz.ntmps15
        go_wp2_with fail
        refine (HI.out _).mono ?_
        rintro e w1 ⟨rfl, rfl⟩
        go_wp2
        go_loop [6] (fun n => ∃ k : Nat, i + 1 ≤ k ∧ k ≤ p.size ∧ n = .int .i64 k) (fun n => (intOf n).toNat)
        case atStart => exact ⟨p.size, by omega, Nat.le_refl _, rfl⟩
        case round =>
          obtain ⟨k, hk1, hk2, rfl⟩ := hrel
          have hby : ((p[k - 1].toNat : Nat) : Int) = byt p (k - 1) := byt_at p (k - 1) (by omega)
          have hsub : (k : Int) - 1 = ((k - 1 : Nat) : Int) := by omega
          have hkl : ((k - 1 : Nat) : Int) < (p.size : Int) := by omega
          by_cases hki : k = i + 1
          · subst hki
            clear hby hsub hkl
            have hby : ((p[i].toNat : Nat) : Int) = 47 := by rw [byt_at p i hi]; exact hc
            have hsub : ((i + 1 : Nat) : Int) - 1 = (i : Int) := by omega
            go_wp2_with fail
            refine (HN.out _).mono ?_
            rintro e w3 ⟨rfl, hb3⟩
            have H3 : Hid (_) := hb3
            clear hb3
            go_wp2
            go_ret2
            exact ⟨by rw [HR.out]; rfl, H3.out⟩
          · have hne := HBH.out (k - 1) (by omega) (by omega)
            have hb : (byt p (k - 1) != 47) = true := by simp [hne]
            go_wp2
            go_round
            case rel => exact ⟨k - 1, by omega, by omega, by first | rfl | rw [hsub]⟩
            case measure => simp [intOf]; omega

set_option maxRecDepth 100000 in
set_option maxHeartbeats 1000000 in
theorem walk_TargetResolves (p : ByteArray) (hp : p.size ≤ 1048576) (r : ByteArray) (hr : r.size ≤ 1048576) (hs : p.size + r.size ≤ 1048576) (w : World) (hm : ML w) :
    Calls Tryz.prog 5 #[.string p, .string r] w fun e w' => e = .returned (.bool true) ∧ Below w.heap.size w w' := by
  have HA : Hid (∀ w, ML w → _) := fun w h => awake_any w h
  have HR : Hid (∀ w, ML w → _) := fun w h => Resolve_any p r (by omega) w h
  have HS : Hid (∀ w, _) := fun w => rResolve_any p r (by omega) w
  generalize resR p.data.toList r.data.toList = NR at *
  obtain ⟨n1, n2⟩ := NR
  dsimp only at *
  generalize str n1 = R at *
  have HM : Hid (ML w) := hm
  clear hm
  go_enter Tryz.func5, Tryz.ntmps5
  go_wp2_with fail
  refine (HR.out _ HM.out).mono ?_
  rintro e w1 ⟨rfl, h1⟩
  have H1 : Hid (Below w.heap.size w w1) := h1
  clear h1
  go_wp2_with fail
  refine (HS.out _).mono ?_
  rintro e w2 ⟨rfl, h2⟩
  have H2 : Hid (Below w.heap.size w w2) := H1.out.trans (h2.mono H1.out.size)
  clear h2
  go_wp2_with fail
  refine (HA.out _ (HM.out.below H2.out)).mono ?_
  rintro e w3 ⟨rfl, h3⟩
  have H3 : Hid (Below w.heap.size w w3) := H2.out.trans (h3.mono H2.out.size)
  clear h3
  go_wp2
  go_ret
  exact ⟨rfl, H3.out⟩

end Tg
end Go.Proofs.YtodgpcohdaejkabGreatDoor
