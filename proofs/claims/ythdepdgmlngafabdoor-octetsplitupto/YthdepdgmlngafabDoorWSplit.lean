/-
  A walk of a law.
-/
import Derived.Test.YthdepdgmlngafabDoorAppR
import Derived.OpenShut
set_option linter.unusedVariables false
set_option linter.unusedSimpArgs false
namespace Go.Proofs.YthdepdgmlngafabDoor.octetSplitUpto
open Go.RowKit
open Go.Proofs.YthdepdgmlngafabDoor.Oc

theorem errs (l : List UInt8) : (listR l).2 = 0 ∨ (listR l).2 = 14 := by
  rcases listR_err l with h | ⟨_, h⟩
  · exact .inl h
  · exact .inr h
set_option maxRecDepth 100000 in
set_option maxHeartbeats 1000000 in
theorem walk (a0 : ByteArray) (w0 : a0.size ≤ 1048576) (a1 : ByteArray) (w1 : a1.size ≤ 1048576) (w : World) (t : Tab w) :
    Calls Tryd.prog 5 #[.string a0, .string a1] w fun e w' => e = .returned (.bool true) ∧ Below w.heap.size w w' := by
  have HT : Hid (Tab w) := t
  clear t
  have l0 := (listR_short a0.data.toList).1
  have l1 := (listR_short a1.data.toList).1
  rw [size_list] at l0 l1
  have HSp : Hid ((listR a0.data.toList).2 = 0 → (listR a1.data.toList).2 = 0 → listR (a0.data.toList ++ 44 :: a1.data.toList) = ((listR a0.data.toList).1 ++ (listR a1.data.toList).1, 0)) := listR_split
  have HE0 : Hid ((listR a0.data.toList).2 = 0 ∨ (listR a0.data.toList).2 = 14) := errs _
  have HE1 : Hid ((listR a1.data.toList).2 = 0 ∨ (listR a1.data.toList).2 = 14) := errs _
  go_enter Tryd.func5, Tryd.ntmps5
  go_wp2_with fail
  refine (List_any a0 (by omega) _).mono ?_
  rintro e w2 ⟨v2, rfl, ho2, hb2⟩
  have HO2 : Hid (OwnS w.heap.size v2 (listR a0.data.toList).1 w2) := ho2
  have HB2 : Hid (Below w.heap.size w w2) := hb2
  clear ho2 hb2
  generalize (listR a0.data.toList).1 = T0 at *
  generalize (listR a0.data.toList).2 = e0 at *
  go_wp2_with fail
  refine (List_any a1 (by omega) _).mono ?_
  rintro e w3 ⟨v3, rfl, ho3, hb3⟩
  have HO3 : Hid (OwnS w2.heap.size v3 (listR a1.data.toList).1 w3) := ho3
  have HO2b : Hid (OwnS w.heap.size v2 T0 w3) := HO2.out.below hb3
  have HB3 : Hid (Below w.heap.size w w3) := bel_trans HB2.out hb3
  clear ho3 hb3 HO2 HB2
  generalize (listR a1.data.toList).1 = T1 at *
  generalize (listR a1.data.toList).2 = e1 at *
  by_cases hok : e0 = 0 ∧ e1 = 0
  · obtain ⟨rfl, rfl⟩ := hok
    have HL : Hid (((a0 ++ ⟨#[44]⟩) ++ a1 : ByteArray).data.toList = a0.data.toList ++ 44 :: a1.data.toList) := (by simp : ((a0 ++ ⟨#[44]⟩) ++ a1 : ByteArray).data.toList = _)
    have HZ : Hid (((a0 ++ ⟨#[44]⟩) ++ a1 : ByteArray).size ≤ 134217728) := (by rw [← size_list, HL.out, List.length_append, List.length_cons, size_list, size_list]; omega : ((a0 ++ ⟨#[44]⟩) ++ a1 : ByteArray).size ≤ 134217728)
    have hz1 : a0.size + (⟨#[44]⟩ : ByteArray).size ≤ 9223372036854775807 := by show a0.size + 1 ≤ _; omega
    have hz2 : (a0 ++ ⟨#[44]⟩ : ByteArray).size + a1.size ≤ 9223372036854775807 := by
      have : (a0 ++ ⟨#[44]⟩ : ByteArray).size = a0.size + 1 := by rw [← size_list]; simp
      omega
    have HR := HSp.out rfl rfl
    have HR' : Hid (listR (a0.data.toList ++ 44 :: a1.data.toList) = (T0 ++ T1, 0)) := HR
    clear HR
    go_wp2_with fail
    generalize a0 ++ (⟨#[44]⟩ : ByteArray) ++ a1 = q at HL HZ ⊢
    refine (List_any q HZ.out _).mono ?_
    rintro e w4 ⟨v4, rfl, ho4, hb4⟩
    rw [HL.out, HR'.out] at ho4 ⊢
    have R4 : Hid (RdS v4 (T0 ++ T1) w4) := ho4.rd
    have HO3c : Hid (OwnS w2.heap.size v3 T1 w4) := HO3.out.below hb4
    have HO2c : Hid (OwnS w.heap.size v2 T0 w4) := HO2b.out.below hb4
    have HB4 : Hid (Below w.heap.size w w4) := bel_trans HB3.out hb4
    clear ho4 hb4 HO3 HO2b HB3
    go_wp2_with fail
    refine (awake_any _ (HT.out.below HB4.out (Nat.le_refl _))).mono ?_
    rintro e w5 ⟨rfl, hb5⟩
    have R4d : Hid (RdS v4 (T0 ++ T1) w5) := R4.out.below hb5
    have HO3d : Hid (OwnS w2.heap.size v3 T1 w5) := HO3c.out.below hb5
    have HO2d : Hid (OwnS w.heap.size v2 T0 w5) := HO2c.out.below hb5
    have HB5 : Hid (Below w.heap.size w w5) := bel_trans HB4.out hb5
    clear hb5 R4 HO3c HO2c HB4
    have b5 : Below w5.heap.size w5 (w5.alloc (.cells #[] 9)) := (Below.refl _ w5).alloc (Nat.le_refl _) _
    have R2e : Hid (RdS v2 T0 (w5.alloc (.cells #[] 9))) := HO2d.out.rd.below b5
    have R3e : Hid (RdS v3 T1 (w5.alloc (.cells #[] 9))) := HO3d.out.rd.below b5
    have R4e : Hid (RdS v4 (T0 ++ T1) (w5.alloc (.cells #[] 9))) := R4d.out.below b5
    have B5e : Hid (Below w5.heap.size w5 (w5.alloc (.cells #[] 9))) := b5
    clear b5
    go_wp2_with (at_builtin; go_must (refine wp_appR (by rfl) (.tmp 59) (.tmp 60) rfl w5.heap.size _ _ [] T0 rfl (ownS_empty w5) rfl R2e.out HO2d.out.nilish ?h1 ?h2 ?_))
    case h1 => simp; omega
    case h2 => simp
    intro v6 w6 ho6 hb6
    have HO6 : Hid (OwnS w5.heap.size v6 T0 w6) := (by simpa using ho6 : OwnS w5.heap.size v6 T0 w6)
    have HB6 : Hid (Below w5.heap.size w5 w6) := B5e.out.trans hb6
    have hs6 := HB6.out.size
    have R3f : Hid (RdS v3 T1 w6) := HO3d.out.rd.below HB6.out
    have R4f : Hid (RdS v4 (T0 ++ T1) w6) := R4d.out.below HB6.out
    clear ho6 hb6
    go_wp2_with (at_builtin; go_must (refine wp_appR (by rfl) (.tmp 61) (.tmp 62) rfl w5.heap.size _ _ T0 T1 rfl HO6.out rfl R3f.out HO3d.out.nilish ?h1 ?h2 ?_))
    case h1 => omega
    case h2 => omega
    intro v7 w7 ho7 hb7
    have HO7 : Hid (RdS v7 (T0 ++ T1) w7) := ho7.rd
    have HB7 : Hid (Below w5.heap.size w5 w7) := HB6.out.trans hb7
    have R4g : Hid (RdS v4 (T0 ++ T1) w7) := R4d.out.below HB7.out
    clear ho7 hb7
    go_wp2_with fail
    refine (same_any v4 v7 _ _ _ R4g.out HO7.out (by rw [List.length_append]; omega) (by rw [List.length_append]; omega)).mono ?_
    rintro e w8 ⟨rfl, n8, rfl⟩
    rw [show decide (T0 ++ T1 = T0 ++ T1) = true from decide_eq_true rfl]
    go_wp2
    go_ret
    exact ⟨rfl, below_drewN (bel_trans HB5.out HB7.out) _⟩
  · have hall : (e0 != 0) = true ∨ (e0 != 0) = false ∧ (e1 != 0) = true := by
      by_cases h : e0 = 0
      · right; exact ⟨by simp [h], by simp; exact fun h2 => hok ⟨h, h2⟩⟩
      · left; simp [h]
    have hx0 : (e0 == 0) = true ∨ (e0 == 0) = false ∧ (e0 == 14) = true := by
      rcases HE0.out with h | h
      · left; simp [h]
      · right; simp [h]
    have hx1 : (e1 == 0) = true ∨ (e1 == 0) = false ∧ (e1 == 14) = true := by
      rcases HE1.out with h | h
      · left; simp [h]
      · right; simp [h]
    clear hok HE0 HE1 HSp
    rcases hall with h1 | ⟨h1, h2⟩ <;> rcases hx0 with h3 | ⟨h3, h4⟩ <;> rcases hx1 with h5 | ⟨h5, h6⟩
    all_goals
      go_wp2_with fail
      refine (awake_any _ (HT.out.below HB3.out (Nat.le_refl _))).mono ?_
      rintro e w5 ⟨rfl, hb5⟩
      go_wp2
      go_ret
      exact ⟨rfl, bel_trans HB3.out hb5⟩

end Go.Proofs.YthdepdgmlngafabDoor.octetSplitUpto
