/-
  ChunkOpen.
-/
import Derived.Test.YtifhbjkgdnemjaaGreatDoorMgF
import Derived.Deep.RegionHeld3
set_option linter.unusedVariables false
set_option linter.unusedSimpArgs false
set_option maxRecDepth 100000
namespace Go.Proofs.YtifhbjkgdnemjaaGreatDoor
open Go.RowKit Go.Shelf
namespace Ck
open Oc Tg _root_.Go.Proofs.YtifhbjkgdnemjaaGreatDoor.Fd

set_option maxHeartbeats 8000000 in
theorem walk_ChunkOpen (A : ByteArray) (u1 u2 : Value) (l : List Int) (t : List Fl) (hbk : A.size + l.length + bulkfields t ≤ 1048576) (Z : Int) (hz : -9223372036854775808 ≤ Z ∧ Z ≤ 9223372036854775807) (w : World) (hr : RdI w u1 l ∧ InF u2 t w) (he : Env w) (td : Deb w) :
    Calls Tryz.prog 6 #[.agg #[.string A, u1, u2], .int .i64 Z] w fun e w' => e = .returned (.bool true) ∧ Below w.heap.size w w' := by
  unfold bulkfields at hbk
  have hlen := len_sumF t
  obtain ⟨hri, hin⟩ := hr
  obtain ⟨x0, hx0⟩ : ∃ x0, x0 = w.alloc (.cells #[.string A, u1, u2] 48) := ⟨_, rfl⟩
  have hb0 : Below w.heap.size w x0 := by rw [hx0]; exact (Below.refl _ w).alloc (Nat.le_refl _) _
  have HB0 : Hid (Below w.heap.size w x0) := hb0
  have hsz0 : x0.heap.size = w.heap.size + 1 := by rw [hx0]; simp
  have HS0 : Hid (x0.heap.size = w.heap.size + 1) := hsz0
  have HR0 : Hid (RdI x0 u1 l) := hri.below hb0
  have HI0 : Hid (InF u2 t x0) := hin.below hb0
  have HE0 : Hid (Env x0) := he.below hb0
  have HD0 : Hid (Deb x0) := td.below hb0
  have e0 : x0.cell? ⟨w.heap.size, 0, none⟩ = some (.string A) := by rw [hx0]; simp
  have e1 : x0.cell? ⟨w.heap.size, 1, none⟩ = some u1 := by rw [hx0]; simp
  have e2 : x0.cell? ⟨w.heap.size, 2, none⟩ = some u2 := by rw [hx0]; simp
  have HX0 : Hid (w.alloc (.cells #[.string A, u1, u2] 48) = x0) := hx0.symm
  obtain ⟨a1, c1, rfl, _⟩ := hri
  obtain ⟨⟨a2, c2, rfl, _⟩, _⟩ := hin
  have HK : Hid (∀ W, SB x0 W → (W.cell? ⟨w.heap.size, 0, none⟩ = some (.string A) ∧ W.cell? ⟨w.heap.size, 1, none⟩ = some (.slice a1 l.length c1) ∧ W.cell? ⟨w.heap.size, 2, none⟩ = some (.slice a2 t.length c2)) ∧ SB x0 W) := fun W hW =>
    ⟨⟨(Below.cell hW (World.block_lt_of_cell? _ _ e0)).trans e0, (Below.cell hW (World.block_lt_of_cell? _ _ e1)).trans e1, (Below.cell hW (World.block_lt_of_cell? _ _ e2)).trans e2⟩, hW⟩
  clear hx0 hb0 hsz0 he td e0 e1 e2
  have HA : Hid (Calls Tryz.prog 9 #[] x0 fun e w' => e = .returned (.bool true) ∧ Below x0.heap.size x0 w') := awake_any x0 HE0.out
  have hAs : A.size ≤ 1048576 := by omega
  have hl1 : l.length ≤ 16777216 := by omega
  have hts : sumF t ≤ 1048576 := by omega
  have HAs : Hid (A.size ≤ 1048576) := hAs
  have HL1 : Hid (l.length ≤ 16777216) := hl1
  have HL2 : Hid (l.length ≤ 1048576) := (by omega : l.length ≤ 1048576)
  have HTs : Hid (sumF t ≤ 1048576) := hts
  have HTl : Hid (([] : List Fl).length + t.length ≤ 2147483648) := (by simp; omega : _ ≤ _)
  go_enter Tryz.func6, Tryz.ntmps6
  go_wp2_with fail
  rw [HX0.out]
  refine HA.out.mono ?_
  rintro e w1 ⟨rfl, hb1⟩
  have HB1 : Hid (SB x0 w1) := hb1
  obtain ⟨⟨k0, k1, k2⟩, _⟩ := HK.out w1 hb1
  have HF1 : Hid (RdF (.slice a2 t.length c2) t w1) := HI0.out.1.below hb1
  clear hb1
  have HRt : Hid (Calls Tryz.prog 18 #[.slice a2 t.length c2] w1 fun e w' => e = .returned (.bool (t.all okT)) ∧ Below w1.heap.size w1 w') := right_any _ t HTs.out w1 HF1.out
  cases hall : t.all okT with
  | false =>
    rw [hall] at HRt
    go_wp2_with fail
    refine HRt.out.mono ?_
    rintro e w2 ⟨rfl, hb2⟩
    have HB2 : Hid (SB x0 w2) := HB1.out.on hb2
    clear hb2
    go_wp2
    go_ret
    exact ⟨rfl, bel_trans HB0.out HB2.out⟩
  | true =>
    rw [hall] at HRt
    have HAll : Hid (t.all okT = true) := hall
    clear hall
    go_wp2_with fail
    refine HRt.out.mono ?_
    rintro e w2 ⟨rfl, hb2⟩
    have HBn : Hid (SB x0 w2) := HB1.out.on hb2
    have HS2 : Hid (x0.heap.size ≤ w2.heap.size) := HBn.out.size
    clear hb2 k0 k1 k2
    go_wp2
    go_region_held3 (fun W => (W.cell? ⟨w.heap.size, 0, none⟩ = some (.string A) ∧ W.cell? ⟨w.heap.size, 1, none⟩ = some (.slice a1 l.length c1) ∧ W.cell? ⟨w.heap.size, 2, none⟩ = some (.slice a2 t.length c2)) ∧ SB x0 W)
      ((refine HK.out _ ?_; first | with_reducible exact HBn.out | with_reducible exact SB.drew HBn.out | with_reducible exact SB.drew (SB.alloc HBn.out _) | with_reducible exact SB.alloc HBn.out _ | with_reducible exact SB.alloc (SB.drew HBn.out) _))
      (first
        | (go_at_call 19; refine (sized_any _ l HL1.out _ (HR0.out.below (And.right (by assumption : _ ∧ SB x0 _)))).mono ?_; rintro e wS ⟨u, m, rfl, hml, hmx, hown, hbS⟩; have HBn : Hid (SB x0 wS) := SB.on (And.right (by assumption)) hbS; have HMl : Hid (m.length ≤ 1048576) := (by rw [hml]; exact HL2.out : _ ≤ _); have HMx : Hid (∀ x ∈ m, 1 ≤ x ∧ x ≤ 5000) := hmx; have HOI : Hid (OwnI 0 u m wS) := hown.zero; (try have HOw : Hid (OwnF 39 x0.heap.size (.slice (some ⟨w2.heap.size, 0, none⟩) 0 0) [] wS) := OwnF.below (w := (w2.alloc (.cells #[] 39)).drew) (ownF_empty 39 w2 HS2.out) hbS); clear hml hmx hown hbS)
        | (refine step_appFs rfl (.tmp 23) (.tmp 25) rfl x0.heap.size _ _ [] t _ rfl HOw.out rfl (HI0.out.below HBn.out) HTl.out HBn.out.size ?_; intro v5 w5 HO5 HBt5 HBl5; have HOI5 : Hid (OwnI 0 u m w5) := keepI HOw.out HOI.out HBt5.out; have HBn : Hid (SB x0 w5) := Below.trans HBn.out HBl5.out; clear HBt5 HBl5)
        | (refine step_appFs rfl (.tmp 23) (.tmp 25) rfl x0.heap.size _ _ [] t _ rfl (ownF_empty 39 wS HBn.out.size) rfl (HI0.out.below (SB.alloc HBn.out _)) HTl.out (SB.alloc HBn.out _).size ?_; intro v5 w5 HO5 HBt5 HBl5; have HOI5 : Hid (OwnI 0 u m w5) := keepI (ownF_empty 39 wS HBn.out.size) (HOI.out.below ((Below.refl _ wS).alloc (Nat.le_refl _) _)) HBt5.out; have HBn : Hid (SB x0 w5) := Below.trans (SB.alloc HBn.out _) HBl5.out; clear HBt5 HBl5)
        | (go_at_call 14; refine (Encode_right A HAs.out u m HMl.out HMx.out v5 t HTs.out HAll.out _ HOI5.out HO5.out (HE0.out.below HBn.out).1 (HD0.out.below HBn.out)).mono ?_; rintro e w6 ⟨X, rfl, hX, hX1, hX2, hX3, hb6⟩; have HBn : Hid (SB x0 w6) := SB.on HBn.out hb6; have HXl : Hid (X.data.toList = encL A.data.toList m t) := hX; clear hX hb6))
    all_goals
      obtain ⟨⟨k0, k1, k2⟩, _⟩ := HK.out w6 HBn.out
      clear HO5 HOI5 HOI
      have hne : X.toList.isEmpty = false := by
        cases hb : X.toList.isEmpty with
        | false => rfl
        | true =>
          rw [List.isEmpty_iff, ByteArray.toList_eq] at hb
          have : X.size = 0 := by rw [← size_list, hb]; rfl
          omega
      have hcz := hz
      go_wp2_with fail
      refine (kind_any w6 Z (X.size : Int) hcz.1 hcz.2 (by omega) (by omega)).mono ?_
      rintro e w7 ⟨j, rfl, hj, hb7⟩
      have HBn : Hid (SB x0 w7) := HBn.out.on hb7
      clear hb7
      have hj1 : j < X.size := by omega
      have hj2 : (0 : Int) ≤ (j : Int) := by omega
      have hj3 : (j : Int) ≤ (X.size : Int) := by omega
      have hj4 : j ≤ X.size := by omega
      have HDec : Hid (∀ W, Env W → Calls Tryz.prog 20 #[.string (X.extract 0 j), .int .i64 (A.size : Int), .int .i64 (X.size : Int), .int .i64 (t.length : Int)] W fun e w' => ∃ v, e = .returned (.tuple #[.string ⟨#[]⟩, v, .int .i64 (j : Int), .int .i64 105]) ∧ OwnF 39 W.heap.size v [] w' ∧ Below W.heap.size W w') := fun W hW => by
        have hes : (X.extract 0 j).size = j := by rw [ByteArray.size_extract]; omega
        have h := Decode_any (X.extract 0 j) (A.size : Int) (X.size : Int) (t.length : Int) (by omega) (by omega) (by omega) (by omega) W hW
        have hsx : (encL A.data.toList m t).length = X.size := by rw [← HXl.out, size_list]
        have hd := dec_open (most := (A.size : Int)) (room := (X.size : Int)) (fields := (t.length : Int)) A.data.toList m t j (by omega) (by rw [size_list]; omega) (by rw [size_list]; exact Int.le_refl _) (by omega) HAll.out (by omega) (by omega) (Int.le_refl _) (by omega)
        rw [take_ext, str_list, HXl.out, hd] at h
        rw [take_ext, HXl.out]
        exact h
      clear HXl
      obtain ⟨⟨k0, k1, k2⟩, _⟩ := HK.out w7 HBn.out
      go_wp2
      go_region_held3 (fun W => (W.cell? ⟨w.heap.size, 0, none⟩ = some (.string A) ∧ W.cell? ⟨w.heap.size, 1, none⟩ = some (.slice a1 l.length c1) ∧ W.cell? ⟨w.heap.size, 2, none⟩ = some (.slice a2 t.length c2)) ∧ SB x0 W)
        ((refine HK.out _ ?_; first | with_reducible exact HBn.out | with_reducible exact SB.drew HBn.out | with_reducible exact SB.drew (SB.alloc HBn.out _) | with_reducible exact SB.alloc HBn.out _ | with_reducible exact SB.alloc (SB.drew HBn.out) _))
        (first
          | (go_at_call 20; refine (HDec.out _ (HE0.out.below (And.right (by assumption : _ ∧ SB x0 _)))).mono ?_; rintro e w8 ⟨v8, rfl, ho8, hb8⟩; have HBn : Hid (SB x0 w8) := SB.on (And.right (by assumption)) hb8; obtain ⟨a8, c8, rfl⟩ := ho8.form; clear ho8 hb8))
      all_goals
        go_wp2
        go_ret
        exact ⟨rfl, bel_trans HB0.out HBn.out⟩

end Ck
end Go.Proofs.YtifhbjkgdnemjaaGreatDoor
