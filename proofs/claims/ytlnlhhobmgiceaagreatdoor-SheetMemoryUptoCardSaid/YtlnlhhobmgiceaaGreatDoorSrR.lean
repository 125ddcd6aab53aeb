/-
  sheet: Parse.
-/
import Derived.Test.YtlnlhhobmgiceaaGreatDoorSrQ
import Derived.Test.YtlnlhhobmgiceaaGreatDoorMgQ
import Derived.Test.YtlnlhhobmgiceaaGreatDoorMgU
set_option linter.unusedVariables false
set_option linter.unusedSimpArgs false
namespace Go.Proofs.YtlnlhhobmgiceaaGreatDoor
open Go.RowKit Go.Shelf
namespace Sr
open Oc Tg Mf

/-- What Parse answers. -/
def errN : Option (Int × Int) → Int × Int
  | none => (0, 0)
  | some q => q
def parR (b s : List UInt8) (most : Int) : List Pt.P5 × Int × Int :=
  if bndR b = false then ([], 0, 151)
  else if most < 1 then ([], 0, 1)
  else ((allP s ([45, 45] ++ b) most.toNat).1, errN (allP s ([45, 45] ++ b) most.toNat).2)

theorem told_any (q : Option (Int × Int)) (w : World) (hg : Er.Gw w) : Calls Tryz.prog 35 #[errV q] w fun e w' => e = .returned (.tuple #[.int .i64 (errN q).1, .int .i64 (errN q).2]) ∧ Below w.heap.size w w' := by
  cases q with
  | none => exact Er.told_nil w
  | some q => exact Er.told_fault q.1 q.2 w hg

set_option maxRecDepth 100000 in
set_option maxHeartbeats 2000000 in
theorem Parse_any (b s : ByteArray) (most : Int) (hb1 : b.size ≤ 1048576) (hs : s.size ≤ 1073741820) (hmost : most < 9223372036854775808) (w : World) (ht : Tab w) (hml : ML w) (he : Fd.Env w) (hg : Er.Gw w) :
    Calls Tryz.prog 9 #[.string b, .string s, .int .i64 most] w fun e w' => ∃ lv, e = .returned (.tuple #[lv, .int .i64 (parR b.data.toList s.data.toList most).2.1, .int .i64 (parR b.data.toList s.data.toList most).2.2]) ∧ Pt.OwnT 49 w.heap.size lv (parR b.data.toList s.data.toList most).1 w' ∧ Below w.heap.size w w' := by
  have HIb : Hid (Calls _ _ _ w _) := IsBoundary_any b (by omega) w
  obtain ⟨R, HRR⟩ : ∃ R, Hid (R = parR b.data.toList s.data.toList most) := ⟨_, rfl⟩
  have HRd : Hid (R = _) := HRR.out.trans (by unfold parR; exact rfl)
  rw [← HRR.out]
  clear HRR
  generalize bndR b.data.toList = B at *
  cases B with
  | false =>
    have HQ : Hid (R = ([], 0, 151)) := (by rw [HRd.out, if_pos rfl] : R = _)
    go_enter Tryz.func9, Tryz.ntmps9
    go_wp2_with fail
    refine HIb.out.mono ?_
    rintro e w1 ⟨rfl, hw1⟩
    go_wp2
    refine bodyPost_ret (v := .tuple #[.slice none 0 0, .int .i64 0, .int .i64 151]) (by simp [results, Tryz.results9, go_sem]; try rfl) rfl ?_
    rw [HQ.out]
    exact ⟨_, rfl, Pt.ownT_nil _ _ _, hw1⟩
  | true =>
    by_cases hm1 : most < 1
    · have HQ : Hid (R = ([], 0, 1)) := (by rw [HRd.out, if_neg (by simp), if_pos hm1] : R = _)
      go_enter Tryz.func9, Tryz.ntmps9
      go_wp2_with fail
      refine HIb.out.mono ?_
      rintro e w1 ⟨rfl, hw1⟩
      go_wp2
      refine bodyPost_ret (v := .tuple #[.slice none 0 0, .int .i64 0, .int .i64 1]) (by simp [results, Tryz.results9, go_sem]; try rfl) rfl ?_
      rw [HQ.out]
      exact ⟨_, rfl, Pt.ownT_nil _ _ _, hw1⟩
    · have HQ0 : Hid (R = ((allP s.data.toList ([45, 45] ++ b.data.toList) most.toNat).1, errN (allP s.data.toList ([45, 45] ++ b.data.toList) most.toNat).2)) := (by rw [HRd.out, if_neg (by simp), if_neg hm1] : R = _)
      obtain ⟨k, hk⟩ : ∃ k : Nat, most = (k : Int) := ⟨most.toNat, by omega⟩
      subst hk
      have hkn : (k : Int).toNat = k := by simp
      rw [hkn] at HQ0
      have hcat : (⟨#[45, 45]⟩ : ByteArray) ++ b = str ([45, 45] ++ b.data.toList) := by
        apply eq_list
        rw [str_list, ByteArray.data_append, Array.toList_append]
      have hml2 : ([45, 45] ++ b.data.toList).length ≤ 4000000 := by simp [size_list]; omega
      have HCat : Hid ((⟨#[45, 45]⟩ : ByteArray) ++ b = str ([45, 45] ++ b.data.toList)) := hcat
      clear HRd hcat hkn
      generalize [45, 45] ++ b.data.toList = mk at *
      have HPs : Hid (∀ g w1, w.heap.size ≤ g → Below w.heap.size w w1 → SR w1 g s (str mk) 0 → Calls _ _ _ w1 _) := fun g w1 h1 h2 h3 => parts_any g s mk k (by omega) (by omega) hs hml2 w h1 w1 h2 h3 ht hml he
      have HTd : Hid (∀ q W, Below w.heap.size w W → Calls _ _ _ W _) := fun q W h => told_any q W (hg.below h)
      generalize allP s.data.toList mk k = A at *
      obtain ⟨ps, er⟩ := A
      dsimp only at HQ0 HPs
      obtain ⟨zb, hzb⟩ : ∃ zb, b.size = zb := ⟨_, rfl⟩
      have hk2 : (⟨#[45, 45]⟩ : ByteArray).size = 2 := rfl
      have had1 : ¬ (9223372036854775807 < 2 + zb) := by omega
      have hm2 : decide ((k : Int) < 1) = false := by simpa using hm1
      clear hml2 hb1
      go_enter Tryz.func9, Tryz.ntmps9
      go_wp2_with fail
      refine HIb.out.mono ?_
      rintro e w1 ⟨rfl, hw1⟩
      have HB1 : Hid (Below w.heap.size w w1) := hw1
      clear hw1 HIb
      go_wp2_with fail
      rw [HCat.out]
      obtain ⟨w2, hw2⟩ : ∃ w2, w2 = w1.alloc (.cells #[.string s, .string (str mk), .int .i64 0] 71) := ⟨_, rfl⟩
      rw [← hw2]
      have hb2 : Below w1.heap.size w1 w2 := by rw [hw2]; exact (Below.refl _ w1).alloc (Nat.le_refl _) _
      have HB2 : Hid (Below w.heap.size w w2) := HB1.out.trans (hb2.mono HB1.out.size)
      have HR2 : Hid (SR w2 w1.heap.size s (str mk) 0) := (by rw [hw2]; exact heap_alloc_new w1 _ : SR _ _ _ _ _)
      have hz1 : w.heap.size ≤ w1.heap.size := HB1.out.size
      clear hb2 hw2 hm1 hm2 had1 hk2
      refine (HPs.out w1.heap.size w2 hz1 HB2.out HR2.out).mono ?_
      rintro e w3 ⟨lv, rfl, hO3, hC3⟩
      have HB3 : Hid (Below w.heap.size w w3) := HB2.out.trans (hC3.below hz1 (HB2.out.size))
      have HO3 : Hid (Pt.OwnT 49 w.heap.size lv ps w3) := ⟨hO3.1, hO3.2.imp id (fun ⟨g, c, cur, e, hg, r⟩ => ⟨g, c, cur, e, Nat.le_trans HB2.out.size hg, r⟩)⟩
      clear hO3 hC3 HPs HR2 HB2
      go_wp2_with fail
      refine (HTd.out er w3 HB3.out).mono ?_
      rintro e w4 ⟨rfl, hb4⟩
      have HB4 : Hid (Below w.heap.size w w4) := HB3.out.trans (hb4.mono HB3.out.size)
      have HO4 : Hid (Pt.OwnT 49 w.heap.size lv ps w4) := HO3.out.below hb4
      clear hb4 HB3 HO3 HTd
      generalize errN er = E at *
      obtain ⟨e1, e2⟩ := E
      dsimp only
      go_wp2
      refine bodyPost_ret (v := .tuple #[lv, .int .i64 e1, .int .i64 e2]) (by simp [results, Tryz.results9, go_sem]; try rfl) rfl ?_
      rw [HQ0.out]
      exact ⟨_, rfl, HO4.out, HB4.out⟩

end Sr
end Go.Proofs.YtlnlhhobmgiceaaGreatDoor
