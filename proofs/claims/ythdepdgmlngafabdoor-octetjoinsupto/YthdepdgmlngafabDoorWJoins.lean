/-
  A walk of a law.
-/
import Derived.Test.YthdepdgmlngafabDoorBldJ
import Derived.Test.YthdepdgmlngafabDoorRJoin
import Derived.Test.YthdepdgmlngafabDoorOpenS
import Derived.Test.YthdepdgmlngafabDoorList
import Derived.Test.YthdepdgmlngafabDoorRList
import Derived.OpenShut
set_option linter.unusedVariables false
set_option linter.unusedSimpArgs false
namespace Go.Proofs.YthdepdgmlngafabDoor.octetJoinsUpto
open Go.RowKit
open Go.Proofs.YthdepdgmlngafabDoor.Oc

set_option maxRecDepth 100000 in
set_option maxHeartbeats 2000000 in
theorem walk (v0 : Value) (t0 : List (List UInt8)) (b0 : bulkstrings t0 ≤ 1048576) (w : World) (r0 : RdS v0 t0 w) (t : Tab w) :
    Calls Tryd.prog 4 #[v0] w fun e w' => e = .returned (.bool true) ∧ Below w.heap.size w w' := by
  have HT : Hid (Tab w) := t
  have HR : Hid (RdS v0 t0 w) := r0
  have hb0 : t0.length + sumL t0 ≤ 1048576 := b0
  clear t r0 b0
  go_enter Tryd.func4, Tryd.ntmps4
  go_wp2_with fail
  refine (Join_any v0 t0 w HR.out (by omega) (by omega)).mono ?_
  rintro e w2 ⟨rfl, hb2⟩
  have HB2 : Hid (Below w.heap.size w w2) := hb2
  clear hb2
  generalize hs : str (joinF t0) = s
  have HS : Hid (str (joinF t0) = s) := hs
  clear hs
  go_wp2_with fail
  refine (awake_any _ (HT.out.below HB2.out (Nat.le_refl _))).mono ?_
  rintro e w3 ⟨rfl, hb3⟩
  have HB3 : Hid (Below w.heap.size w w3) := bel_trans HB2.out hb3
  clear hb3 HB2
  go_wp2_with fail
  refine (rJoin_any v0 t0 w3 (HR.out.below HB3.out) (by omega) (by omega)).mono ?_
  rintro e w4 ⟨rfl, hb4⟩
  rw [HS.out]
  have HB4 : Hid (Below w.heap.size w w4) := bel_trans HB3.out hb4
  clear hb4 HB3
  obtain ⟨a, c, rfl, hr⟩ := HR.out
  have HC : Hid (t0 = [] ∨ ∃ g o, a = some ⟨g, o, none⟩ ∧ t0.length ≤ c ∧ ∀ j, j < t0.length → w.cell? ⟨g, o + j, none⟩ = some (.string (str (t0.getD j [])))) := hr
  clear hr
  go_wp2_with fail
  go_loopw [4] (fun i wr => ∃ k : Nat, k ≤ t0.length ∧ i = .int .i64 k ∧ Hid (∀ j, j < k → listR (t0.getD j []) = ([t0.getD j []], 0)) ∧ Hid (Below w.heap.size w wr)) (fun i _ => t0.length - (intOf i).toNat)
  case atStart => exact ⟨0, Nat.zero_le _, rfl, (fun j hj => by omega : ∀ j, j < 0 → _), HB4⟩
  case round =>
    obtain ⟨k, hk, rfl, hall, hbl⟩ := hrel
    by_cases hlt : k < t0.length
    · rcases HC.out with h | ⟨g, o, rfl, hc, hcell⟩
      · rw [h] at hlt; simp at hlt
      have hg := World.block_lt_of_cell? w _ (hcell k hlt)
      have hcx : wr.cell? ⟨g, o + k, none⟩ = some (.string (str (t0.getD k []))) := (hbl.out.cell (p := ⟨g, o + k, none⟩) hg).trans (hcell k hlt)
      have HCK : Hid (w.cell? ⟨g, o + k, none⟩ = some (.string (str (t0.getD k [])))) := hcell k hlt
      have hel := el_le t0 k hlt
      have HSt : Hid (∀ j, j < k + 1 → listR (t0.getD k []) = ([t0.getD k []], 0) → listR (t0.getD j []) = ([t0.getD j []], 0)) := by
        intro j hj h
        by_cases hjk : j = k
        · rw [hjk]; exact h
        · exact hall.out j (by omega)
      clear hcell
      generalize t0.getD k [] = x at *
      have hxs := str_size x
      have HSh := (listR_short x).1
      go_wp2_with fail
      refine (rList_any (str x) (by omega) _).mono ?_
      rintro e w5 ⟨v5, rfl, ho5, hb5⟩
      rw [str_list] at ho5 ⊢
      have R5 : Hid (RdS v5 (listR x).1 w5) := ho5.rd
      have HB5 : Hid (Below w.heap.size w w5) := bel_trans hbl.out hb5
      clear ho5 hb5
      have hcx5 : w5.cell? ⟨g, o + k, none⟩ = some (.string (str x)) := (HB5.out.cell (p := ⟨g, o + k, none⟩) hg).trans HCK.out
      clear hcx hxs
      generalize hlr : listR x = lr at *
      have HLR : Hid (listR x = lr) := hlr
      clear hlr
      obtain ⟨T5, e5⟩ := lr
      dsimp only at R5 HSh ⊢
      by_cases he : e5 = 0
      · subst he
        have R6 : Hid (RdS v5 T5 (w5.alloc (.cells #[.string (str x)] 9))) := R5.out.below ((Below.refl _ w5).alloc (Nat.le_refl _) _)
        have R7 : Hid (RdS (.slice (some ⟨w5.heap.size, 0, none⟩) 1 1) [x] (w5.alloc (.cells #[.string (str x)] 9))) := rd_one w5 x
        have HB6 : Hid (Below w.heap.size w (w5.alloc (.cells #[.string (str x)] 9))) := HB5.out.alloc HB5.out.size _
        go_wp2_with fail
        refine (same_any v5 _ T5 [x] _ R6.out R7.out (by omega) (by simp)).mono ?_
        rintro e w6 ⟨rfl, n6, rfl⟩
        by_cases hsm : T5 = [x]
        · have HA : Hid (∀ j, j < k + 1 → listR (t0.getD j []) = ([t0.getD j []], 0)) := fun j hj => HSt.out j hj (by rw [hsm])
          rw [show decide (T5 = [x]) = true from decide_eq_true hsm]
          go_wp2
          go_roundw
          case rel => exact ⟨k + 1, by omega, by go_num, HA, below_drewN HB6.out _⟩
          case measure => simp [intOf]; omega
        · rw [show decide (T5 = [x]) = false from decide_eq_false hsm]
          go_wp2
          go_ret
          exact ⟨rfl, below_drewN HB6.out _⟩
      · have hne : (e5 != 0) = true := by simp [he]
        clear he
        go_wp2
        go_ret
        exact ⟨rfl, HB5.out⟩
    · obtain rfl : k = t0.length := by omega
      have HL : Hid (listR s.data.toList = (t0, 0)) := (by rw [← HS.out, str_list]; exact listR_some (lst_join t0 hall.out) : listR s.data.toList = (t0, 0))
      have hss : s.size ≤ 134217728 := by
        have h1 := jp_len t0 t0.length
        rw [jp_all] at h1
        rw [← HS.out, str_size]
        omega
      go_wp2_with fail
      refine (List_any s hss _).mono ?_
      rintro e w5 ⟨v5, rfl, ho5, hb5⟩
      rw [HL.out] at ho5 ⊢
      have HB5 : Hid (Below w.heap.size w w5) := bel_trans hbl.out hb5
      have R5 : Hid (RdS v5 t0 w5) := ho5.rd
      have R6 : Hid (RdS (.slice a t0.length c) t0 w5) := HR.out.below HB5.out
      clear ho5 hb5
      go_wp2_with fail
      refine (same_any v5 _ t0 t0 _ R5.out R6.out (by omega) (by omega)).mono ?_
      rintro e w6 ⟨rfl, n6, rfl⟩
      rw [show decide (t0 = t0) = true from decide_eq_true rfl]
      go_wp2
      go_ret
      exact ⟨rfl, below_drewN HB5.out _⟩

end Go.Proofs.YthdepdgmlngafabDoor.octetJoinsUpto
