/- Several texts as one. -/
import Derived.Test.YthfckgdaencagaaGreatDoorACh
import Derived.Test.YthfckgdaencagaaGreatDoorMgE1
import Derived.Test.YthfckgdaencagaaGreatDoorMgY
/-
  AcceptBest.
-/
set_option maxRecDepth 100000
set_option linter.unusedVariables false
set_option linter.unusedSimpArgs false
namespace Go.Proofs.YthfckgdaencagaaGreatDoor
open Go.RowKit Go.Shelf
namespace Ac
open Oc Tg

theorem okMd_of_bulk (m : Md) (h : szM m ≤ 1048576) : OkMd m := by
  unfold szM bulkparams at h
  have h3 := len_sumP m.ps
  refine ⟨by unfold maxLen; omega, by unfold maxLen; omega, fun p hp => ?_, by omega⟩
  obtain ⟨k, hk, rfl⟩ := List.mem_iff_getElem.1 hp
  have := nth_sz m.ps k hk
  have e : nth m.ps k = m.ps[k] := by
    unfold nth
    rw [List.getD_eq_getElem?_getD, List.getElem?_eq_getElem hk]
    rfl
  rw [e] at this
  unfold szP at this
  unfold maxLen
  omega
theorem sum_each {α : Type} (f : α → Nat) : ∀ (t : List α) (M : Nat), (t.map fun r => f r + 1).sum ≤ M → (∀ r ∈ t, f r ≤ M) ∧ t.length ≤ M
  | [], M, _ => ⟨fun r hr => by simp at hr, by simp⟩
  | x :: t, M, h => by
    simp only [List.map_cons, List.sum_cons] at h
    obtain ⟨h1, h2⟩ := sum_each f t (M - (f x + 1)) (by omega)
    refine ⟨fun r hr => ?_, by simp; omega⟩
    rcases List.mem_cons.1 hr with rfl | hr
    · omega
    · have := h1 r hr
      omega

end Ac
end Go.Proofs.YthfckgdaencagaaGreatDoor

/-
  The document's Choose; AcceptChooses.
-/
set_option maxRecDepth 100000
set_option linter.unusedVariables false
set_option linter.unusedSimpArgs false
namespace Go.Proofs.YthfckgdaencagaaGreatDoor
open Go.RowKit Go.Shelf
namespace Ac
open Oc Tg

theorem qm_take {os : List Md} (f : Md → Int) {k : Nat} (h : k < os.length) : (os.take (k + 1)).map f = (os.take k).map f ++ [f (nthM os k)] := by
  unfold nthM
  rw [List.take_add_one, List.getElem?_eq_getElem h, List.map_append, List.getD_eq_getElem?_getD, List.getElem?_eq_getElem h]
  rfl
theorem bsM_map (os : List Md) (f : Md → Int) : ∀ k, k ≤ os.length → bsM (fun j => (os.map f).getD j 0) k = bsM (fun j => f (nthM os j)) k
  | 0, _ => rfl
  | k + 1, h => by
    have ih := bsM_map os f k (by omega)
    have e : (os.map f).getD k 0 = f (nthM os k) := by
      unfold nthM
      rw [List.getD_eq_getElem?_getD, List.getElem?_map, List.getElem?_eq_getElem (by omega), List.getD_eq_getElem?_getD, List.getElem?_eq_getElem (by omega)]
      rfl
    show (if (bsM _ k).2 < (os.map f).getD k 0 then ((k : Int), (os.map f).getD k 0) else bsM _ k) = _
    rw [ih, e]
    rfl

set_option maxHeartbeats 4000000 in
theorem rChoose_any (v u : Value) (t : List Rng) (os : List Md) (hos : ∀ r ∈ os, OkMd r) (ho : os.length ≤ 16777216) (ht : ∀ r ∈ t, OkMd r.md) (hl : t.length ≤ 16777216) (w : World) (hv : RdRg v t w) (hu : RdMs u os w) :
    Calls Tryz.prog 10 #[v, u] w fun e w' => e = .returned (.int .i64 (bsM (fun k => likM t (nthM os k)) os.length).1) ∧ Below w.heap.size w w' := by
  have HV : Hid (RdRg v t w) := hv
  have HU : Hid (RdMs u os w) := hu
  have HC : Hid (∀ W x k, k < os.length → Below w.heap.size w W → RdP x (nthM os k).ps W → Calls Tryz.prog 25 #[v, .agg #[.string (nthM os k).ty, .string (nthM os k).sub, x]] W fun e w' => e = .returned (.int .i64 (likM t (nthM os k))) ∧ Below (World.heap W).size W w') := fun W x k hk b hx => by
    have := rLiking_any v x t (nthM os k) ht (OkMs.at hos hk) hl W (hv.below b) hx
    rwa [rlk_likM t _ ht] at this
  have HE : Hid (bsM (fun j => (os.map (likM t)).getD j 0) os.length = bsM (fun k => likM t (nthM os k)) os.length) := bsM_map os (likM t) os.length (Nat.le_refl _)
  obtain ⟨a, c, rfl, _⟩ := hu
  obtain ⟨av, cv, rfl, _⟩ := hv
  clear hos ht
  go_enter Tryz.func10, Tryz.ntmps10
  go_wp2
  go_loopw [5, 6] (fun ov i wr => ∃ k : Nat, k ≤ os.length ∧ i = .int .i64 k ∧ Hid (OwnI w.heap.size ov ((os.take k).map (likM t)) wr) ∧ Hid (Below w.heap.size w wr)) (fun _ i _ => os.length - (intOf i).toNat)
  case atStart => exact ⟨0, Nat.zero_le _, rfl, ownI_empty w (Nat.le_refl _), (Below.refl _ w).alloc (Nat.le_refl _) _⟩
  case round =>
    obtain ⟨k, hk, rfl, hown, hbl⟩ := hrel
    have hsz := hbl.out.size
    by_cases hlt : k < os.length
    · obtain ⟨a', c', e', hcs⟩ := HU.out.below hbl.out
      injection e' with e1 _ e2
      subst e1 e2
      rcases hcs with h | ⟨g2, o2, rfl, hlc, hcell⟩
      · rw [h] at hlt; simp at hlt
      obtain ⟨d0, d1, x, d2, hx, _⟩ := hcell k hlt
      have HK' : Hid (Calls _ _ _ _ _) := HC.out wr x k hlt hbl.out hx
      obtain ⟨xa, xc, rfl, _⟩ := hx
      have HT : Hid (_ = _) := qm_take (likM t) hlt
      have hlk : ((os.take k).map (likM t)).length + 1 ≤ 2147483648 := by rw [List.length_map, List.length_take]; omega
      clear hcell
      generalize likM t (nthM os k) = Y at *
      generalize (nthM os k).ty = X0 at *
      generalize (nthM os k).sub = X1 at *
      generalize (nthM os k).ps.length = xn at *
      go_wp2_with fail
      refine HK'.out.mono ?_
      rintro e w2 ⟨rfl, hb2⟩
      have HO2 : Hid (OwnI w.heap.size _ ((os.take k).map (likM t)) w2) := hown.out.below hb2
      have HB2 : Hid (Below w.heap.size w w2) := bel_trans hbl.out hb2
      have hs2 : w.heap.size ≤ w2.heap.size := HB2.out.size
      clear hb2 hown d0 d1 d2
      go_wp2_with (at_builtin; go_must (refine wp_appI rfl (.tmp 14) (.tmp 21) rfl w.heap.size _ ((os.take k).map (likM t)) _ Y rfl HO2.out _ rfl (by simp) hlk hs2 ?_); intro v6 w6 hown6 hb6)
      have HO6 : Hid (OwnI w.heap.size v6 ((os.take (k + 1)).map (likM t)) w6) := (by rw [HT.out]; exact hown6 : OwnI _ v6 _ w6)
      have HB6 : Hid (Below w.heap.size w w6) := HB2.out.trans hb6
      clear hown6 hb6
      go_roundw
      case rel => exact ⟨k + 1, by omega, by go_num, HO6, HB6⟩
      case measure => simp [intOf]; omega
    · obtain rfl : k = os.length := by omega
      rw [List.take_length] at hown
      have HF := rfirst_any _ _ (by rw [List.length_map]; exact ho) wr hown.out.rd
      rw [List.length_map] at HF
      have HF' : Hid (Calls _ _ _ _ _) := HF
      clear HF
      have HV2 : Hid ((bsM (fun k => likM t (nthM os k)) os.length).1 = (bsM (fun j => (os.map (likM t)).getD j 0) os.length).1) := (by rw [HE.out] : _ = _)
      generalize (bsM (fun j => (os.map (likM t)).getD j 0) os.length).1 = V at HF' HV2
      go_wp2_with fail
      refine HF'.out.mono ?_
      rintro e w2 ⟨rfl, hb2⟩
      have HB2 : Hid (Below w.heap.size w w2) := bel_trans hbl.out hb2
      clear hb2
      go_wp2
      go_ret
      exact ⟨by rw [HV2.out]; rfl, HB2.out⟩

end Ac
end Go.Proofs.YthfckgdaencagaaGreatDoor
