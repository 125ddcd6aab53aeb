/-
  field: Tokens, Has.
-/
import Derived.Test.YtjmeijjmgmcncaaDoorFLs
set_option linter.unusedVariables false
set_option linter.unusedSimpArgs false
namespace Go.Proofs.YtjmeijjmgmcncaaDoor
open Go.RowKit Go.Shelf
namespace Fd
open Oc Tg

def tokV (L : List (List UInt8)) : List (List UInt8) × Int := if L.all isTok then (L.map lower, 0) else ([], 10)
def tokensF (s : List UInt8) (t : List Fl) : List (List UInt8) × Int := if (listF s t).2 = 0 then tokV (listF s t).1 else ([], (listF s t).2)
theorem listV_short (M : Nat) : ∀ (T acc : List (List UInt8)), (∀ x ∈ acc, x.length ≤ M) → (∀ x ∈ T, x.length ≤ M) → ∀ x ∈ (listV T acc).1, x.length ≤ M
  | [], acc, ha, _, x, hx => ha x hx
  | v :: r, acc, ha, hT, x, hx => by
    unfold listV at hx
    split at hx
    · refine listV_short M r _ (fun y hy => ?_) (fun y hy => hT y (by simp [hy])) x hx
      rcases List.mem_append.1 hy with h | h
      · exact ha y h
      · exact Nat.le_trans ((listR_short v).2 y h) (hT v (by simp))
    · simp at hx
theorem listV_len : ∀ (T acc : List (List UInt8)), (listV T acc).1.length ≤ acc.length + sumV T
  | [], acc => by simp [listV, sumV]
  | x :: T, acc => by
    unfold listV
    split
    · have := listV_len T (acc ++ (listR x).1)
      have h2 := (listR_short x).1
      simp only [sumV, List.map_cons, List.sum_cons, List.length_append] at this ⊢
      omega
    · simp
theorem vals_short {M : Nat} {t : List Fl} (h : Each M t) (s : List UInt8) : ∀ x ∈ vals s t, x.length ≤ M := fun x hx => by
  unfold vals at hx
  obtain ⟨p, hp, rfl⟩ := List.mem_map.1 hx
  exact (h.filter _ p hp).2
def lowd (L : List (List UInt8)) (k : Nat) : List (List UInt8) := (L.take k).map lower ++ L.drop k
theorem lowd_len (L : List (List UInt8)) (k : Nat) : (lowd L k).length = L.length := by unfold lowd; simp; omega
theorem lowd_at (L : List (List UInt8)) (k : Nat) (h : k < L.length) : (lowd L k).getD k [] = L.getD k [] := by
  unfold lowd
  have hl : ((L.take k).map lower).length = k := by simp; omega
  rw [List.getD_eq_getElem?_getD, List.getD_eq_getElem?_getD, List.getElem?_append_right (by omega), hl, Nat.sub_self, List.getElem?_drop]
  simp
theorem lowd_set (L : List (List UInt8)) (k : Nat) (h : k < L.length) : (lowd L k).set k (lower (L.getD k [])) = lowd L (k + 1) := by
  unfold lowd
  have hl : ((L.take k).map lower).length = k := by simp; omega
  have e : L.take (k + 1) = L.take k ++ [L.getD k []] := by
    rw [List.take_add_one, List.getElem?_eq_getElem h, List.getD_eq_getElem?_getD, List.getElem?_eq_getElem h]; rfl
  rw [List.set_append, if_neg (by omega), hl, Nat.sub_self, dropS L k h, List.set_cons_zero, e, List.map_append]
  simp
theorem lowS_str (x : List UInt8) : lowS (str x) = str (lower x) := by unfold lowS; rw [str_list]

set_option maxRecDepth 100000 in
set_option maxHeartbeats 2000000 in
theorem Tokens6_any (v : Value) (t : List Fl) (s : List UInt8) (hs : s.length ≤ 1048576) (hS : sumF t ≤ 1048576) (w : World) (hrd : RdF v t w) (tab : Tab w) :
    Calls Tryd.prog 50 #[v, .string (str s)] w fun e w' => ∃ u, e = .returned (.tuple #[u, .int .i64 (tokensF s t).2]) ∧ OwnS w.heap.size u (tokensF s t).1 w' ∧ Below w.heap.size w w' := by
  have hlen := len_sumF t
  have HL : Hid (Calls _ _ _ _ _) := List6_any v t s hs hS w hrd
  have HT : Hid (Tab w) := tab
  have hv := sumV_filter s t
  have hll := listV_len (vals s t) []
  have HSh : Hid (∀ x ∈ (listF s t).1, x.length ≤ 1048576) := listV_short 1048576 (vals s t) [] (fun x hx => by cases hx) (vals_short ((each_sumF t).mono hS) s)
  have hLn : (listF s t).1.length ≤ 1048576 := by unfold listF; simp at hll; omega
  unfold tokensF
  obtain ⟨a, c, rfl, _⟩ := hrd
  clear hv hs hll tab
  generalize (listF s t).1 = L at *
  generalize (listF s t).2 = z at *
  generalize str s = S at *
  by_cases hz : z = 0
  · subst hz
    rw [if_pos rfl]
    go_enter Tryd.func50, Tryd.ntmps50
    go_wp2_with fail
    refine HL.out.mono ?_
    rintro e w1 ⟨u, rfl, ho, hb1⟩
    have HB1 : Hid (Below w.heap.size w w1) := hb1
    have HO1 : Hid (OwnS w.heap.size u (lowd L 0) w1) := by
      show OwnS _ _ _ _
      unfold lowd
      simpa using ho
    obtain ⟨ua, uc, rfl⟩ := ho.form
    clear ho hb1
    go_wp2
    go_loopw [21] (fun i wr => ∃ k : Nat, k ≤ L.length ∧ i = .int .i64 k ∧ Hid (∀ j, j < k → isTok (L.getD j []) = true) ∧ Hid (OwnS w.heap.size (.slice ua L.length uc) (lowd L k) wr) ∧ Hid (Below w.heap.size w wr)) (fun i _ => L.length - (intOf i).toNat)
    case atStart => exact ⟨0, Nat.zero_le _, rfl, (fun j hj => by omega : ∀ j, j < 0 → _), HO1, HB1⟩
    case round =>
      obtain ⟨k, hk, rfl, hall, hown, hbl⟩ := hrel
      by_cases hlt : k < L.length
      · have hld := lowd_len L k
        obtain ⟨g, hua, hcap, hcell⟩ := (show OwnS w.heap.size (.slice ua (lowd L k).length uc) (lowd L k) wr by rw [hld]; exact hown.out).cell k (by omega)
        subst hua
        rw [lowd_at L k hlt] at hcell
        have hcap2 : L.length ≤ uc := by omega
        have HSet : Hid (∀ W, OwnS w.heap.size (.slice (some ⟨g, 0, none⟩) L.length uc) (lowd L k) W → OwnS w.heap.size (.slice (some ⟨g, 0, none⟩) L.length uc) (lowd L (k + 1)) (W.setCell ⟨g, k, none⟩ (.string (str (lower (L.getD k []))))) ∧ W.frozen? ⟨g, k, none⟩ = false ∧ w.heap.size ≤ g) := fun W h => by
          have := ownS_set h k (by omega) (lower (L.getD k []))
          rw [lowd_set L k hlt] at this
          exact this
        have hxl : (L.getD k []).length ≤ 1048576 := HSh.out _ (by rw [List.getD_eq_getElem?_getD, List.getElem?_eq_getElem hlt]; exact List.getElem_mem hlt)
        have HI : Hid (∀ w, Tab w → Calls Tryd.prog 77 #[.string (str (L.getD k []))] w fun e w' => e = .returned (.bool (isTok (L.getD k []))) ∧ Below w.heap.size w w') := fun w tb => by
          have h := IsToken_any (str (L.getD k [])) (by rw [str_size]; unfold maxLen; omega) w tb
          rw [str_list] at h
          exact h
        have HLo : Hid (∀ w, Calls Tryd.prog 56 #[.string (str (L.getD k []))] w fun e w' => e = .returned (.string (str (lower (L.getD k [])))) ∧ Below w.heap.size w w') := fun w => by
          have h := Lower_any (str (L.getD k [])) (by rw [str_size]; unfold maxLen; omega) w
          rw [lowS_str] at h
          exact h
        have TT : isTok (L.getD k []) = true → Hid (∀ j, j < k + 1 → isTok (L.getD j []) = true) := fun h j hj => by
          by_cases hjk : j = k
          · subst hjk; exact h
          · exact hall.out j (by omega)
        have FF : isTok (L.getD k []) = false → Hid (tokV L = ([], 10)) := fun h => by
          show _ = _
          unfold tokV
          rw [if_neg]
          rw [all_not isTok [] L k hlt h]
          simp
        clear hxl hld
        generalize isTok (L.getD k []) = b at HI TT FF
        generalize str (lower (L.getD k [])) = Y at HSet HLo
        generalize str (L.getD k []) = X at hcell HI HLo
        cases b with
        | true =>
          have tt := TT rfl
          clear TT FF
          go_wp2_with fail
          refine (HI.out _ (HT.out.below hbl.out (Nat.le_refl _))).mono ?_
          rintro e w2 ⟨rfl, hb2⟩
          have HO2 : Hid (OwnS w.heap.size (.slice (some ⟨g, 0, none⟩) L.length uc) (lowd L k) w2) := hown.out.below hb2
          have HB2 : Hid (Below w.heap.size w w2) := bel_trans hbl.out hb2
          clear hb2
          go_wp2_with fail
          refine (HLo.out _).mono ?_
          rintro e w3 ⟨rfl, hb3⟩
          obtain ⟨hs1, hs2, hs3⟩ := HSet.out w3 (HO2.out.below hb3)
          have HO3 : Hid (OwnS w.heap.size (.slice (some ⟨g, 0, none⟩) L.length uc) (lowd L (k + 1)) (w3.setCell ⟨g, k, none⟩ (.string Y))) := hs1
          have HB3 : Hid (Below w.heap.size w (w3.setCell ⟨g, k, none⟩ (.string Y))) := (bel_trans HB2.out hb3).setCell hs3 _
          have hcw : ∃ u, w3.cell? ⟨g, k, none⟩ = some u := ⟨_, by
            have h2 := HO2.out.below hb3
            have hld := lowd_len L k
            obtain ⟨g2, e2, _, hc2⟩ := (show OwnS w.heap.size (.slice (some ⟨g, 0, none⟩) (lowd L k).length uc) (lowd L k) w3 by rw [hld]; exact h2).cell k (by omega)
            injection e2 with e2
            injection e2 with e2
            subst e2
            exact hc2⟩
          obtain ⟨cu, hcu⟩ := hcw
          clear hb3 hs1 hs3
          go_wp2
          go_roundw
          case rel => exact ⟨k + 1, by omega, by go_num, tt, HO3, HB3⟩
          case measure => simp [intOf]; omega
        | false =>
          have ff := FF rfl
          clear TT FF
          go_wp2_with fail
          refine (HI.out _ (HT.out.below hbl.out (Nat.le_refl _))).mono ?_
          rintro e w2 ⟨rfl, hb2⟩
          have HB2 : Hid (Below w.heap.size w w2) := bel_trans hbl.out hb2
          clear hb2
          go_wp2
          go_ret2
          rw [ff.out]
          exact ⟨_, rfl, ownS_nil _ _, HB2.out⟩
      · obtain rfl : k = L.length := by omega
        have HE : Hid (tokV L = (L.map lower, 0)) := by
          show _ = _
          unfold tokV
          rw [if_pos (all_of isTok [] L hall.out)]
        have HO2 : Hid (OwnS w.heap.size (.slice ua L.length uc) (L.map lower) wr) := by
          have h := hown.out
          rw [show lowd L L.length = L.map lower by unfold lowd; simp] at h
          exact h
        go_wp2
        go_ret2
        rw [HE.out]
        exact ⟨_, rfl, HO2.out, hbl.out⟩
  · rw [if_neg hz]
    have hzq : (z != 0) = true := by simp [hz]
    go_enter Tryd.func50, Tryd.ntmps50
    go_wp2_with fail
    refine HL.out.mono ?_
    rintro e w1 ⟨u, rfl, ho, hb1⟩
    obtain ⟨ua, uc, rfl⟩ := ho.form
    clear ho
    go_wp2
    go_ret2
    exact ⟨_, rfl, ownS_nil _ _, hb1⟩

end Fd
end Go.Proofs.YtjmeijjmgmcncaaDoor
