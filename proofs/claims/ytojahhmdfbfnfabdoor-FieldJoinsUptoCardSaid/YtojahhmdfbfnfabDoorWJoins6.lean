/-
  FieldJoins.
-/
import Derived.Test.YtojahhmdfbfnfabDoorFJn
set_option linter.unusedVariables false
set_option linter.unusedSimpArgs false
namespace Go.Proofs.YtojahhmdfbfnfabDoor
open Go.RowKit Go.Shelf
namespace Fd
open Oc Tg

theorem joinF_len1 : ∀ t : List (List UInt8), t ≠ [] → (joinF t).length + 2 = sumL t + 2 * t.length
  | [], h => absurd rfl h
  | [x], _ => by simp [joinF, sumL]
  | x :: y :: r, _ => by
    have ih := joinF_len1 (y :: r) (by simp)
    show (x ++ 44 :: 32 :: joinF (y :: r)).length + 2 = _
    simp only [List.length_append, List.length_cons, sumL, List.map_cons, List.sum_cons] at ih ⊢
    omega

set_option maxRecDepth 100000 in
set_option maxHeartbeats 4000000 in
theorem walk_FieldJoins (v : Value) (t : List Fl) (hs : bulkfields t ≤ 1048576) (nm : ByteArray) (hn : nm.size ≤ 1048576) (hsum : sumF t + nm.size ≤ 1048576) (w : World) (hin : InF v t w) (hw : Env w) :
    Calls Tryd.prog 7 #[v, .string nm] w fun e w' => e = .returned (.bool true) ∧ Below w.heap.size w w' := by
  obtain ⟨s, rfl⟩ : ∃ s, nm = str s := ⟨nm.data.toList, (str_self nm).symm⟩
  rw [str_size] at hn hsum
  unfold bulkfields at hs
  have hlen := len_sumF t
  have HA : Hid (Calls _ _ _ _ _) := awake_any w hw
  have HI : Hid (InF v t w) := hin
  have HH : Hid (∀ w, InF v t w → Calls Tryd.prog 30 #[v] w fun e w' => ∃ u, e = .returned u ∧ OwnF 56 w.heap.size u t w' ∧ Below w.heap.size w w') := fun w h => wide_any v t w h (by omega)
  have HL : Hid (∀ u w, RdF u t w → Calls Tryd.prog 34 #[u, .string (str s)] w fun e w' => ∃ x, e = .returned (.tuple #[x, .int .i64 (listF s t).2]) ∧ OwnS w.heap.size x (listF s t).1 w' ∧ Below w.heap.size w w') := fun u w h => List6_any u t s hn hs w h
  have HJ : Hid (∀ u w, RdF u t w → Calls Tryd.prog 35 #[u, .string (str s)] w fun e w' => e = .returned (.tuple #[.string (str (joinF (vals s t))), .bool (decide (0 < (vals s t).length))]) ∧ Below w.heap.size w w') := fun u w h => Joined_any u t s hn hs w h
  have HAl : Hid (∀ u w, RdF u t w → Calls Tryd.prog 33 #[u, .string (str s)] w fun e w' => ∃ x, e = .returned x ∧ OwnS w.heap.size x (vals s t) w' ∧ Below w.heap.size w w') := fun u w h => All_any u t s hn ((each_sumF t).mono hs) (by omega) w h
  have hv := sumV_filter s t
  have hv2 := sumL_V (vals s t)
  have HL2 : Hid (vals s t ≠ [] → ∀ u w, RdF u [(s, joinF (vals s t))] w → Calls Tryd.prog 34 #[u, .string (str s)] w fun e w' => ∃ x, e = .returned (.tuple #[x, .int .i64 (listV [joinF (vals s t)] []).2]) ∧ OwnS w.heap.size x (listV [joinF (vals s t)] []).1 w' ∧ Below w.heap.size w w') := fun h0 u w h => by
    have hj := joinF_len1 (vals s t) h0
    have hpos : 0 < (vals s t).length := List.length_pos_iff.2 h0
    have h := List6_any u [(s, joinF (vals s t))] s hn (by simp only [sumF, szF, List.map_cons, List.map_nil, List.sum_cons, List.sum_nil]; omega) w h
    unfold listF at h
    rw [vals_one] at h
    exact h
  have hvl : (vals s t).length ≤ 1048576 := by omega
  have LJ := list_join (vals s t)
  have LB := listV_bad14 (vals s t)
  have hle : (listV (vals s t) []).1.length ≤ 4294967296 := by
    have : ∀ (T acc : List (List UInt8)), (listV T acc).1.length ≤ acc.length + sumV T := fun T => by
      induction T with
      | nil => intro acc; simp [listV, sumV]
      | cons x T ih =>
        intro acc
        unfold listV
        split
        · have := ih (acc ++ (listR x).1)
          have h2 := (listR_short x).1
          simp only [sumV, List.map_cons, List.sum_cons, List.length_append] at this ⊢
          omega
        · simp
    have := this (vals s t) []
    simp at this
    omega
  unfold listF at HL
  obtain ⟨⟨a, c, rfl, _⟩, _⟩ := hin
  clear hw hs hsum hv hv2 hn
  generalize vals s t = T at *
  generalize hS : str s = S at *
  by_cases hz : (listV T []).2 = 0
  · by_cases h0 : T = []
    · subst h0
      have hl0 : (listV ([] : List (List UInt8)) []) = ([], 0) := rfl
      rw [hl0] at HL
      dsimp only at HL
      have hd : decide (0 < ([] : List (List UInt8)).length) = false := by simp
      rw [hd] at HJ
      clear LJ LB HL2 hz hd hl0 hle
      generalize str (joinF ([] : List (List UInt8))) = JJ at *
      clear hS
      go_enter Tryd.func7, Tryd.ntmps7
      go_wp2_with fail
      refine HA.out.mono ?_
      rintro e w1 ⟨rfl, hb⟩
      have HB1 : Hid (Below w.heap.size w w1) := hb
      clear hb
      go_wp2_with fail
      refine (HH.out _ (HI.out.below HB1.out)).mono ?_
      rintro e w2 ⟨u, rfl, hu, hb⟩
      have HB2 : Hid (Below w.heap.size w w2) := bel_trans HB1.out hb
      have HU : Hid (RdF u t w2) := hu.rd
      clear hb hu
      go_wp2_with fail
      refine (HL.out _ _ HU.out).mono ?_
      rintro e w3 ⟨x, rfl, hx, hb⟩
      have HB3 : Hid (Below w.heap.size w w3) := bel_trans HB2.out hb
      obtain ⟨xa, xc, rfl⟩ := hx.form
      clear hb hx
      go_wp2_with fail
      refine (HH.out _ (HI.out.below HB3.out)).mono ?_
      rintro e w4 ⟨u2, rfl, hu, hb⟩
      have HB4 : Hid (Below w.heap.size w w4) := bel_trans HB3.out hb
      have HU4 : Hid (RdF u2 t w4) := hu.rd
      clear hb hu
      go_wp2_with fail
      refine (HJ.out _ _ HU4.out).mono ?_
      rintro e w5 ⟨rfl, hb⟩
      have HB5 : Hid (Below w.heap.size w w5) := bel_trans HB4.out hb
      clear hb
      go_wp2_with fail
      refine (HH.out _ (HI.out.below HB5.out)).mono ?_
      rintro e w6 ⟨u3, rfl, hu, hb⟩
      have HB6 : Hid (Below w.heap.size w w6) := bel_trans HB5.out hb
      have HU6 : Hid (RdF u3 t w6) := hu.rd
      clear hb hu
      go_wp2_with fail
      refine (HAl.out _ _ HU6.out).mono ?_
      rintro e w7 ⟨y, rfl, hy, hb⟩
      have HB7 : Hid (Below w.heap.size w w7) := bel_trans HB6.out hb
      obtain ⟨ya, yc, rfl⟩ := hy.form
      clear hb hy
      go_wp2
      go_ret
      exact ⟨rfl, HB7.out⟩
    · have lj := LJ h0 hz
      have HL3 : Hid (∀ u w, RdF u [(s, joinF T)] w → Calls Tryd.prog 34 #[u, .string S] w fun e w' => ∃ x, e = .returned (.tuple #[x, .int .i64 0]) ∧ OwnS w.heap.size x (listV T []).1 w' ∧ Below w.heap.size w w') := fun u w h => by
        have h := HL2.out h0 u w h
        have e : listV [joinF T] [] = ((listV T []).1, 0) := by
          show (if (listR (joinF T)).2 = 0 then listV [] ([] ++ (listR (joinF T)).1) else ([], (listR (joinF T)).2)) = _
          rw [if_pos (by rw [lj]), lj]
          rfl
        rw [e] at h
        exact h
      have hpos : 0 < T.length := List.length_pos_iff.2 h0
      rw [decide_eq_true hpos] at HJ
      rw [hz] at HL
      have HRJ : Hid (∀ W : World, RdF (.slice (some ⟨W.heap.size, 0, none⟩) 1 1) [(s, joinF T)] (W.alloc (.cells #[.string S, .string (str (joinF T))] 56))) := fun W => by
        have h := rd_oneF W 56 (s, joinF T)
        dsimp only at h
        rw [hS] at h
        exact h
      clear LJ LB HL2 hz lj h0 hpos hS
      generalize str (joinF T) = JJ at *
      generalize (listV T []).1 = LT at *
      go_enter Tryd.func7, Tryd.ntmps7
      go_wp2_with fail
      refine HA.out.mono ?_
      rintro e w1 ⟨rfl, hb⟩
      have HB1 : Hid (Below w.heap.size w w1) := hb
      clear hb
      go_wp2_with fail
      refine (HH.out _ (HI.out.below HB1.out)).mono ?_
      rintro e w2 ⟨u, rfl, hu, hb⟩
      have HB2 : Hid (Below w.heap.size w w2) := bel_trans HB1.out hb
      have HU : Hid (RdF u t w2) := hu.rd
      clear hb hu
      go_wp2_with fail
      refine (HL.out _ _ HU.out).mono ?_
      rintro e w3 ⟨x, rfl, hx, hb⟩
      have HB3 : Hid (Below w.heap.size w w3) := bel_trans HB2.out hb
      have HX3 : Hid (RdS x LT w3) := hx.rd
      obtain ⟨xa, xc, rfl⟩ := hx.form
      clear hb hx
      go_wp2_with fail
      refine (HH.out _ (HI.out.below HB3.out)).mono ?_
      rintro e w4 ⟨u2, rfl, hu, hb⟩
      have HB4 : Hid (Below w.heap.size w w4) := bel_trans HB3.out hb
      have HX4 : Hid (RdS (.slice xa LT.length xc) LT w4) := HX3.out.below hb
      have HU4 : Hid (RdF u2 t w4) := hu.rd
      clear hb hu
      go_wp2_with fail
      refine (HJ.out _ _ HU4.out).mono ?_
      rintro e w5 ⟨rfl, hb⟩
      have HB5 : Hid (Below w.heap.size w w5) := bel_trans HB4.out hb
      have HX5 : Hid (RdS (.slice xa LT.length xc) LT w5) := HX4.out.below hb
      clear hb
      have hb6 : Below w5.heap.size w5 (w5.alloc (.cells #[.string S, .string JJ] 56)) := (Below.refl _ w5).alloc (Nat.le_refl _) _
      have HB6 : Hid (Below w.heap.size w (w5.alloc (.cells #[.string S, .string JJ] 56))) := bel_trans HB5.out hb6
      have HX6 : Hid (RdS (.slice xa LT.length xc) LT (w5.alloc (.cells #[.string S, .string JJ] 56))) := HX5.out.below hb6
      clear hb6
      go_wp2_with fail
      refine (HL3.out _ _ (HRJ.out w5)).mono ?_
      rintro e w7 ⟨y, rfl, hy, hb⟩
      have HB7 : Hid (Below w.heap.size w w7) := bel_trans HB6.out hb
      have HT : Hid (Calls _ _ _ _ _) := texts_any (.slice xa LT.length xc) y LT w7 (HX6.out.below hb) hy.rd hle
      clear hb hy
      go_wp2_with fail
      refine HT.out.mono ?_
      rintro e w8 ⟨rfl, hb⟩
      have HB8 : Hid (Below w.heap.size w w8) := bel_trans HB7.out hb
      clear hb
      go_wp2
      go_ret
      exact ⟨rfl, HB8.out⟩
  · have lb := LB hz
    rw [lb] at HL
    dsimp only at HL
    clear LJ LB HL2 hz lb HJ HAl hS
    go_enter Tryd.func7, Tryd.ntmps7
    go_wp2_with fail
    refine HA.out.mono ?_
    rintro e w1 ⟨rfl, hb⟩
    have HB1 : Hid (Below w.heap.size w w1) := hb
    clear hb
    go_wp2_with fail
    refine (HH.out _ (HI.out.below HB1.out)).mono ?_
    rintro e w2 ⟨u, rfl, hu, hb⟩
    have HB2 : Hid (Below w.heap.size w w2) := bel_trans HB1.out hb
    have HU : Hid (RdF u t w2) := hu.rd
    clear hb hu
    go_wp2_with fail
    refine (HL.out _ _ HU.out).mono ?_
    rintro e w3 ⟨x, rfl, hx, hb⟩
    have HB3 : Hid (Below w.heap.size w w3) := bel_trans HB2.out hb
    obtain ⟨xa, xc, rfl⟩ := hx.form
    clear hb hx
    go_wp2
    go_ret
    exact ⟨rfl, HB3.out⟩

end Fd
end Go.Proofs.YtojahhmdfbfnfabDoor
