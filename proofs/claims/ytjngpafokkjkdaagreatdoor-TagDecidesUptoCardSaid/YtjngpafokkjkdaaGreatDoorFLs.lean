/-
  field: Joined, List, Tokens, Has.
-/
import Derived.Test.YtjngpafokkjkdaaGreatDoorMgN
import Derived.Lib.Join
set_option linter.unusedVariables false
set_option linter.unusedSimpArgs false
namespace Go.Proofs.YtjngpafokkjkdaaGreatDoor
open Go.RowKit Go.Shelf
namespace Fd
open Oc Tg

theorem ownS_set {B g n c : Nat} {t : List (List UInt8)} {w : World} (h : OwnS B (.slice (some ⟨g, 0, none⟩) n c) t w) (j : Nat) (hj : j < t.length) (l : List UInt8) :
    OwnS B (.slice (some ⟨g, 0, none⟩) n c) (t.set j l) (w.setCell ⟨g, j, none⟩ (.string (str l))) ∧ w.frozen? ⟨g, j, none⟩ = false ∧ B ≤ g := by
  obtain ⟨h1, h2⟩ := h
  rcases h2 with ⟨hv, _⟩ | ⟨g', cap, cur, hv, hB, hg, hn, hm, hsz, htake⟩
  · cases hv
  · injection hv with e1 e2 e3
    injection e1 with e1
    injection e1 with e1
    subst e1 e3
    have e : encS (t.set j l) = (encS t).set j (.string (str l)) := by unfold encS; rw [List.map_set]
    refine ⟨⟨by rw [e]; simpa using h1, .inr ⟨g, c, cur.setIfInBounds j (.string (str l)), by rw [List.length_set, e2], hB, by simp [World.setCell, Array.getElem?_modify, hg], by rw [List.length_set]; exact hn, hm, by simpa using hsz, ?_⟩⟩, Lib.frozen_of_heap hg j, hB⟩
    rw [e, ← htake, List.length_set]
    simp [List.take_set]

theorem join_eq : ∀ t : List (List UInt8), Lib.join t [44, 32] = joinF t
  | [] => rfl
  | [x] => Lib.join_one x _
  | x :: y :: r => by
    have ih := join_eq (y :: r)
    rw [Lib.join_cons] at ih ⊢
    show x ++ Lib.joinTail [44, 32] (y :: r) = x ++ 44 :: 32 :: joinF (y :: r)
    rw [← ih]
    simp [Lib.joinTail]

set_option maxRecDepth 100000 in
set_option maxHeartbeats 1000000 in
theorem sJoin_nil (sep : ByteArray) (a : Option Addr) (c : Nat) (w : World) :
    Calls Tryz.prog 113 #[.slice a 0 c, .string sep] w fun e w' => e = .returned (.string ⟨#[]⟩) ∧ w' = w := by
  go_enter Tryz.func113, Tryz.ntmps113
  go_wp2
  go_ret
  exact ⟨rfl, rfl⟩

theorem sJoin_all (v : Value) (t : List (List UInt8)) (w : World) (h : RdS v t w) (hl : t.length ≤ 33554432) (hJ : sumL t ≤ 33554432) :
    Calls Tryz.prog 113 #[v, .string ⟨#[44, 32]⟩] w fun e w' => e = .returned (.string (str (joinF t))) ∧ Below w.heap.size w w' := by
  obtain ⟨a, c, rfl, h⟩ := h
  rcases h with rfl | ⟨g, o, rfl, hc, hcell⟩
  · exact (sJoin_nil _ a c w).mono fun e w' ⟨he, hw⟩ => ⟨he, hw ▸ Below.refl _ _⟩
  · by_cases h0 : t = []
    · subst h0
      exact (sJoin_nil _ _ c w).mono fun e w' ⟨he, hw⟩ => ⟨he, hw ▸ Below.refl _ _⟩
    · have hpos : 0 < t.length := List.length_pos_iff.2 h0
      have hmap : (t.map str).map (fun x : ByteArray => x.data.toList) = t := by
        rw [List.map_map]
        conv => rhs; rw [← List.map_id t]
        apply List.map_congr_left
        intro x _
        exact str_list x
      have hlen := joinF_len t
      have h := Tryz.strings_Join g o c (t.map str) ⟨#[44, 32]⟩ w (fun j x hx => by
        have hj : j < t.length := by have := (List.getElem?_eq_some_iff.1 hx).1; simpa using this
        rw [hcell j hj]
        rw [List.getElem?_map, List.getElem?_eq_getElem hj] at hx
        rw [List.getD_eq_getElem?_getD, List.getElem?_eq_getElem hj]
        simpa using hx) (World.block_lt_of_cell? w _ (hcell 0 hpos)) (by rw [List.length_map]; omega) (by rw [List.length_map]; exact hc)
        (by rw [hmap, show (⟨#[44, 32]⟩ : ByteArray).data.toList = [44, 32] from rfl, join_eq]; omega)
      rw [hmap, show (⟨#[44, 32]⟩ : ByteArray).data.toList = [44, 32] from rfl, join_eq, List.length_map] at h
      exact h

set_option maxHeartbeats 1000000 in
theorem Join_any (v : Value) (t : List (List UInt8)) (w : World) (h : RdS v t w) (hl : t.length ≤ 33554432) (hJ : sumL t ≤ 33554432) :
    Calls Tryz.prog 95 #[v] w fun e w' => e = .returned (.string (str (joinF t))) ∧ Below w.heap.size w w' := by
  have HJ : Hid (Calls _ _ _ _ _) := sJoin_all v t w h hl hJ
  clear h hl hJ
  generalize str (joinF t) = J at *
  go_enter Tryz.func95, Tryz.ntmps95
  go_wp2_with fail
  refine HJ.out.mono ?_
  rintro e w2 ⟨rfl, hb2⟩
  go_wp2
  go_ret
  exact ⟨rfl, hb2⟩

/-- The lengths of texts, and one for each. -/
def sumV (t : List (List UInt8)) : Nat := (t.map fun x => x.length + 1).sum
theorem sumV_filter (s : List UInt8) : ∀ t : List Fl, sumV (vals s t) + 2 * (vals s t).length ≤ sumF t
  | [] => by simp [sumV, vals]
  | p :: t => by
    have ih := sumV_filter s t
    unfold vals at ih ⊢
    rw [List.filter_cons]
    by_cases h : alike s p = true
    · rw [if_pos h]
      simp only [sumV, sumF, szF, List.map_cons, List.sum_cons, List.length_cons] at ih ⊢
      omega
    · rw [if_neg h]
      simp only [sumF, List.map_cons, List.sum_cons] at ih ⊢
      omega
theorem sumL_V (t : List (List UInt8)) : sumL t + t.length = sumV t := by
  induction t with
  | nil => rfl
  | cons x t ih =>
    simp only [sumL, sumV, List.map_cons, List.sum_cons, List.length_cons] at ih ⊢
    omega

set_option maxRecDepth 100000 in
set_option maxHeartbeats 1000000 in
theorem Joined_any (v : Value) (t : List Fl) (s : List UInt8) (hs : s.length ≤ 1048576) (hS : sumF t ≤ 1048576) (w : World) (hrd : RdF v t w) :
    Calls Tryz.prog 68 #[v, .string (str s)] w fun e w' => e = .returned (.tuple #[.string (str (joinF (vals s t))), .bool (decide (0 < (vals s t).length))]) ∧ Below w.heap.size w w' := by
  have hlen := len_sumF t
  have HA : Hid (Calls _ _ _ _ _) := All_any v t s hs ((each_sumF t).mono hS) (by omega) w hrd
  have hv := sumV_filter s t
  have hv2 := sumL_V (vals s t)
  have HJ : Hid (∀ u w, RdS u (vals s t) w → Calls Tryz.prog 95 #[u] w fun e w' => e = .returned (.string (str (joinF (vals s t)))) ∧ Below w.heap.size w w') := fun u w h => Join_any u _ w h (by omega) (by omega)
  have hvl : (vals s t).length ≤ 1048576 := by omega
  obtain ⟨a, c, rfl, _⟩ := hrd
  clear hv hv2 hs
  generalize vals s t = T at *
  generalize str s = S at *
  generalize str (joinF T) = J at *
  go_enter Tryz.func68, Tryz.ntmps68
  go_wp2_with fail
  refine HA.out.mono ?_
  rintro e w1 ⟨u, rfl, ho, hb1⟩
  have HR : Hid (RdS u T w1) := ho.rd
  have HB1 : Hid (Below w.heap.size w w1) := hb1
  obtain ⟨a1, c1, rfl⟩ := ho.form
  clear ho hb1
  go_wp2_with fail
  refine (HJ.out _ _ HR.out).mono ?_
  rintro e w2 ⟨rfl, hb2⟩
  have HB2 : Hid (Below w.heap.size w w2) := bel_trans HB1.out hb2
  clear hb2
  go_wp2
  go_ret2
  exact ⟨by simp, HB2.out⟩

/-- The elements of values, one value's behind the other's. -/
def listV : List (List UInt8) → List (List UInt8) → List (List UInt8) × Int
  | [], acc => (acc, 0)
  | v :: r, acc => if (listR v).2 = 0 then listV r (acc ++ (listR v).1) else ([], (listR v).2)
def listF (s : List UInt8) (t : List Fl) : List (List UInt8) × Int := listV (vals s t) []
theorem dropS (t : List (List UInt8)) (k : Nat) (h : k < t.length) : t.drop k = t.getD k [] :: t.drop (k + 1) := by
  rw [List.drop_eq_getElem_cons h, List.getD_eq_getElem?_getD, List.getElem?_eq_getElem h]
  rfl
theorem listV_next (t : List (List UInt8)) (k : Nat) (h : k < t.length) (acc : List (List UInt8)) (hz : (listR (t.getD k [])).2 = 0) : listV (t.drop k) acc = listV (t.drop (k + 1)) (acc ++ (listR (t.getD k [])).1) := by
  rw [dropS t k h]
  show (if _ then _ else _) = _
  rw [if_pos hz]
theorem listV_bad (t : List (List UInt8)) (k : Nat) (h : k < t.length) (acc : List (List UInt8)) (hz : (listR (t.getD k [])).2 ≠ 0) : listV (t.drop k) acc = ([], (listR (t.getD k [])).2) := by
  rw [dropS t k h]
  show (if _ then _ else _) = _
  rw [if_neg hz]
theorem sumV_drop (t : List (List UInt8)) (k : Nat) (h : k < t.length) : sumV (t.drop k) = (t.getD k []).length + 1 + sumV (t.drop (k + 1)) := by
  rw [dropS t k h]
  simp [sumV]

end Fd
end Go.Proofs.YtjngpafokkjkdaaGreatDoor
