/-
  The queue's At, First.
-/
import Derived.Test.YtiecfidkoficnaaQLeaf
import Derived.Deep.RegionHeld3
set_option maxRecDepth 100000
set_option linter.unusedVariables false
set_option linter.unusedSimpArgs false
namespace Go.Proofs.Ytiecfidkoficnaa
open Go.RowKit
namespace Rg

theorem wait_get {cap head count S : Nat} {cs : List Value} {i : Nat} {c : List Value} (h : (wait cap head count S cs)[i]? = some c) : i < count ∧ (cs.drop (pl cap head i * S)).take S = c := by
  have hi : i < count := by
    have := (List.getElem?_eq_some_iff.1 h).1
    rwa [wait_length] at this
  refine ⟨hi, ?_⟩
  unfold wait at h
  rw [List.getElem?_map, List.getElem?_range hi] at h
  simpa using h
theorem take_drop_get {cs : List Value} {k S j : Nat} {c : List Value} (h : (cs.drop k).take S = c) (hj : j < c.length) : cs[k + j]? = c[j]? := by
  have h1 : c.length ≤ S := by rw [← h]; simp; omega
  rw [← h, List.getElem?_take_of_lt (by omega), List.getElem?_drop]
theorem IsQ.below {w w' : World} {E S QT qp : Nat} {sv : Value} {cap head count n : Nat} {cs : List Value} (H : IsQ w E S QT qp sv cap head count n cs) (b : Below w.heap.size w w') : IsQ w' E S QT qp sv cap head count n cs :=
  ⟨(But.of_below b).heap H.str (fun e => by cases e), (But.of_below b).owns H.own (fun _ _ e => by cases e), H.sep, H.cap1, H.cap2, H.hn, H.hc, H.hh, H.grow⟩
theorem QP.below {w w' : World} {E S QT : Nat} {p : Option Addr} {bs : List Nat} {cap : Nat} {xs : List (List Value)} (H : QP w E S QT p bs cap xs) (b : Below w.heap.size w w') : QP w' E S QT p bs cap xs := by
  rcases H with H | ⟨qp, sv, head, n, cs, h1, h2, H, h3⟩
  · exact .inl H
  · exact .inr ⟨qp, sv, head, n, cs, h1, h2, H.below b, h3⟩

set_option maxHeartbeats 2000000 in
theorem qAt_S {w : World} {p : Option Addr} {bs : List Nat} {cap : Nat} {xs : List (List Value)} (HQ : QP w 9 1 97 p bs cap xs) (i : Nat) (x : ByteArray) (hx : xs[i]? = some [.string x]) : Calls Try.prog 23 #[.pointer p, .int .i64 (i : Int)] w fun e w' => e = .returned (.tuple #[.string x, .bool true]) ∧ Below w.heap.size w w' := by
  have HQ' : Hid (QP w 9 1 97 p bs cap xs) := HQ
  rcases HQ with ⟨rfl, _, _, rfl⟩ | ⟨qp, sv, head, n, cs, rfl, hbs, H, hxs⟩
  · simp at hx
  clear hbs
  rw [hxs] at hx
  obtain ⟨hi, hw⟩ := wait_get hx
  have hp := H.pl_lt hi
  obtain ⟨g, c, rfl⟩ : ∃ g c, sv = .slice (some ⟨g, 0, none⟩) n c := by
    rcases H.own.2 with ⟨_, e⟩ | ⟨g, c, _, e, _⟩
    · omega
    · exact ⟨g, c, e⟩
  obtain ⟨c0, c1, c2, c3, cf⟩ := row4q H.str
  have g0 : w.cell? ⟨g, pl cap head i, none⟩ = some (.string x) := by rw [H.own.cellAt _ (by have := H.own.1; omega)]; simpa using take_drop_get hw (j := 0) (by simp)
  have HH : Hid (IsQ w 9 1 97 qp (.slice (some ⟨g, 0, none⟩) n c) cap head xs.length n cs) := H
  have hcap := H.cap2
  have hle := H.hc
  have hn := H.hn
  have hmn : n ≤ c := by
    rcases H.own.2 with ⟨e, _⟩ | ⟨g', c', _, e, _, _, h, _⟩
    · cases e
    · injection e with _ _ e3
      omega
  clear H hx hxs hw
  obtain ⟨P, hP⟩ : ∃ P, P = pl cap head i := ⟨_, rfl⟩
  rw [← hP] at hp g0
  have HPP : Hid (pl cap head i = P) := hP.symm
  clear hP
  have hg1 : ¬ ((i : Nat) : Int) < 0 := by omega
  have hg2 : ((i : Nat) : Int) < ((xs.length : Nat) : Int) := by omega
  have hp' : ((P : Nat) : Int) < ((n : Nat) : Int) := by omega
  go_enter Try.func23, Try.ntmps23
  go_wp2_with fail
  refine (qLen_S HQ'.out).mono ?_
  rintro e w1 ⟨rfl, hb⟩
  have HB1 : Hid (Below w.heap.size w w1) := hb
  have k0 := (But.of_below hb).cell c0 (fun e => by cases e)
  have hg0 := (But.of_below hb).cell g0 (fun e => by cases e)
  clear hb c0 c1 c2 c3 cf g0
  go_wp2_with fail
  have HBd : Hid (Below w1.heap.size w1 w1.drew) := (Below.refl _ _).drew
  have d0 : w1.drew.cell? ⟨qp, 0, none⟩ = some (.slice (some ⟨g, 0, none⟩) n c) := k0
  have dg0 : w1.drew.cell? ⟨g, P, none⟩ = some (.string x) := hg0
  go_region_held3 (fun W => W.cell? ⟨qp, 0, none⟩ = some (.slice (some ⟨g, 0, none⟩) n c) ∧ W.cell? ⟨g, P, none⟩ = some (.string x)) (first | exact ⟨d0, dg0⟩ | exact ⟨m0, mg0⟩) (first | (go_at_call 49; refine (qPlace_S ((HH.out.below HB1.out).below HBd.out) i (by omega)).mono ?_; rintro e w2 ⟨rfl, hb2⟩; rw [HPP.out]; have HB2 : Hid (Below w1.heap.size w1 w2) := bel_trans HBd.out hb2; clear hb2; have m0 := (But.of_below HB2.out).cell k0 (fun e => by cases e); have mg0 := (But.of_below HB2.out).cell hg0 (fun e => by cases e)))
  all_goals
    go_wp2
    go_ret2
    exact ⟨rfl, bel_trans HB1.out HB2.out⟩

set_option maxHeartbeats 2000000 in
theorem qAtNo_S {w : World} {p : Option Addr} {bs : List Nat} {cap : Nat} {xs : List (List Value)} (HQ : QP w 9 1 97 p bs cap xs) (i : Int) (hi0 : -9223372036854775808 ≤ i) (hi1 : i ≤ 9223372036854775807) (hx : i < 0 ∨ (xs.length : Int) ≤ i) : Calls Try.prog 23 #[.pointer p, .int .i64 i] w fun e w' => e = .returned (.tuple #[.string ⟨#[]⟩, .bool false]) ∧ Below w.heap.size w w' := by
  have HQ' : Hid (QP w 9 1 97 p bs cap xs) := HQ
  clear HQ
  by_cases hg1 : i < 0
  · clear hx
    go_enter Try.func23, Try.ntmps23
    go_wp2
    go_ret2
    exact ⟨rfl, Below.refl _ _⟩
  · have hg2 : ¬ i < ((xs.length : Nat) : Int) := by omega
    have hg3 : ((xs.length : Nat) : Int) ≤ i := by omega
    clear hx
    go_enter Try.func23, Try.ntmps23
    go_wp2_with fail
    refine (qLen_S HQ'.out).mono ?_
    rintro e w1 ⟨rfl, hb⟩
    have HB1 : Hid (Below w.heap.size w w1) := hb
    clear hb
    go_wp2
    go_ret2
    exact ⟨rfl, HB1.out⟩

set_option maxHeartbeats 2000000 in
theorem qFirst_S {w : World} {p : Option Addr} {bs : List Nat} {cap : Nat} {xs : List (List Value)} (HQ : QP w 9 1 97 p bs cap xs) (x : ByteArray) (hx : xs[0]? = some [.string x]) : Calls Try.prog 22 #[.pointer p] w fun e w' => e = .returned (.tuple #[.string x, .bool true]) ∧ Below w.heap.size w w' := by
  have H0 := qAt_S HQ 0 x hx
  have HH0 : Hid (Calls Try.prog 23 #[.pointer p, .int .i64 0] w fun e w' => e = .returned (.tuple #[.string x, .bool true]) ∧ Below w.heap.size w w') := H0
  clear HQ H0 hx
  go_enter Try.func22, Try.ntmps22
  go_wp2_with fail
  refine HH0.out.mono ?_
  rintro e w1 ⟨rfl, hb⟩
  have HB1 : Hid (Below w.heap.size w w1) := hb
  clear hb
  go_wp2
  go_ret2
  exact ⟨rfl, HB1.out⟩

set_option maxHeartbeats 2000000 in
theorem qFirstNo_S {w : World} {p : Option Addr} {bs : List Nat} {cap : Nat} (HQ : QP w 9 1 97 p bs cap []) : Calls Try.prog 22 #[.pointer p] w fun e w' => e = .returned (.tuple #[.string ⟨#[]⟩, .bool false]) ∧ Below w.heap.size w w' := by
  have H0 := qAtNo_S HQ 0 (by omega) (by omega) (.inr (by simp))
  have HH0 : Hid (Calls Try.prog 23 #[.pointer p, .int .i64 0] w fun e w' => e = .returned (.tuple #[.string ⟨#[]⟩, .bool false]) ∧ Below w.heap.size w w') := H0
  clear HQ H0
  go_enter Try.func22, Try.ntmps22
  go_wp2_with fail
  refine HH0.out.mono ?_
  rintro e w1 ⟨rfl, hb⟩
  have HB1 : Hid (Below w.heap.size w w1) := hb
  clear hb
  go_wp2
  go_ret2
  exact ⟨rfl, HB1.out⟩

set_option maxHeartbeats 2000000 in
theorem qAt_I {w : World} {p : Option Addr} {bs : List Nat} {cap : Nat} {xs : List (List Value)} (HQ : QP w 3 1 106 p bs cap xs) (i : Nat) (x : Int) (hx : xs[i]? = some [.int .i64 x]) : Calls Try.prog 66 #[.pointer p, .int .i64 (i : Int)] w fun e w' => e = .returned (.tuple #[.int .i64 x, .bool true]) ∧ Below w.heap.size w w' := by
  have HQ' : Hid (QP w 3 1 106 p bs cap xs) := HQ
  rcases HQ with ⟨rfl, _, _, rfl⟩ | ⟨qp, sv, head, n, cs, rfl, hbs, H, hxs⟩
  · simp at hx
  clear hbs
  rw [hxs] at hx
  obtain ⟨hi, hw⟩ := wait_get hx
  have hp := H.pl_lt hi
  obtain ⟨g, c, rfl⟩ : ∃ g c, sv = .slice (some ⟨g, 0, none⟩) n c := by
    rcases H.own.2 with ⟨_, e⟩ | ⟨g, c, _, e, _⟩
    · omega
    · exact ⟨g, c, e⟩
  obtain ⟨c0, c1, c2, c3, cf⟩ := row4q H.str
  have g0 : w.cell? ⟨g, pl cap head i, none⟩ = some (.int .i64 x) := by rw [H.own.cellAt _ (by have := H.own.1; omega)]; simpa using take_drop_get hw (j := 0) (by simp)
  have HH : Hid (IsQ w 3 1 106 qp (.slice (some ⟨g, 0, none⟩) n c) cap head xs.length n cs) := H
  have hcap := H.cap2
  have hle := H.hc
  have hn := H.hn
  have hmn : n ≤ c := by
    rcases H.own.2 with ⟨e, _⟩ | ⟨g', c', _, e, _, _, h, _⟩
    · cases e
    · injection e with _ _ e3
      omega
  clear H hx hxs hw
  obtain ⟨P, hP⟩ : ∃ P, P = pl cap head i := ⟨_, rfl⟩
  rw [← hP] at hp g0
  have HPP : Hid (pl cap head i = P) := hP.symm
  clear hP
  have hg1 : ¬ ((i : Nat) : Int) < 0 := by omega
  have hg2 : ((i : Nat) : Int) < ((xs.length : Nat) : Int) := by omega
  have hp' : ((P : Nat) : Int) < ((n : Nat) : Int) := by omega
  go_enter Try.func66, Try.ntmps66
  go_wp2_with fail
  refine (qLen_I HQ'.out).mono ?_
  rintro e w1 ⟨rfl, hb⟩
  have HB1 : Hid (Below w.heap.size w w1) := hb
  have k0 := (But.of_below hb).cell c0 (fun e => by cases e)
  have hg0 := (But.of_below hb).cell g0 (fun e => by cases e)
  clear hb c0 c1 c2 c3 cf g0
  go_wp2_with fail
  have HBd : Hid (Below w1.heap.size w1 w1.drew) := (Below.refl _ _).drew
  have d0 : w1.drew.cell? ⟨qp, 0, none⟩ = some (.slice (some ⟨g, 0, none⟩) n c) := k0
  have dg0 : w1.drew.cell? ⟨g, P, none⟩ = some (.int .i64 x) := hg0
  go_region_held3 (fun W => W.cell? ⟨qp, 0, none⟩ = some (.slice (some ⟨g, 0, none⟩) n c) ∧ W.cell? ⟨g, P, none⟩ = some (.int .i64 x)) (first | exact ⟨d0, dg0⟩ | exact ⟨m0, mg0⟩) (first | (go_at_call 55; refine (qPlace_I ((HH.out.below HB1.out).below HBd.out) i (by omega)).mono ?_; rintro e w2 ⟨rfl, hb2⟩; rw [HPP.out]; have HB2 : Hid (Below w1.heap.size w1 w2) := bel_trans HBd.out hb2; clear hb2; have m0 := (But.of_below HB2.out).cell k0 (fun e => by cases e); have mg0 := (But.of_below HB2.out).cell hg0 (fun e => by cases e)))
  all_goals
    go_wp2
    go_ret2
    exact ⟨rfl, bel_trans HB1.out HB2.out⟩

set_option maxHeartbeats 2000000 in
theorem qAtNo_I {w : World} {p : Option Addr} {bs : List Nat} {cap : Nat} {xs : List (List Value)} (HQ : QP w 3 1 106 p bs cap xs) (i : Int) (hi0 : -9223372036854775808 ≤ i) (hi1 : i ≤ 9223372036854775807) (hx : i < 0 ∨ (xs.length : Int) ≤ i) : Calls Try.prog 66 #[.pointer p, .int .i64 i] w fun e w' => e = .returned (.tuple #[.int .i64 0, .bool false]) ∧ Below w.heap.size w w' := by
  have HQ' : Hid (QP w 3 1 106 p bs cap xs) := HQ
  clear HQ
  by_cases hg1 : i < 0
  · clear hx
    go_enter Try.func66, Try.ntmps66
    go_wp2
    go_ret2
    exact ⟨rfl, Below.refl _ _⟩
  · have hg2 : ¬ i < ((xs.length : Nat) : Int) := by omega
    have hg3 : ((xs.length : Nat) : Int) ≤ i := by omega
    clear hx
    go_enter Try.func66, Try.ntmps66
    go_wp2_with fail
    refine (qLen_I HQ'.out).mono ?_
    rintro e w1 ⟨rfl, hb⟩
    have HB1 : Hid (Below w.heap.size w w1) := hb
    clear hb
    go_wp2
    go_ret2
    exact ⟨rfl, HB1.out⟩

set_option maxHeartbeats 2000000 in
theorem qFirst_I {w : World} {p : Option Addr} {bs : List Nat} {cap : Nat} {xs : List (List Value)} (HQ : QP w 3 1 106 p bs cap xs) (x : Int) (hx : xs[0]? = some [.int .i64 x]) : Calls Try.prog 58 #[.pointer p] w fun e w' => e = .returned (.tuple #[.int .i64 x, .bool true]) ∧ Below w.heap.size w w' := by
  have H0 := qAt_I HQ 0 x hx
  have HH0 : Hid (Calls Try.prog 66 #[.pointer p, .int .i64 0] w fun e w' => e = .returned (.tuple #[.int .i64 x, .bool true]) ∧ Below w.heap.size w w') := H0
  clear HQ H0 hx
  go_enter Try.func58, Try.ntmps58
  go_wp2_with fail
  refine HH0.out.mono ?_
  rintro e w1 ⟨rfl, hb⟩
  have HB1 : Hid (Below w.heap.size w w1) := hb
  clear hb
  go_wp2
  go_ret2
  exact ⟨rfl, HB1.out⟩

set_option maxHeartbeats 2000000 in
theorem qFirstNo_I {w : World} {p : Option Addr} {bs : List Nat} {cap : Nat} (HQ : QP w 3 1 106 p bs cap []) : Calls Try.prog 58 #[.pointer p] w fun e w' => e = .returned (.tuple #[.int .i64 0, .bool false]) ∧ Below w.heap.size w w' := by
  have H0 := qAtNo_I HQ 0 (by omega) (by omega) (.inr (by simp))
  have HH0 : Hid (Calls Try.prog 66 #[.pointer p, .int .i64 0] w fun e w' => e = .returned (.tuple #[.int .i64 0, .bool false]) ∧ Below w.heap.size w w') := H0
  clear HQ H0
  go_enter Try.func58, Try.ntmps58
  go_wp2_with fail
  refine HH0.out.mono ?_
  rintro e w1 ⟨rfl, hb⟩
  have HB1 : Hid (Below w.heap.size w w1) := hb
  clear hb
  go_wp2
  go_ret2
  exact ⟨rfl, HB1.out⟩

end Rg
end Go.Proofs.Ytiecfidkoficnaa
