/- Several texts as one. -/
import Derived.Test.YtjhlflochheolaaMgB
import Derived.Deep.RegionHeld3
import Derived.BigRegion
import Derived.Deep.Quiet
import Derived.Deep.QuietTactic
/-
  The queue's At, First.
-/
set_option maxRecDepth 100000
set_option linter.unusedVariables false
set_option linter.unusedSimpArgs false
namespace Go.Proofs.Ytjhlflochheolaa
open Go.RowKit
namespace Rg

theorem wait_get {cap head count S : Nat} {cs : List Value} {i : Nat} {c : List Value} (h : (wait cap head count S cs)[i]? = some c) : i < count ∧ (cs.drop (pl cap head i * S)).take S = c := by
  have hi : i < count := by
    have := (List.getElem?_eq_some_iff.1 h).1
    rwa [wait_length] at this
  refine ⟨hi, ?_⟩
  unfold wait at h
  rw [List.getElem?_map, List.getElem?_range hi] at h
  simpa using h
theorem take_drop_get {cs : List Value} {k S j : Nat} {c : List Value} (h : (cs.drop k).take S = c) (hj : j < c.length) : cs[k + j]? = c[j]? := by
  have h1 : c.length ≤ S := by rw [← h]; simp; omega
  rw [← h, List.getElem?_take_of_lt (by omega), List.getElem?_drop]
theorem IsQ.below {w w' : World} {E S QT qp : Nat} {sv : Value} {cap head count n : Nat} {cs : List Value} (H : IsQ w E S QT qp sv cap head count n cs) (b : Below w.heap.size w w') : IsQ w' E S QT qp sv cap head count n cs :=
  ⟨(But.of_below b).heap H.str (fun e => by cases e), (But.of_below b).owns H.own (fun _ _ e => by cases e), H.sep, H.cap1, H.cap2, H.hn, H.hc, H.hh, H.grow⟩
theorem QP.below {w w' : World} {E S QT : Nat} {p : Option Addr} {bs : List Nat} {cap : Nat} {xs : List (List Value)} (H : QP w E S QT p bs cap xs) (b : Below w.heap.size w w') : QP w' E S QT p bs cap xs := by
  rcases H with H | ⟨qp, sv, head, n, cs, h1, h2, H, h3⟩
  · exact .inl H
  · exact .inr ⟨qp, sv, head, n, cs, h1, h2, H.below b, h3⟩

set_option maxHeartbeats 2000000 in
theorem qAt_S {w : World} {p : Option Addr} {bs : List Nat} {cap : Nat} {xs : List (List Value)} (HQ : QP w 9 1 87 p bs cap xs) (i : Nat) (x : ByteArray) (hx : xs[i]? = some [.string x]) : Calls Try.prog 22 #[.pointer p, .int .i64 (i : Int)] w fun e w' => e = .returned (.tuple #[.string x, .bool true]) ∧ Below w.heap.size w w' := by
  have HQ' : Hid (QP w 9 1 87 p bs cap xs) := HQ
  rcases HQ with ⟨rfl, _, _, rfl⟩ | ⟨qp, sv, head, n, cs, rfl, hbs, H, hxs⟩
  · simp at hx
  clear hbs
  rw [hxs] at hx
  obtain ⟨hi, hw⟩ := wait_get hx
  have hp := H.pl_lt hi
  obtain ⟨g, c, rfl⟩ : ∃ g c, sv = .slice (some ⟨g, 0, none⟩) n c := by
    rcases H.own.2 with ⟨_, e⟩ | ⟨g, c, _, e, _⟩
    · omega
    · exact ⟨g, c, e⟩
  obtain ⟨c0, c1, c2, c3, cf⟩ := row4q H.str
  have g0 : w.cell? ⟨g, pl cap head i, none⟩ = some (.string x) := by rw [H.own.cellAt _ (by have := H.own.1; omega)]; simpa using take_drop_get hw (j := 0) (by simp)
  have HH : Hid (IsQ w 9 1 87 qp (.slice (some ⟨g, 0, none⟩) n c) cap head xs.length n cs) := H
  have hcap := H.cap2
  have hle := H.hc
  have hn := H.hn
  have hmn : n ≤ c := by
    rcases H.own.2 with ⟨e, _⟩ | ⟨g', c', _, e, _, _, h, _⟩
    · cases e
    · injection e with _ _ e3
      omega
  clear H hx hxs hw
  obtain ⟨P, hP⟩ : ∃ P, P = pl cap head i := ⟨_, rfl⟩
  rw [← hP] at hp g0
  have HPP : Hid (pl cap head i = P) := hP.symm
  clear hP
  have hg1 : ¬ ((i : Nat) : Int) < 0 := by omega
  have hg2 : ((i : Nat) : Int) < ((xs.length : Nat) : Int) := by omega
  have hp' : ((P : Nat) : Int) < ((n : Nat) : Int) := by omega
  go_enter Try.func22, Try.ntmps22
  go_wp2_with fail
  refine (qLen_S HQ'.out).mono ?_
  rintro e w1 ⟨rfl, hb⟩
  have HB1 : Hid (Below w.heap.size w w1) := hb
  have k0 := (But.of_below hb).cell c0 (fun e => by cases e)
  have hg0 := (But.of_below hb).cell g0 (fun e => by cases e)
  clear hb c0 c1 c2 c3 cf g0
  go_wp2_with fail
  have HBd : Hid (Below w1.heap.size w1 w1.drew) := (Below.refl _ _).drew
  have d0 : w1.drew.cell? ⟨qp, 0, none⟩ = some (.slice (some ⟨g, 0, none⟩) n c) := k0
  have dg0 : w1.drew.cell? ⟨g, P, none⟩ = some (.string x) := hg0
  go_region_held3 (fun W => W.cell? ⟨qp, 0, none⟩ = some (.slice (some ⟨g, 0, none⟩) n c) ∧ W.cell? ⟨g, P, none⟩ = some (.string x)) (first | exact ⟨d0, dg0⟩ | exact ⟨m0, mg0⟩) (first | (go_at_call 44; refine (qPlace_S ((HH.out.below HB1.out).below HBd.out) i (by omega)).mono ?_; rintro e w2 ⟨rfl, hb2⟩; rw [HPP.out]; have HB2 : Hid (Below w1.heap.size w1 w2) := bel_trans HBd.out hb2; clear hb2; have m0 := (But.of_below HB2.out).cell k0 (fun e => by cases e); have mg0 := (But.of_below HB2.out).cell hg0 (fun e => by cases e)))
  all_goals
    go_wp2
    go_ret2
    exact ⟨rfl, bel_trans HB1.out HB2.out⟩

set_option maxHeartbeats 2000000 in
theorem qAtNo_S {w : World} {p : Option Addr} {bs : List Nat} {cap : Nat} {xs : List (List Value)} (HQ : QP w 9 1 87 p bs cap xs) (i : Int) (hi0 : -9223372036854775808 ≤ i) (hi1 : i ≤ 9223372036854775807) (hx : i < 0 ∨ (xs.length : Int) ≤ i) : Calls Try.prog 22 #[.pointer p, .int .i64 i] w fun e w' => e = .returned (.tuple #[.string ⟨#[]⟩, .bool false]) ∧ Below w.heap.size w w' := by
  have HQ' : Hid (QP w 9 1 87 p bs cap xs) := HQ
  clear HQ
  by_cases hg1 : i < 0
  · clear hx
    go_enter Try.func22, Try.ntmps22
    go_wp2
    go_ret2
    exact ⟨rfl, Below.refl _ _⟩
  · have hg2 : ¬ i < ((xs.length : Nat) : Int) := by omega
    have hg3 : ((xs.length : Nat) : Int) ≤ i := by omega
    clear hx
    go_enter Try.func22, Try.ntmps22
    go_wp2_with fail
    refine (qLen_S HQ'.out).mono ?_
    rintro e w1 ⟨rfl, hb⟩
    have HB1 : Hid (Below w.heap.size w w1) := hb
    clear hb
    go_wp2
    go_ret2
    exact ⟨rfl, HB1.out⟩

set_option maxHeartbeats 2000000 in
theorem qFirst_S {w : World} {p : Option Addr} {bs : List Nat} {cap : Nat} {xs : List (List Value)} (HQ : QP w 9 1 87 p bs cap xs) (x : ByteArray) (hx : xs[0]? = some [.string x]) : Calls Try.prog 21 #[.pointer p] w fun e w' => e = .returned (.tuple #[.string x, .bool true]) ∧ Below w.heap.size w w' := by
  have H0 := qAt_S HQ 0 x hx
  have HH0 : Hid (Calls Try.prog 22 #[.pointer p, .int .i64 0] w fun e w' => e = .returned (.tuple #[.string x, .bool true]) ∧ Below w.heap.size w w') := H0
  clear HQ H0 hx
  go_enter Try.func21, Try.ntmps21
  go_wp2_with fail
  refine HH0.out.mono ?_
  rintro e w1 ⟨rfl, hb⟩
  have HB1 : Hid (Below w.heap.size w w1) := hb
  clear hb
  go_wp2
  go_ret2
  exact ⟨rfl, HB1.out⟩

set_option maxHeartbeats 2000000 in
theorem qFirstNo_S {w : World} {p : Option Addr} {bs : List Nat} {cap : Nat} (HQ : QP w 9 1 87 p bs cap []) : Calls Try.prog 21 #[.pointer p] w fun e w' => e = .returned (.tuple #[.string ⟨#[]⟩, .bool false]) ∧ Below w.heap.size w w' := by
  have H0 := qAtNo_S HQ 0 (by omega) (by omega) (.inr (by simp))
  have HH0 : Hid (Calls Try.prog 22 #[.pointer p, .int .i64 0] w fun e w' => e = .returned (.tuple #[.string ⟨#[]⟩, .bool false]) ∧ Below w.heap.size w w') := H0
  clear HQ H0
  go_enter Try.func21, Try.ntmps21
  go_wp2_with fail
  refine HH0.out.mono ?_
  rintro e w1 ⟨rfl, hb⟩
  have HB1 : Hid (Below w.heap.size w w1) := hb
  clear hb
  go_wp2
  go_ret2
  exact ⟨rfl, HB1.out⟩

set_option maxHeartbeats 2000000 in
theorem qAt_I {w : World} {p : Option Addr} {bs : List Nat} {cap : Nat} {xs : List (List Value)} (HQ : QP w 3 1 92 p bs cap xs) (i : Nat) (x : Int) (hx : xs[i]? = some [.int .i64 x]) : Calls Try.prog 57 #[.pointer p, .int .i64 (i : Int)] w fun e w' => e = .returned (.tuple #[.int .i64 x, .bool true]) ∧ Below w.heap.size w w' := by
  have HQ' : Hid (QP w 3 1 92 p bs cap xs) := HQ
  rcases HQ with ⟨rfl, _, _, rfl⟩ | ⟨qp, sv, head, n, cs, rfl, hbs, H, hxs⟩
  · simp at hx
  clear hbs
  rw [hxs] at hx
  obtain ⟨hi, hw⟩ := wait_get hx
  have hp := H.pl_lt hi
  obtain ⟨g, c, rfl⟩ : ∃ g c, sv = .slice (some ⟨g, 0, none⟩) n c := by
    rcases H.own.2 with ⟨_, e⟩ | ⟨g, c, _, e, _⟩
    · omega
    · exact ⟨g, c, e⟩
  obtain ⟨c0, c1, c2, c3, cf⟩ := row4q H.str
  have g0 : w.cell? ⟨g, pl cap head i, none⟩ = some (.int .i64 x) := by rw [H.own.cellAt _ (by have := H.own.1; omega)]; simpa using take_drop_get hw (j := 0) (by simp)
  have HH : Hid (IsQ w 3 1 92 qp (.slice (some ⟨g, 0, none⟩) n c) cap head xs.length n cs) := H
  have hcap := H.cap2
  have hle := H.hc
  have hn := H.hn
  have hmn : n ≤ c := by
    rcases H.own.2 with ⟨e, _⟩ | ⟨g', c', _, e, _, _, h, _⟩
    · cases e
    · injection e with _ _ e3
      omega
  clear H hx hxs hw
  obtain ⟨P, hP⟩ : ∃ P, P = pl cap head i := ⟨_, rfl⟩
  rw [← hP] at hp g0
  have HPP : Hid (pl cap head i = P) := hP.symm
  clear hP
  have hg1 : ¬ ((i : Nat) : Int) < 0 := by omega
  have hg2 : ((i : Nat) : Int) < ((xs.length : Nat) : Int) := by omega
  have hp' : ((P : Nat) : Int) < ((n : Nat) : Int) := by omega
  go_enter Try.func57, Try.ntmps57
  go_wp2_with fail
  refine (qLen_I HQ'.out).mono ?_
  rintro e w1 ⟨rfl, hb⟩
  have HB1 : Hid (Below w.heap.size w w1) := hb
  have k0 := (But.of_below hb).cell c0 (fun e => by cases e)
  have hg0 := (But.of_below hb).cell g0 (fun e => by cases e)
  clear hb c0 c1 c2 c3 cf g0
  go_wp2_with fail
  have HBd : Hid (Below w1.heap.size w1 w1.drew) := (Below.refl _ _).drew
  have d0 : w1.drew.cell? ⟨qp, 0, none⟩ = some (.slice (some ⟨g, 0, none⟩) n c) := k0
  have dg0 : w1.drew.cell? ⟨g, P, none⟩ = some (.int .i64 x) := hg0
  go_region_held3 (fun W => W.cell? ⟨qp, 0, none⟩ = some (.slice (some ⟨g, 0, none⟩) n c) ∧ W.cell? ⟨g, P, none⟩ = some (.int .i64 x)) (first | exact ⟨d0, dg0⟩ | exact ⟨m0, mg0⟩) (first | (go_at_call 47; refine (qPlace_I ((HH.out.below HB1.out).below HBd.out) i (by omega)).mono ?_; rintro e w2 ⟨rfl, hb2⟩; rw [HPP.out]; have HB2 : Hid (Below w1.heap.size w1 w2) := bel_trans HBd.out hb2; clear hb2; have m0 := (But.of_below HB2.out).cell k0 (fun e => by cases e); have mg0 := (But.of_below HB2.out).cell hg0 (fun e => by cases e)))
  all_goals
    go_wp2
    go_ret2
    exact ⟨rfl, bel_trans HB1.out HB2.out⟩

set_option maxHeartbeats 2000000 in
theorem qAtNo_I {w : World} {p : Option Addr} {bs : List Nat} {cap : Nat} {xs : List (List Value)} (HQ : QP w 3 1 92 p bs cap xs) (i : Int) (hi0 : -9223372036854775808 ≤ i) (hi1 : i ≤ 9223372036854775807) (hx : i < 0 ∨ (xs.length : Int) ≤ i) : Calls Try.prog 57 #[.pointer p, .int .i64 i] w fun e w' => e = .returned (.tuple #[.int .i64 0, .bool false]) ∧ Below w.heap.size w w' := by
  have HQ' : Hid (QP w 3 1 92 p bs cap xs) := HQ
  clear HQ
  by_cases hg1 : i < 0
  · clear hx
    go_enter Try.func57, Try.ntmps57
    go_wp2
    go_ret2
    exact ⟨rfl, Below.refl _ _⟩
  · have hg2 : ¬ i < ((xs.length : Nat) : Int) := by omega
    have hg3 : ((xs.length : Nat) : Int) ≤ i := by omega
    clear hx
    go_enter Try.func57, Try.ntmps57
    go_wp2_with fail
    refine (qLen_I HQ'.out).mono ?_
    rintro e w1 ⟨rfl, hb⟩
    have HB1 : Hid (Below w.heap.size w w1) := hb
    clear hb
    go_wp2
    go_ret2
    exact ⟨rfl, HB1.out⟩

set_option maxHeartbeats 2000000 in
theorem qFirst_I {w : World} {p : Option Addr} {bs : List Nat} {cap : Nat} {xs : List (List Value)} (HQ : QP w 3 1 92 p bs cap xs) (x : Int) (hx : xs[0]? = some [.int .i64 x]) : Calls Try.prog 50 #[.pointer p] w fun e w' => e = .returned (.tuple #[.int .i64 x, .bool true]) ∧ Below w.heap.size w w' := by
  have H0 := qAt_I HQ 0 x hx
  have HH0 : Hid (Calls Try.prog 57 #[.pointer p, .int .i64 0] w fun e w' => e = .returned (.tuple #[.int .i64 x, .bool true]) ∧ Below w.heap.size w w') := H0
  clear HQ H0 hx
  go_enter Try.func50, Try.ntmps50
  go_wp2_with fail
  refine HH0.out.mono ?_
  rintro e w1 ⟨rfl, hb⟩
  have HB1 : Hid (Below w.heap.size w w1) := hb
  clear hb
  go_wp2
  go_ret2
  exact ⟨rfl, HB1.out⟩

set_option maxHeartbeats 2000000 in
theorem qFirstNo_I {w : World} {p : Option Addr} {bs : List Nat} {cap : Nat} (HQ : QP w 3 1 92 p bs cap []) : Calls Try.prog 50 #[.pointer p] w fun e w' => e = .returned (.tuple #[.int .i64 0, .bool false]) ∧ Below w.heap.size w w' := by
  have H0 := qAtNo_I HQ 0 (by omega) (by omega) (.inr (by simp))
  have HH0 : Hid (Calls Try.prog 57 #[.pointer p, .int .i64 0] w fun e w' => e = .returned (.tuple #[.int .i64 0, .bool false]) ∧ Below w.heap.size w w') := H0
  clear HQ H0
  go_enter Try.func50, Try.ntmps50
  go_wp2_with fail
  refine HH0.out.mono ?_
  rintro e w1 ⟨rfl, hb⟩
  have HB1 : Hid (Below w.heap.size w w1) := hb
  clear hb
  go_wp2
  go_ret2
  exact ⟨rfl, HB1.out⟩

end Rg
end Go.Proofs.Ytjhlflochheolaa

/-
  The queue's Pop.
-/
set_option maxRecDepth 100000
set_option linter.unusedVariables false
set_option linter.unusedSimpArgs false
namespace Go.Proofs.Ytjhlflochheolaa
open Go.RowKit
namespace Rg

/-- Behind a pop the others wait. -/
theorem wait_pop {cap head c : Nat} {cs : List Value} {z : Value} (hh : head < cap) (hc : c + 1 ≤ cap) : (wait cap head (c + 1) 1 cs).tail = wait cap (pl cap head 1) c 1 (cs.set head z) := by
  unfold wait
  rw [List.range_succ_eq_map, List.map_cons, List.tail_cons, List.map_map]
  refine List.map_congr_left fun i hi => ?_
  have hi' := List.mem_range.1 hi
  have e : pl cap (pl cap head 1) i = pl cap head (i + 1) := by rw [pl_pl cap head 1 i hh (by omega), Nat.add_comm]
  have hne : pl cap head (i + 1) ≠ head := by
    unfold pl
    split <;> omega
  simp only [Function.comp, e, Nat.mul_one, Nat.succ_eq_add_one]
  rw [List.drop_set]
  split
  · rfl
  · rename_i h
    obtain ⟨k, hk⟩ : ∃ k, head - pl cap head (i + 1) = k + 1 := ⟨head - pl cap head (i + 1) - 1, by omega⟩
    rw [hk]
    cases cs.drop (pl cap head (i + 1)) with
    | nil => rfl
    | cons a l => simp [List.set]

set_option maxHeartbeats 2000000 in
theorem qPop_S {w : World} {p : Option Addr} {bs : List Nat} {cap : Nat} {rest : List (List Value)} (x : ByteArray) (HQ : QP w 9 1 87 p bs cap ([.string x] :: rest)) : Calls Try.prog 20 #[.pointer p] w fun e w' => e = .returned (.tuple #[.string x, .int .i64 0]) ∧ QP w' 9 1 87 p bs cap rest ∧ But bs w w' := by
  have H0 := qFirst_S HQ x rfl
  have HH0 : Hid (Calls Try.prog 21 #[.pointer p] w fun e w' => e = .returned (.tuple #[.string x, .bool true]) ∧ Below w.heap.size w w') := H0
  clear H0
  rcases HQ with ⟨rfl, _, _, e⟩ | ⟨qp, sv, head, n, cs, rfl, hbs, H, hxs⟩
  · cases e
  have HBS : Hid (bs = qp :: sv.ownBlock.toList) := hbs
  have HXS : Hid ([.string x] :: rest = wait cap head (rest.length + 1) 1 cs) := hxs
  have HN0 : 0 < n := by have := H.hc; simp at this; omega
  obtain ⟨g, c, rfl⟩ : ∃ g c, sv = .slice (some ⟨g, 0, none⟩) n c := by
    rcases H.own.2 with ⟨_, e⟩ | ⟨g, c, _, e, _⟩
    · omega
    · exact ⟨g, c, e⟩
  have hmn : n ≤ c := by
    rcases H.own.2 with ⟨e, _⟩ | ⟨g', c', _, e, _, _, h, _⟩
    · cases e
    · injection e with _ _ e3
      omega
  have hp : head < n := by
    have := H.pl_lt (i := 0) (by simp)
    have h3 := H.hh
    unfold pl at this
    split at this <;> omega
  have HH : Hid (IsQ w 9 1 87 qp (.slice (some ⟨g, 0, none⟩) n c) cap head (rest.length + 1) n cs) := H
  have hcap := H.cap2
  have hn := H.hn
  have hle : rest.length + 1 ≤ n := H.hc
  have hgq : g ≠ qp := H.sep g rfl
  clear H hxs hbs
  have hp' : ((head : Nat) : Int) < ((n : Nat) : Int) := by omega
  go_enter Try.func20, Try.ntmps20
  go_wp2_with fail
  refine HH0.out.mono ?_
  rintro e w1 ⟨rfl, hb⟩
  have HB1 : Hid (Below w.heap.size w w1) := hb
  have H1 : Hid (IsQ w1 9 1 87 qp (.slice (some ⟨g, 0, none⟩) n c) cap head (rest.length + 1) n cs) := HH.out.below hb
  clear hb
  obtain ⟨c0, c1, c2, c3, cf⟩ := row4q H1.out.str
  have f0 := H1.out.own.frozenAt head
  obtain ⟨u, hu⟩ : ∃ u, w1.cell? ⟨g, head, none⟩ = some u := by
    rw [H1.out.own.cellAt head (by omega)]
    exact ⟨_, List.getElem?_eq_getElem (by have := H1.out.own.1; omega)⟩
  obtain ⟨w2, hw2⟩ : ∃ w2, w2 = (w1.setCell ⟨g, head, none⟩ (.string ⟨#[]⟩)).drew := ⟨_, rfl⟩
  have B2 : Hid (But [g] w1 w2) := (by rw [hw2]; exact ((But.refl _ w1).setCell (by simp) _).drew : But [g] w1 w2)
  have H2 : Hid (IsQ w2 9 1 87 qp (.slice (some ⟨g, 0, none⟩) n c) cap head (rest.length + 1) n (cs.set head (.string ⟨#[]⟩))) := ⟨B2.out.heap H1.out.str (by simpa using fun e => hgq e.symm), (by rw [hw2]; exact (H1.out.own.stored head _).1), H1.out.sep, H1.out.cap1, H1.out.cap2, H1.out.hn, H1.out.hc, H1.out.hh, H1.out.grow⟩
  go_wp2_with fail
  go_region
  all_goals
    go_wp2_with fail
    rw [← hw2]
    clear hw2 c0 c1 c2 c3 cf f0 hu
    refine (qPlace_S H2.out 1 (by omega)).mono ?_
    rintro e w3 ⟨rfl, hb3⟩
    have H3 : Hid (IsQ w3 9 1 87 qp (.slice (some ⟨g, 0, none⟩) n c) cap head (rest.length + 1) n (cs.set head (.string ⟨#[]⟩))) := H2.out.below hb3
    have B3 : Hid (But [g] w w3) := ((But.of_below HB1.out).nil.trans B2.out).trans (But.of_below hb3).nil
    clear hb3
    obtain ⟨h5, hh5⟩ : ∃ h5, h5 = pl cap head 1 := ⟨_, rfl⟩
    rw [← hh5]
    have HH5 : Hid (h5 = pl cap head 1) := hh5
    clear hh5
    obtain ⟨c0, c1, c2, c3, cf⟩ := row4q H3.out.str
    have z1 := heap_setCell_same w3 qp 2 _ _ (.int .i64 (h5 : Int)) H3.out.str
    have z2 := heap_setCell_same _ qp 3 _ _ (.int .i64 (rest.length : Int)) z1
    have Z2 : Hid (_ = _) := z2
    have BT : Hid (But [qp] w3 ((w3.setCell ⟨qp, 2, none⟩ (.int .i64 (h5 : Int))).setCell ⟨qp, 3, none⟩ (.int .i64 (rest.length : Int)))) := ((But.refl _ w3).setCell (by simp) _).setCell (by simp) _
    clear z1 z2
    go_wp2
    go_ret2
    have k1 := H3.out.hh
    have k2 := H3.out.cap1
    have k3 := H3.out.grow
    have hr : rest = wait cap h5 rest.length 1 (cs.set head (.string ⟨#[]⟩)) := by
      have := congrArg List.tail HXS.out
      rw [wait_pop (z := .string ⟨#[]⟩) k1 (by omega)] at this
      rw [HH5.out]
      exact this
    refine ⟨rfl, .inr ⟨qp, .slice (some ⟨g, 0, none⟩) n c, h5, n, cs.set head (.string ⟨#[]⟩), rfl, HBS.out, ⟨Z2.out, BT.out.owns H3.out.own (fun y hy => by have := H3.out.sep y hy; simpa using this), H3.out.sep, k2, H3.out.cap2, H3.out.hn, by omega, ?_, ?_⟩, hr⟩, ?_⟩
    · rw [HH5.out]
      exact pl_lt cap head 1 k1 k2
    · intro hlt
      have := k3 hlt
      rw [HH5.out]
      unfold pl
      split <;> omega
    · rw [HBS.out]
      exact (B3.out.mono (by simp [Value.ownBlock])).trans (BT.out.mono (by simp))

set_option maxHeartbeats 2000000 in
theorem qPop_I {w : World} {p : Option Addr} {bs : List Nat} {cap : Nat} {rest : List (List Value)} (x : Int) (HQ : QP w 3 1 92 p bs cap ([.int .i64 x] :: rest)) : Calls Try.prog 30 #[.pointer p] w fun e w' => e = .returned (.tuple #[.int .i64 x, .int .i64 0]) ∧ QP w' 3 1 92 p bs cap rest ∧ But bs w w' := by
  have H0 := qFirst_I HQ x rfl
  have HH0 : Hid (Calls Try.prog 50 #[.pointer p] w fun e w' => e = .returned (.tuple #[.int .i64 x, .bool true]) ∧ Below w.heap.size w w') := H0
  clear H0
  rcases HQ with ⟨rfl, _, _, e⟩ | ⟨qp, sv, head, n, cs, rfl, hbs, H, hxs⟩
  · cases e
  have HBS : Hid (bs = qp :: sv.ownBlock.toList) := hbs
  have HXS : Hid ([.int .i64 x] :: rest = wait cap head (rest.length + 1) 1 cs) := hxs
  have HN0 : 0 < n := by have := H.hc; simp at this; omega
  obtain ⟨g, c, rfl⟩ : ∃ g c, sv = .slice (some ⟨g, 0, none⟩) n c := by
    rcases H.own.2 with ⟨_, e⟩ | ⟨g, c, _, e, _⟩
    · omega
    · exact ⟨g, c, e⟩
  have hmn : n ≤ c := by
    rcases H.own.2 with ⟨e, _⟩ | ⟨g', c', _, e, _, _, h, _⟩
    · cases e
    · injection e with _ _ e3
      omega
  have hp : head < n := by
    have := H.pl_lt (i := 0) (by simp)
    have h3 := H.hh
    unfold pl at this
    split at this <;> omega
  have HH : Hid (IsQ w 3 1 92 qp (.slice (some ⟨g, 0, none⟩) n c) cap head (rest.length + 1) n cs) := H
  have hcap := H.cap2
  have hn := H.hn
  have hle : rest.length + 1 ≤ n := H.hc
  have hgq : g ≠ qp := H.sep g rfl
  clear H hxs hbs
  have hp' : ((head : Nat) : Int) < ((n : Nat) : Int) := by omega
  go_enter Try.func30, Try.ntmps30
  go_wp2_with fail
  refine HH0.out.mono ?_
  rintro e w1 ⟨rfl, hb⟩
  have HB1 : Hid (Below w.heap.size w w1) := hb
  have H1 : Hid (IsQ w1 3 1 92 qp (.slice (some ⟨g, 0, none⟩) n c) cap head (rest.length + 1) n cs) := HH.out.below hb
  clear hb
  obtain ⟨c0, c1, c2, c3, cf⟩ := row4q H1.out.str
  have f0 := H1.out.own.frozenAt head
  obtain ⟨u, hu⟩ : ∃ u, w1.cell? ⟨g, head, none⟩ = some u := by
    rw [H1.out.own.cellAt head (by omega)]
    exact ⟨_, List.getElem?_eq_getElem (by have := H1.out.own.1; omega)⟩
  obtain ⟨w2, hw2⟩ : ∃ w2, w2 = (w1.setCell ⟨g, head, none⟩ (.int .i64 0)).drew := ⟨_, rfl⟩
  have B2 : Hid (But [g] w1 w2) := (by rw [hw2]; exact ((But.refl _ w1).setCell (by simp) _).drew : But [g] w1 w2)
  have H2 : Hid (IsQ w2 3 1 92 qp (.slice (some ⟨g, 0, none⟩) n c) cap head (rest.length + 1) n (cs.set head (.int .i64 0))) := ⟨B2.out.heap H1.out.str (by simpa using fun e => hgq e.symm), (by rw [hw2]; exact (H1.out.own.stored head _).1), H1.out.sep, H1.out.cap1, H1.out.cap2, H1.out.hn, H1.out.hc, H1.out.hh, H1.out.grow⟩
  go_wp2_with fail
  go_region
  all_goals
    go_wp2_with fail
    rw [← hw2]
    clear hw2 c0 c1 c2 c3 cf f0 hu
    refine (qPlace_I H2.out 1 (by omega)).mono ?_
    rintro e w3 ⟨rfl, hb3⟩
    have H3 : Hid (IsQ w3 3 1 92 qp (.slice (some ⟨g, 0, none⟩) n c) cap head (rest.length + 1) n (cs.set head (.int .i64 0))) := H2.out.below hb3
    have B3 : Hid (But [g] w w3) := ((But.of_below HB1.out).nil.trans B2.out).trans (But.of_below hb3).nil
    clear hb3
    obtain ⟨h5, hh5⟩ : ∃ h5, h5 = pl cap head 1 := ⟨_, rfl⟩
    rw [← hh5]
    have HH5 : Hid (h5 = pl cap head 1) := hh5
    clear hh5
    obtain ⟨c0, c1, c2, c3, cf⟩ := row4q H3.out.str
    have z1 := heap_setCell_same w3 qp 2 _ _ (.int .i64 (h5 : Int)) H3.out.str
    have z2 := heap_setCell_same _ qp 3 _ _ (.int .i64 (rest.length : Int)) z1
    have Z2 : Hid (_ = _) := z2
    have BT : Hid (But [qp] w3 ((w3.setCell ⟨qp, 2, none⟩ (.int .i64 (h5 : Int))).setCell ⟨qp, 3, none⟩ (.int .i64 (rest.length : Int)))) := ((But.refl _ w3).setCell (by simp) _).setCell (by simp) _
    clear z1 z2
    go_wp2
    go_ret2
    have k1 := H3.out.hh
    have k2 := H3.out.cap1
    have k3 := H3.out.grow
    have hr : rest = wait cap h5 rest.length 1 (cs.set head (.int .i64 0)) := by
      have := congrArg List.tail HXS.out
      rw [wait_pop (z := .int .i64 0) k1 (by omega)] at this
      rw [HH5.out]
      exact this
    refine ⟨rfl, .inr ⟨qp, .slice (some ⟨g, 0, none⟩) n c, h5, n, cs.set head (.int .i64 0), rfl, HBS.out, ⟨Z2.out, BT.out.owns H3.out.own (fun y hy => by have := H3.out.sep y hy; simpa using this), H3.out.sep, k2, H3.out.cap2, H3.out.hn, by omega, ?_, ?_⟩, hr⟩, ?_⟩
    · rw [HH5.out]
      exact pl_lt cap head 1 k1 k2
    · intro hlt
      have := k3 hlt
      rw [HH5.out]
      unfold pl
      split <;> omega
    · rw [HBS.out]
      exact (B3.out.mono (by simp [Value.ownBlock])).trans (BT.out.mono (by simp))

set_option maxHeartbeats 2000000 in
theorem qPopNo_S {w : World} {p : Option Addr} {bs : List Nat} {cap : Nat} (HQ : QP w 9 1 87 p bs cap []) : Calls Try.prog 20 #[.pointer p] w fun e w' => e = .returned (.tuple #[.string ⟨#[]⟩, .int .i64 22]) ∧ Below w.heap.size w w' := by
  have H0 := qFirstNo_S HQ
  have HH0 : Hid (Calls Try.prog 21 #[.pointer p] w fun e w' => e = .returned (.tuple #[.string ⟨#[]⟩, .bool false]) ∧ Below w.heap.size w w') := H0
  clear H0 HQ
  go_enter Try.func20, Try.ntmps20
  go_wp2_with fail
  refine HH0.out.mono ?_
  rintro e w1 ⟨rfl, hb⟩
  have HB1 : Hid (Below w.heap.size w w1) := hb
  clear hb
  go_wp2
  go_ret2
  exact ⟨rfl, HB1.out⟩

set_option maxHeartbeats 2000000 in
theorem qClear_S {w : World} {p : Option Addr} {bs : List Nat} {cap : Nat} {xs : List (List Value)} (HQ : QP w 9 1 87 p bs cap xs) : Calls Try.prog 25 #[.pointer p] w fun e w' => e = .returned (.tuple #[]) ∧ QP w' 9 1 87 p (bs.take 1) cap [] ∧ But bs w w' := by
  rcases HQ with ⟨rfl, rfl, rfl, _⟩ | ⟨qp, sv, head, n, cs, rfl, hbs, H, hxs⟩
  · go_enter Try.func25, Try.ntmps25
    go_wp2
    refine bodyPost_ret (results_none rfl _ _ _) rfl ?_
    exact ⟨rfl, .inl ⟨rfl, rfl, rfl, rfl⟩, But.refl _ _⟩
  · have HBS : Hid (bs = qp :: sv.ownBlock.toList) := hbs
    have HH : Hid (IsQ w 9 1 87 qp sv cap head xs.length n cs) := H
    obtain ⟨c0, c1, c2, c3, cf⟩ := row4q H.str
    have z1 := heap_setCell_same w qp 0 _ _ (.slice none 0 0) H.str
    have z2 := heap_setCell_same _ qp 2 _ _ (.int .i64 0) z1
    have z3 := heap_setCell_same _ qp 3 _ _ (.int .i64 0) z2
    have Z3 : Hid (_ = _) := z3
    have BT : Hid (But [qp] w (((w.setCell ⟨qp, 0, none⟩ (.slice none 0 0)).setCell ⟨qp, 2, none⟩ (.int .i64 0)).setCell ⟨qp, 3, none⟩ (.int .i64 0))) := (((But.refl _ w).setCell (by simp) _).setCell (by simp) _).setCell (by simp) _
    clear H hbs hxs z1 z2 z3
    go_enter Try.func25, Try.ntmps25
    go_wp2
    go_end0
    refine ⟨rfl, .inr ⟨qp, .slice none 0 0, 0, 0, [], rfl, by rw [HBS.out]; rfl, ⟨Z3.out, World.ownsRow_nil _ _ _ _, (fun y hy => by cases hy), HH.out.cap1, HH.out.cap2, by omega, by simp, by have := HH.out.cap1; omega, (fun _ => by simp)⟩, rfl⟩, ?_⟩
    rw [HBS.out]
    exact BT.out.mono (by simp)

set_option maxHeartbeats 2000000 in
theorem qPopNo_I {w : World} {p : Option Addr} {bs : List Nat} {cap : Nat} (HQ : QP w 3 1 92 p bs cap []) : Calls Try.prog 30 #[.pointer p] w fun e w' => e = .returned (.tuple #[.int .i64 0, .int .i64 22]) ∧ Below w.heap.size w w' := by
  have H0 := qFirstNo_I HQ
  have HH0 : Hid (Calls Try.prog 50 #[.pointer p] w fun e w' => e = .returned (.tuple #[.int .i64 0, .bool false]) ∧ Below w.heap.size w w') := H0
  clear H0 HQ
  go_enter Try.func30, Try.ntmps30
  go_wp2_with fail
  refine HH0.out.mono ?_
  rintro e w1 ⟨rfl, hb⟩
  have HB1 : Hid (Below w.heap.size w w1) := hb
  clear hb
  go_wp2
  go_ret2
  exact ⟨rfl, HB1.out⟩

set_option maxHeartbeats 2000000 in
theorem qClear_I {w : World} {p : Option Addr} {bs : List Nat} {cap : Nat} {xs : List (List Value)} (HQ : QP w 3 1 92 p bs cap xs) : Calls Try.prog 31 #[.pointer p] w fun e w' => e = .returned (.tuple #[]) ∧ QP w' 3 1 92 p (bs.take 1) cap [] ∧ But bs w w' := by
  rcases HQ with ⟨rfl, rfl, rfl, _⟩ | ⟨qp, sv, head, n, cs, rfl, hbs, H, hxs⟩
  · go_enter Try.func31, Try.ntmps31
    go_wp2
    refine bodyPost_ret (results_none rfl _ _ _) rfl ?_
    exact ⟨rfl, .inl ⟨rfl, rfl, rfl, rfl⟩, But.refl _ _⟩
  · have HBS : Hid (bs = qp :: sv.ownBlock.toList) := hbs
    have HH : Hid (IsQ w 3 1 92 qp sv cap head xs.length n cs) := H
    obtain ⟨c0, c1, c2, c3, cf⟩ := row4q H.str
    have z1 := heap_setCell_same w qp 0 _ _ (.slice none 0 0) H.str
    have z2 := heap_setCell_same _ qp 2 _ _ (.int .i64 0) z1
    have z3 := heap_setCell_same _ qp 3 _ _ (.int .i64 0) z2
    have Z3 : Hid (_ = _) := z3
    have BT : Hid (But [qp] w (((w.setCell ⟨qp, 0, none⟩ (.slice none 0 0)).setCell ⟨qp, 2, none⟩ (.int .i64 0)).setCell ⟨qp, 3, none⟩ (.int .i64 0))) := (((But.refl _ w).setCell (by simp) _).setCell (by simp) _).setCell (by simp) _
    clear H hbs hxs z1 z2 z3
    go_enter Try.func31, Try.ntmps31
    go_wp2
    go_end0
    refine ⟨rfl, .inr ⟨qp, .slice none 0 0, 0, 0, [], rfl, by rw [HBS.out]; rfl, ⟨Z3.out, World.ownsRow_nil _ _ _ _, (fun y hy => by cases hy), HH.out.cap1, HH.out.cap2, by omega, by simp, by have := HH.out.cap1; omega, (fun _ => by simp)⟩, rfl⟩, ?_⟩
    rw [HBS.out]
    exact BT.out.mono (by simp)

end Rg
end Go.Proofs.Ytjhlflochheolaa

/-
  Making a ring; its two pieces; putting, looking, dropping, taking.
-/
set_option linter.unusedVariables false
set_option linter.unusedSimpArgs false
namespace Go.Proofs.Ytjhlflochheolaa
open Go.RowKit
namespace Rg

set_option maxRecDepth 100000 in
theorem run_mkB (W : World) (n : Nat) (hn : n ≤ 140737488355328) : (Instr.makeSlice 25 (.int .i64 (n : Int)) (.int .i64 (n : Int))).run Try.prog W = .ok (.slice (some ⟨W.heap.size, 0, none⟩) n n) (W.alloc (.cells (bv (List.replicate n 0)).toArray 5 (0, 0))) := by
  obtain ⟨i0, hi, hz0, hz1, hz2⟩ := info_parts infoB
  have hr := run_make (P := Try.prog) W 25 5 i0 (.int .u8 0) Try.underlying25 hi hz0 .i64 .i64 (n : Int) (n : Int) (by omega) (Int.le_refl _) (by rw [hz2]; omega) (by omega)
  simp only [Int.toNat_natCast, hz1] at hr
  rw [hr]
  congr 3
  apply Array.toList_inj.1
  show (madeCells #[Value.int .u8 0] (n * 1)).toList = _
  rw [toList_madeCells_one, Nat.mul_one]
  unfold bv
  simp

set_option maxRecDepth 100000 in
theorem New_any (w : World) (c : Nat) (h1 : 1 ≤ c) (h2 : c ≤ 1048576) : Calls Try.prog 33 #[.int .i64 (c : Int)] w fun e w' => e = .returned (.tuple #[.pointer (some ⟨w.heap.size + 1, 0, none⟩), .int .i64 0]) ∧ IsRing w' (w.heap.size + 1) w.heap.size c 0 [] ∧ Below w.heap.size w w' := by
  have hm := run_mkB w c (by omega)
  have g1 : ¬ (c : Int) < 1 := by omega
  have g2 : ¬ (1048576 : Int) < (c : Int) := by omega
  go_enter Try.func33, Try.ntmps33
  go_wp2
  go_ret2
  refine ⟨rfl, ⟨?_, ⟨List.replicate c 0, by simp, ?_, rfl⟩, by omega, by omega, by simp, by omega⟩, ?_⟩
  · exact heap_alloc2_new _ _ _
  · exact heap_alloc2_old _ _ _
  · exact ((Below.refl _ w).alloc (Nat.le_refl _) _).alloc (by simp) _

set_option maxRecDepth 100000 in
theorem New_bad (w : World) (c : Int) (h : ¬ (1 ≤ c ∧ c ≤ 1048576)) : Calls Try.prog 33 #[.int .i64 c] w fun e w' => e = .returned (.tuple #[.pointer none, .int .i64 20]) ∧ Below w.heap.size w w' := by
  by_cases g1 : c < 1
  · go_enter Try.func33, Try.ntmps33
    go_wp2
    go_ret2
    exact ⟨by simp, Below.refl _ _⟩
  · have g2 : (1048576 : Int) < c := by omega
    go_enter Try.func33, Try.ntmps33
    go_wp2
    go_ret2
    exact ⟨by simp, Below.refl _ _⟩

/- The two pieces of n places from a number on. -/
set_option maxRecDepth 100000 in
theorem pieces_any {w : World} {rp sb cap head : Nat} {xs : List UInt8} (hR : IsRing w rp sb cap head xs) (st : List UInt8) (hl : st.length = cap) (hst : w.heap[sb]? = some (.cells (bv st).toArray 5 (0, 0))) (f n s k : Nat) (hf : f ≤ cap) (hn : n ≤ cap) (hs : s = pl cap head f) (hk : k = ahead cap s n) :
    Calls Try.prog 43 #[.pointer (some ⟨rp, 0, none⟩), .int .i64 (f : Int), .int .i64 (n : Int)] w fun e w' => ∃ a1 a2,
      e = .returned (.tuple #[.slice a1 k k, .slice a2 (n - k) (n - k)]) ∧ (0 < k → a1 = some ⟨sb, s, none⟩) ∧ (0 < n - k → a2 = some ⟨sb, 0, none⟩) ∧
      RdB w' (.slice a1 k k) ((st.drop s).take k) ∧ RdB w' (.slice a2 (n - k) (n - k)) (st.take (n - k)) ∧ (∀ g, (Value.slice a1 k k).ownBlock = some g → g = sb) ∧ (∀ g, (Value.slice a2 (n - k) (n - k)).ownBlock = some g → g = sb) ∧ Below w.heap.size w w' := by
  have HR : Hid (IsRing w rp sb cap head xs) := hR
  have h1 := hR.hhead
  have h2 := hR.hcap
  clear hR
  have hp := pl_lt cap head f h1 hf
  rw [← hs] at hp
  have hk1 := ahead_le cap s n hp
  have hk2 := ahead_fit cap s n hp
  have hk3 := ahead_rest cap s n hp hn
  have hk4 : k = min (s + n) cap - s := hk
  rw [← hk] at hk1 hk2 hk3
  have hrd : RdB w (.slice (some ⟨sb, 0, none⟩) cap cap) st := ⟨_, _, by rw [hl], by omega, (fun e => by cases e), .inr ⟨sb, 0, rfl, fun j x hj => by rw [cell_of_row w sb _ _ _ _ hst]; simp [bv, hj]⟩⟩
  have HS : Hid (s = pl cap head f) := hs
  clear hs hk
  go_enter Try.func43, Try.ntmps43
  go_wp2_with fail
  refine (place_any HR.out f hf).mono ?_
  rintro e w1 ⟨rfl, hb1⟩
  rw [← HS.out]
  obtain ⟨a1, r1, p1, b1, e1⟩ := cut_three (hrd.below hb1) s (s + k) (by omega) (by omega)
  obtain ⟨a2, r2, p2, b2, e2⟩ := cut_three (hrd.below hb1) 0 (n - k) (by omega) (by omega)
  obtain ⟨c0, c1, c2, cf⟩ := (HR.out.below hb1).cells
  rw [List.drop_zero] at r2
  simp only [Nat.add_sub_cancel_left, Nat.sub_zero, Nat.add_zero, Nat.zero_add] at r1 r2 p1 p2 b1 b2 e1 e2
  have q1 : Hid (0 < k → a1 = some ⟨sb, s, none⟩) := fun h => by have := p1 sb 0 rfl (by omega); rwa [Nat.zero_add] at this
  have q2 : Hid (0 < n - k → a2 = some ⟨sb, 0, none⟩) := fun h => p2 sb 0 rfl h
  have o1 : Hid (∀ g, (Value.slice a1 k k).ownBlock = some g → g = sb) := fun g hg => by have := b1 g hg; injection this with this; exact this.symm
  have o2 : Hid (∀ g, (Value.slice a2 (n - k) (n - k)).ownBlock = some g → g = sb) := fun g hg => by have := b2 g hg; injection this with this; exact this.symm
  have R1 : Hid (RdB w1 (.slice a1 k k) ((st.drop s).take k)) := r1
  have R2 : Hid (RdB w1 (.slice a2 (n - k) (n - k)) (st.take (n - k))) := r2
  have HB1 : Hid (Below w.heap.size w w1) := hb1
  have HK4 : Hid (k = min (s + n) cap - s) := hk4
  clear p1 p2 b1 b2 r1 r2 hb1 hk4 hrd hst
  replace e2 : ∀ w : World, (Instr.slice 25 (.slice (some ⟨sb, 0, none⟩) cap cap) (some (.int .i64 0)) (some (.int .i64 ((n - k : Nat) : Int))) (some (.int .i64 ((n - k : Nat) : Int)))).run Try.prog w = .ok (.slice a2 (n - k) (n - k)) w := e2
  obtain ⟨J1, hJ1⟩ : ∃ J : Int, J = ((s + k : Nat) : Int) := ⟨_, rfl⟩
  obtain ⟨J2, hJ2⟩ : ∃ J : Int, J = ((n - k : Nat) : Int) := ⟨_, rfl⟩
  rw [← hJ1] at e1
  rw [← hJ2] at e2
  have HJ1 : Hid (J1 = ((s + k : Nat) : Int)) := hJ1
  have HJ2 : Hid (J2 = ((n - k : Nat) : Int)) := hJ2
  clear hJ1 hJ2
  by_cases hc : s + n ≤ cap
  · have x2 : Hid ((n : Int) - ((s : Int) + (n : Int) - (s : Int)) = J2) := (by have := HK4.out; have := HJ2.out; omega : (n : Int) - ((s : Int) + (n : Int) - (s : Int)) = J2)
    have x1 : Hid ((s : Int) + (n : Int) = J1) := (by have := HK4.out; have := HJ1.out; omega : (s : Int) + (n : Int) = J1)
    go_wp2
    rw [x2.out, x1.out]
    go_quiet (fail)
    go_wp2
    go_ret2
    exact ⟨a1, a2, rfl, q1.out, q2.out, R1.out, R2.out, o1.out, o2.out, bel_drewN HB1.out _⟩
  · have x2 : Hid ((n : Int) - ((cap : Int) - (s : Int)) = J2) := (by have := HK4.out; have := HJ2.out; omega : (n : Int) - ((cap : Int) - (s : Int)) = J2)
    have x1 : Hid ((cap : Int) = J1) := (by have := HK4.out; have := HJ1.out; omega : (cap : Int) = J1)
    go_wp2
    rw [x2.out, x1.out]
    go_quiet (fail)
    go_wp2
    go_ret2
    exact ⟨a1, a2, rfl, q1.out, q2.out, R1.out, R2.out, o1.out, o2.out, bel_drewN HB1.out _⟩

/- A row written, a field set: the ring behind it. -/
set_option maxRecDepth 100000 in
theorem IsRing.put {w w1 w2 : World} {rp sb cap head : Nat} {xs : List UInt8} (hR : IsRing w rp sb cap head xs) (st st' ys : List UInt8) (hl : st'.length = cap) (hw : win st' head ys.length = ys) (hy : ys.length ≤ cap)
    (h1 : w1.heap[sb]? = some (.cells (bv st').toArray 5 (0, 0))) (hb : But [sb] w w1) (h2 : w2 = w1.setCell ⟨rp, 2, none⟩ (.int .i64 (ys.length : Int))) :
    IsRing w2 rp sb cap head ys ∧ But [rp, sb] w w2 := by
  subst h2
  have hstr : w1.heap[rp]? = some (.cells #[.slice (some ⟨sb, 0, none⟩) cap cap, .int .i64 (head : Int), .int .i64 (xs.length : Int)] 85 (0, 0)) := hb.heap hR.str (by simp [hR.ne])
  refine ⟨⟨?_, ⟨st', hl, ?_, hw⟩, hR.ne, hR.hhead, hy, hR.hcap⟩, ((hb.mono (by simp)).setCell (by simp) _)⟩
  · rw [heap_setCell_same w1 rp 2 _ _ _ hstr]
    rfl
  · rw [heap_setCell_other w1 _ sb _ (fun e => hR.ne e.symm)]
    exact h1

set_option maxRecDepth 100000 in
set_option maxHeartbeats 1000000 in
theorem Put_any {w : World} {rp sb cap head : Nat} {xs : List UInt8} (hR : IsRing w rp sb cap head xs) (v : Value) (l : List UInt8) (hv : RdB w v l) (hg : ∀ g, v.ownBlock = some g → g ≠ rp ∧ g ≠ sb) (hl63 : l.length ≤ 9223372036854775807) (n : Nat) (hn : n = min l.length (cap - xs.length)) :
    Calls Try.prog 34 #[.pointer (some ⟨rp, 0, none⟩), v] w fun e w' => e = .returned (.int .i64 (n : Int)) ∧ IsRing w' rp sb cap head (xs ++ l.take n) ∧ But [rp, sb] w w' := by
  have HR : Hid (IsRing w rp sb cap head xs) := hR
  have hx := hR.hlen
  have hc := hR.hcap
  have hh := hR.hhead
  obtain ⟨st, hst, hstore, hwin⟩ := hR.store
  have HW : Hid (win st head xs.length = xs) := hwin
  have HST : Hid (w.heap[sb]? = some (.cells (bv st).toArray 5 (0, 0))) := hstore
  have HV : Hid (RdB w v l) := hv
  have HG : Hid (∀ g, v.ownBlock = some g → g ≠ rp ∧ g ≠ sb) := hg
  obtain ⟨a, c, rfl, hlc, _⟩ := hv
  clear hR hwin hstore hg
  have HN : Hid (n = min l.length (cap - xs.length)) := hn
  have hn1 : n ≤ l.length := by omega
  have hn2 : xs.length + n ≤ cap := by omega
  clear hn
  obtain ⟨s, hs⟩ : ∃ s, s = pl cap head xs.length := ⟨_, rfl⟩
  obtain ⟨k, hk⟩ : ∃ k, k = ahead cap s n := ⟨_, rfl⟩
  have hp := pl_lt cap head xs.length hh hx
  rw [← hs] at hp
  have hk1 := ahead_le cap s n hp
  have hk2 := ahead_fit cap s n hp
  rw [← hk] at hk1 hk2
  have HS : Hid (s = pl cap head xs.length) := hs
  have HK : Hid (k = ahead cap s n) := hk
  clear hs hk
  go_enter Try.func34, Try.ntmps34
  go_wp2_with fail
  refine (Free_any HR.out).mono ?_
  rintro e w1 ⟨rfl, hb1⟩
  have HB1 : Hid (Below w.heap.size w w1) := hb1
  clear hb1
  obtain ⟨c0, c1, c2, cf⟩ := (HR.out.below HB1.out).cells
  obtain ⟨fr, hfr⟩ : ∃ fr, fr = cap - xs.length := ⟨_, rfl⟩
  rw [← hfr]
  have HF : Hid (fr = cap - xs.length) := hfr
  have hfr1 : fr ≤ 1048576 := by omega
  clear hfr
  by_cases hle : l.length ≤ fr
  · have hln : Hid (((l.length : Nat) : Int) = (n : Int)) := (by have := HN.out; have := HF.out; omega : ((l.length : Nat) : Int) = (n : Int))
    by_cases hz : n = 0
    · have hz' : (((l.length : Nat) : Int) == 0) = true := by rw [hln.out]; simp [hz]
      go_wp2
      go_ret
      refine ⟨by rw [hz]; rfl, ?_, (But.of_below HB1.out).nil⟩
      rw [hz, List.take_zero, List.append_nil]
      exact HR.out.below HB1.out
    · have hz' : (((l.length : Nat) : Int) == 0) = false := by rw [hln.out]; simp; omega
      go_wp2_with fail
      rw [hln.out]
      refine (pieces_any (HR.out.below HB1.out) st hst (by rw [HB1.out.block sb (HR.out.lt2)]; exact HST.out) xs.length n s k (by omega) (by omega) HS.out HK.out).mono ?_
      rintro e w2 ⟨a1, a2, rfl, q1, q2, R1, R2, o1, o2, hb2⟩
      have HB2 : Hid (Below w.heap.size w w2) := bel_trans HB1.out hb2
      have Q1 : Hid (0 < k → a1 = some ⟨sb, s, none⟩) := q1
      have Q2 : Hid (0 < n - k → a2 = some ⟨sb, 0, none⟩) := q2
      clear q1 q2 R1 R2 o1 o2 hb2
      have HV2 : Hid (RdB w2 (.slice a l.length c) l) := HV.out.below HB2.out
      have HS2 : Hid (w2.heap[sb]? = some (.cells (bv st).toArray 5 (0, 0))) := (by rw [HB2.out.block sb (HR.out.lt2)]; exact HST.out : w2.heap[sb]? = _)
      obtain ⟨a3, r3, _, b3, e3⟩ := cut_from HV.out k (by omega)
      have HV3 : Hid (RdB w (.slice a3 (l.length - k) (c - k)) (l.drop k)) := r3
      have HO3 : Hid (∀ g, (Value.slice a3 (l.length - k) (c - k)).ownBlock = some g → g ∉ [sb]) := fun g hg => by have := HG.out g (b3 g hg); simp; exact this.2
      clear r3 b3
      obtain ⟨w3, run3, hs3, hg3⟩ := run_cp 3 w2 a1 k k _ l HV2.out sb s st 5 HS2.out k (by omega) Q1.out (by rw [hst]; omega)
      have HB3 : Hid (But [sb] w w3) := ((But.of_below HB2.out).nil).grown hg3.out (fun k hk => by cases hk; simp)
      have HV4 : Hid (RdB w3 (.slice a3 (l.length - k) (c - k)) (l.drop k)) := HV3.out.but HB3.out HO3.out
      have l1 : Hid ((splice st s (l.take k)).length = cap) := (by rw [length_splice _ _ _ (by rw [List.length_take, hst]; omega), hst] : (splice st s (l.take k)).length = cap)
      obtain ⟨w4, run4, hs4, hg4⟩ := run_cp 3 w3 a2 (n - k) (n - k) _ (l.drop k) HV4.out sb 0 (splice st s (l.take k)) 5 hs3.out (n - k) (by rw [List.length_drop]; omega) Q2.out (by rw [l1.out]; omega)
      have HB4 : Hid (But [sb] w w4) := HB3.out.grown hg4.out (fun k hk => by cases hk; simp)
      have hstr : Hid (w4.heap[rp]? = some (.cells #[.slice (some ⟨sb, 0, none⟩) cap cap, .int .i64 (head : Int), .int .i64 (xs.length : Int)] 85 (0, 0))) := HB4.out.heap HR.out.str (by simp [HR.out.ne])
      have d2 : w4.cell? ⟨rp, 2, none⟩ = some (.int .i64 (xs.length : Int)) := by rw [cell_of_row w4 rp _ _ _ _ hstr.out]; rfl
      have d3 : w4.frozen? ⟨rp, 2, none⟩ = false := frozen_of_row w4 rp 2 _ _ hstr.out
      go_wp2
      go_ret
      have e1 : (l.take k).length = k := by rw [List.length_take]; omega
      have e2 : ((l.drop k).take (n - k)).length = n - k := by rw [List.length_take, List.length_drop]; omega
      have e4 : l.take n = l.take k ++ (l.drop k).take (n - k) := by rw [← List.take_add, show k + (n - k) = n by omega]
      have e5 : (xs ++ l.take n).length = xs.length + n := by rw [List.length_append, List.length_take]; omega
      have hw := win_put st head xs.length (l.take k) ((l.drop k).take (n - k)) (by omega) (by rw [e1, e2]; omega) (by rw [e1, e2, hst, ← HS.out, show k + (n - k) = n by omega]; exact HK.out)
      rw [e1, e2, hst, ← HS.out, show k + (n - k) = n by omega, HW.out, ← e4, ← e5] at hw
      have := IsRing.put (w2 := w4.setCell ⟨rp, 2, none⟩ (.int .i64 ((xs.length : Int) + (n : Int)))) HR.out st _ (xs ++ l.take n) (by rw [length_splice _ _ _ (by rw [l1.out, e2]; omega), l1.out]) hw (by rw [e5]; omega) hs4.out HB4.out (by rw [e5]; simp)
      exact ⟨by go_num, this.1, this.2⟩
  · have hln : Hid (((fr : Nat) : Int) = (n : Int)) := (by have := HN.out; have := HF.out; omega : ((fr : Nat) : Int) = (n : Int))
    by_cases hz : n = 0
    · have hz' : (((fr : Nat) : Int) == 0) = true := by rw [hln.out]; simp [hz]
      go_wp2
      go_ret
      refine ⟨by rw [hz]; rfl, ?_, (But.of_below HB1.out).nil⟩
      rw [hz, List.take_zero, List.append_nil]
      exact HR.out.below HB1.out
    · have hz' : (((fr : Nat) : Int) == 0) = false := by rw [hln.out]; simp; omega
      go_wp2_with fail
      rw [hln.out]
      refine (pieces_any (HR.out.below HB1.out) st hst (by rw [HB1.out.block sb (HR.out.lt2)]; exact HST.out) xs.length n s k (by omega) (by omega) HS.out HK.out).mono ?_
      rintro e w2 ⟨a1, a2, rfl, q1, q2, R1, R2, o1, o2, hb2⟩
      have HB2 : Hid (Below w.heap.size w w2) := bel_trans HB1.out hb2
      have Q1 : Hid (0 < k → a1 = some ⟨sb, s, none⟩) := q1
      have Q2 : Hid (0 < n - k → a2 = some ⟨sb, 0, none⟩) := q2
      clear q1 q2 R1 R2 o1 o2 hb2
      have HV2 : Hid (RdB w2 (.slice a l.length c) l) := HV.out.below HB2.out
      have HS2 : Hid (w2.heap[sb]? = some (.cells (bv st).toArray 5 (0, 0))) := (by rw [HB2.out.block sb (HR.out.lt2)]; exact HST.out : w2.heap[sb]? = _)
      obtain ⟨a3, r3, _, b3, e3⟩ := cut_from HV.out k (by omega)
      have HV3 : Hid (RdB w (.slice a3 (l.length - k) (c - k)) (l.drop k)) := r3
      have HO3 : Hid (∀ g, (Value.slice a3 (l.length - k) (c - k)).ownBlock = some g → g ∉ [sb]) := fun g hg => by have := HG.out g (b3 g hg); simp; exact this.2
      clear r3 b3
      obtain ⟨w3, run3, hs3, hg3⟩ := run_cp 3 w2 a1 k k _ l HV2.out sb s st 5 HS2.out k (by omega) Q1.out (by rw [hst]; omega)
      have HB3 : Hid (But [sb] w w3) := ((But.of_below HB2.out).nil).grown hg3.out (fun k hk => by cases hk; simp)
      have HV4 : Hid (RdB w3 (.slice a3 (l.length - k) (c - k)) (l.drop k)) := HV3.out.but HB3.out HO3.out
      have l1 : Hid ((splice st s (l.take k)).length = cap) := (by rw [length_splice _ _ _ (by rw [List.length_take, hst]; omega), hst] : (splice st s (l.take k)).length = cap)
      obtain ⟨w4, run4, hs4, hg4⟩ := run_cp 3 w3 a2 (n - k) (n - k) _ (l.drop k) HV4.out sb 0 (splice st s (l.take k)) 5 hs3.out (n - k) (by rw [List.length_drop]; omega) Q2.out (by rw [l1.out]; omega)
      have HB4 : Hid (But [sb] w w4) := HB3.out.grown hg4.out (fun k hk => by cases hk; simp)
      have hstr : Hid (w4.heap[rp]? = some (.cells #[.slice (some ⟨sb, 0, none⟩) cap cap, .int .i64 (head : Int), .int .i64 (xs.length : Int)] 85 (0, 0))) := HB4.out.heap HR.out.str (by simp [HR.out.ne])
      have d2 : w4.cell? ⟨rp, 2, none⟩ = some (.int .i64 (xs.length : Int)) := by rw [cell_of_row w4 rp _ _ _ _ hstr.out]; rfl
      have d3 : w4.frozen? ⟨rp, 2, none⟩ = false := frozen_of_row w4 rp 2 _ _ hstr.out
      go_wp2
      go_ret
      have e1 : (l.take k).length = k := by rw [List.length_take]; omega
      have e2 : ((l.drop k).take (n - k)).length = n - k := by rw [List.length_take, List.length_drop]; omega
      have e4 : l.take n = l.take k ++ (l.drop k).take (n - k) := by rw [← List.take_add, show k + (n - k) = n by omega]
      have e5 : (xs ++ l.take n).length = xs.length + n := by rw [List.length_append, List.length_take]; omega
      have hw := win_put st head xs.length (l.take k) ((l.drop k).take (n - k)) (by omega) (by rw [e1, e2]; omega) (by rw [e1, e2, hst, ← HS.out, show k + (n - k) = n by omega]; exact HK.out)
      rw [e1, e2, hst, ← HS.out, show k + (n - k) = n by omega, HW.out, ← e4, ← e5] at hw
      have := IsRing.put (w2 := w4.setCell ⟨rp, 2, none⟩ (.int .i64 ((xs.length : Int) + (n : Int)))) HR.out st _ (xs ++ l.take n) (by rw [length_splice _ _ _ (by rw [l1.out, e2]; omega), l1.out]) hw (by rw [e5]; omega) hs4.out HB4.out (by rw [e5]; simp)
      exact ⟨by go_num, this.1, this.2⟩

end Rg
end Go.Proofs.Ytjhlflochheolaa
