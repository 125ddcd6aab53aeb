/-
  The queue's Pop.
-/
import Derived.Test.YtiecfidkoficnaaQAt
import Derived.BigRegion
set_option maxRecDepth 100000
set_option linter.unusedVariables false
set_option linter.unusedSimpArgs false
namespace Go.Proofs.Ytiecfidkoficnaa
open Go.RowKit
namespace Rg

/-- Behind a pop the others wait. -/
theorem wait_pop {cap head c : Nat} {cs : List Value} {z : Value} (hh : head < cap) (hc : c + 1 ≤ cap) : (wait cap head (c + 1) 1 cs).tail = wait cap (pl cap head 1) c 1 (cs.set head z) := by
  unfold wait
  rw [List.range_succ_eq_map, List.map_cons, List.tail_cons, List.map_map]
  refine List.map_congr_left fun i hi => ?_
  have hi' := List.mem_range.1 hi
  have e : pl cap (pl cap head 1) i = pl cap head (i + 1) := by rw [pl_pl cap head 1 i hh (by omega), Nat.add_comm]
  have hne : pl cap head (i + 1) ≠ head := by
    unfold pl
    split <;> omega
  simp only [Function.comp, e, Nat.mul_one, Nat.succ_eq_add_one]
  rw [List.drop_set]
  split
  · rfl
  · rename_i h
    obtain ⟨k, hk⟩ : ∃ k, head - pl cap head (i + 1) = k + 1 := ⟨head - pl cap head (i + 1) - 1, by omega⟩
    rw [hk]
    cases cs.drop (pl cap head (i + 1)) with
    | nil => rfl
    | cons a l => simp [List.set]

set_option maxHeartbeats 2000000 in
theorem qPop_S {w : World} {p : Option Addr} {bs : List Nat} {cap : Nat} {rest : List (List Value)} (x : ByteArray) (HQ : QP w 9 1 97 p bs cap ([.string x] :: rest)) : Calls Try.prog 21 #[.pointer p] w fun e w' => e = .returned (.tuple #[.string x, .int .i64 0]) ∧ QP w' 9 1 97 p bs cap rest ∧ But bs w w' := by
  have H0 := qFirst_S HQ x rfl
  have HH0 : Hid (Calls Try.prog 22 #[.pointer p] w fun e w' => e = .returned (.tuple #[.string x, .bool true]) ∧ Below w.heap.size w w') := H0
  clear H0
  rcases HQ with ⟨rfl, _, _, e⟩ | ⟨qp, sv, head, n, cs, rfl, hbs, H, hxs⟩
  · cases e
  have HBS : Hid (bs = qp :: sv.ownBlock.toList) := hbs
  have HXS : Hid ([.string x] :: rest = wait cap head (rest.length + 1) 1 cs) := hxs
  have HN0 : 0 < n := by have := H.hc; simp at this; omega
  obtain ⟨g, c, rfl⟩ : ∃ g c, sv = .slice (some ⟨g, 0, none⟩) n c := by
    rcases H.own.2 with ⟨_, e⟩ | ⟨g, c, _, e, _⟩
    · omega
    · exact ⟨g, c, e⟩
  have hmn : n ≤ c := by
    rcases H.own.2 with ⟨e, _⟩ | ⟨g', c', _, e, _, _, h, _⟩
    · cases e
    · injection e with _ _ e3
      omega
  have hp : head < n := by
    have := H.pl_lt (i := 0) (by simp)
    have h3 := H.hh
    unfold pl at this
    split at this <;> omega
  have HH : Hid (IsQ w 9 1 97 qp (.slice (some ⟨g, 0, none⟩) n c) cap head (rest.length + 1) n cs) := H
  have hcap := H.cap2
  have hn := H.hn
  have hle : rest.length + 1 ≤ n := H.hc
  have hgq : g ≠ qp := H.sep g rfl
  clear H hxs hbs
  have hp' : ((head : Nat) : Int) < ((n : Nat) : Int) := by omega
  go_enter Try.func21, Try.ntmps21
  go_wp2_with fail
  refine HH0.out.mono ?_
  rintro e w1 ⟨rfl, hb⟩
  have HB1 : Hid (Below w.heap.size w w1) := hb
  have H1 : Hid (IsQ w1 9 1 97 qp (.slice (some ⟨g, 0, none⟩) n c) cap head (rest.length + 1) n cs) := HH.out.below hb
  clear hb
  obtain ⟨c0, c1, c2, c3, cf⟩ := row4q H1.out.str
  have f0 := H1.out.own.frozenAt head
  obtain ⟨u, hu⟩ : ∃ u, w1.cell? ⟨g, head, none⟩ = some u := by
    rw [H1.out.own.cellAt head (by omega)]
    exact ⟨_, List.getElem?_eq_getElem (by have := H1.out.own.1; omega)⟩
  obtain ⟨w2, hw2⟩ : ∃ w2, w2 = (w1.setCell ⟨g, head, none⟩ (.string ⟨#[]⟩)).drew := ⟨_, rfl⟩
  have B2 : Hid (But [g] w1 w2) := (by rw [hw2]; exact ((But.refl _ w1).setCell (by simp) _).drew : But [g] w1 w2)
  have H2 : Hid (IsQ w2 9 1 97 qp (.slice (some ⟨g, 0, none⟩) n c) cap head (rest.length + 1) n (cs.set head (.string ⟨#[]⟩))) := ⟨B2.out.heap H1.out.str (by simpa using fun e => hgq e.symm), (by rw [hw2]; exact (H1.out.own.stored head _).1), H1.out.sep, H1.out.cap1, H1.out.cap2, H1.out.hn, H1.out.hc, H1.out.hh, H1.out.grow⟩
  go_wp2_with fail
  go_region
  all_goals
    go_wp2_with fail
    rw [← hw2]
    clear hw2 c0 c1 c2 c3 cf f0 hu
    refine (qPlace_S H2.out 1 (by omega)).mono ?_
    rintro e w3 ⟨rfl, hb3⟩
    have H3 : Hid (IsQ w3 9 1 97 qp (.slice (some ⟨g, 0, none⟩) n c) cap head (rest.length + 1) n (cs.set head (.string ⟨#[]⟩))) := H2.out.below hb3
    have B3 : Hid (But [g] w w3) := ((But.of_below HB1.out).nil.trans B2.out).trans (But.of_below hb3).nil
    clear hb3
    obtain ⟨h5, hh5⟩ : ∃ h5, h5 = pl cap head 1 := ⟨_, rfl⟩
    rw [← hh5]
    have HH5 : Hid (h5 = pl cap head 1) := hh5
    clear hh5
    obtain ⟨c0, c1, c2, c3, cf⟩ := row4q H3.out.str
    have z1 := heap_setCell_same w3 qp 2 _ _ (.int .i64 (h5 : Int)) H3.out.str
    have z2 := heap_setCell_same _ qp 3 _ _ (.int .i64 (rest.length : Int)) z1
    have Z2 : Hid (_ = _) := z2
    have BT : Hid (But [qp] w3 ((w3.setCell ⟨qp, 2, none⟩ (.int .i64 (h5 : Int))).setCell ⟨qp, 3, none⟩ (.int .i64 (rest.length : Int)))) := ((But.refl _ w3).setCell (by simp) _).setCell (by simp) _
    clear z1 z2
    go_wp2
    go_ret2
    have k1 := H3.out.hh
    have k2 := H3.out.cap1
    have k3 := H3.out.grow
    have hr : rest = wait cap h5 rest.length 1 (cs.set head (.string ⟨#[]⟩)) := by
      have := congrArg List.tail HXS.out
      rw [wait_pop (z := .string ⟨#[]⟩) k1 (by omega)] at this
      rw [HH5.out]
      exact this
    refine ⟨rfl, .inr ⟨qp, .slice (some ⟨g, 0, none⟩) n c, h5, n, cs.set head (.string ⟨#[]⟩), rfl, HBS.out, ⟨Z2.out, BT.out.owns H3.out.own (fun y hy => by have := H3.out.sep y hy; simpa using this), H3.out.sep, k2, H3.out.cap2, H3.out.hn, by omega, ?_, ?_⟩, hr⟩, ?_⟩
    · rw [HH5.out]
      exact pl_lt cap head 1 k1 k2
    · intro hlt
      have := k3 hlt
      rw [HH5.out]
      unfold pl
      split <;> omega
    · rw [HBS.out]
      exact (B3.out.mono (by simp [Value.ownBlock])).trans (BT.out.mono (by simp))

set_option maxHeartbeats 2000000 in
theorem qPop_I {w : World} {p : Option Addr} {bs : List Nat} {cap : Nat} {rest : List (List Value)} (x : Int) (HQ : QP w 3 1 106 p bs cap ([.int .i64 x] :: rest)) : Calls Try.prog 35 #[.pointer p] w fun e w' => e = .returned (.tuple #[.int .i64 x, .int .i64 0]) ∧ QP w' 3 1 106 p bs cap rest ∧ But bs w w' := by
  have H0 := qFirst_I HQ x rfl
  have HH0 : Hid (Calls Try.prog 58 #[.pointer p] w fun e w' => e = .returned (.tuple #[.int .i64 x, .bool true]) ∧ Below w.heap.size w w') := H0
  clear H0
  rcases HQ with ⟨rfl, _, _, e⟩ | ⟨qp, sv, head, n, cs, rfl, hbs, H, hxs⟩
  · cases e
  have HBS : Hid (bs = qp :: sv.ownBlock.toList) := hbs
  have HXS : Hid ([.int .i64 x] :: rest = wait cap head (rest.length + 1) 1 cs) := hxs
  have HN0 : 0 < n := by have := H.hc; simp at this; omega
  obtain ⟨g, c, rfl⟩ : ∃ g c, sv = .slice (some ⟨g, 0, none⟩) n c := by
    rcases H.own.2 with ⟨_, e⟩ | ⟨g, c, _, e, _⟩
    · omega
    · exact ⟨g, c, e⟩
  have hmn : n ≤ c := by
    rcases H.own.2 with ⟨e, _⟩ | ⟨g', c', _, e, _, _, h, _⟩
    · cases e
    · injection e with _ _ e3
      omega
  have hp : head < n := by
    have := H.pl_lt (i := 0) (by simp)
    have h3 := H.hh
    unfold pl at this
    split at this <;> omega
  have HH : Hid (IsQ w 3 1 106 qp (.slice (some ⟨g, 0, none⟩) n c) cap head (rest.length + 1) n cs) := H
  have hcap := H.cap2
  have hn := H.hn
  have hle : rest.length + 1 ≤ n := H.hc
  have hgq : g ≠ qp := H.sep g rfl
  clear H hxs hbs
  have hp' : ((head : Nat) : Int) < ((n : Nat) : Int) := by omega
  go_enter Try.func35, Try.ntmps35
  go_wp2_with fail
  refine HH0.out.mono ?_
  rintro e w1 ⟨rfl, hb⟩
  have HB1 : Hid (Below w.heap.size w w1) := hb
  have H1 : Hid (IsQ w1 3 1 106 qp (.slice (some ⟨g, 0, none⟩) n c) cap head (rest.length + 1) n cs) := HH.out.below hb
  clear hb
  obtain ⟨c0, c1, c2, c3, cf⟩ := row4q H1.out.str
  have f0 := H1.out.own.frozenAt head
  obtain ⟨u, hu⟩ : ∃ u, w1.cell? ⟨g, head, none⟩ = some u := by
    rw [H1.out.own.cellAt head (by omega)]
    exact ⟨_, List.getElem?_eq_getElem (by have := H1.out.own.1; omega)⟩
  obtain ⟨w2, hw2⟩ : ∃ w2, w2 = (w1.setCell ⟨g, head, none⟩ (.int .i64 0)).drew := ⟨_, rfl⟩
  have B2 : Hid (But [g] w1 w2) := (by rw [hw2]; exact ((But.refl _ w1).setCell (by simp) _).drew : But [g] w1 w2)
  have H2 : Hid (IsQ w2 3 1 106 qp (.slice (some ⟨g, 0, none⟩) n c) cap head (rest.length + 1) n (cs.set head (.int .i64 0))) := ⟨B2.out.heap H1.out.str (by simpa using fun e => hgq e.symm), (by rw [hw2]; exact (H1.out.own.stored head _).1), H1.out.sep, H1.out.cap1, H1.out.cap2, H1.out.hn, H1.out.hc, H1.out.hh, H1.out.grow⟩
  go_wp2_with fail
  go_region
  all_goals
    go_wp2_with fail
    rw [← hw2]
    clear hw2 c0 c1 c2 c3 cf f0 hu
    refine (qPlace_I H2.out 1 (by omega)).mono ?_
    rintro e w3 ⟨rfl, hb3⟩
    have H3 : Hid (IsQ w3 3 1 106 qp (.slice (some ⟨g, 0, none⟩) n c) cap head (rest.length + 1) n (cs.set head (.int .i64 0))) := H2.out.below hb3
    have B3 : Hid (But [g] w w3) := ((But.of_below HB1.out).nil.trans B2.out).trans (But.of_below hb3).nil
    clear hb3
    obtain ⟨h5, hh5⟩ : ∃ h5, h5 = pl cap head 1 := ⟨_, rfl⟩
    rw [← hh5]
    have HH5 : Hid (h5 = pl cap head 1) := hh5
    clear hh5
    obtain ⟨c0, c1, c2, c3, cf⟩ := row4q H3.out.str
    have z1 := heap_setCell_same w3 qp 2 _ _ (.int .i64 (h5 : Int)) H3.out.str
    have z2 := heap_setCell_same _ qp 3 _ _ (.int .i64 (rest.length : Int)) z1
    have Z2 : Hid (_ = _) := z2
    have BT : Hid (But [qp] w3 ((w3.setCell ⟨qp, 2, none⟩ (.int .i64 (h5 : Int))).setCell ⟨qp, 3, none⟩ (.int .i64 (rest.length : Int)))) := ((But.refl _ w3).setCell (by simp) _).setCell (by simp) _
    clear z1 z2
    go_wp2
    go_ret2
    have k1 := H3.out.hh
    have k2 := H3.out.cap1
    have k3 := H3.out.grow
    have hr : rest = wait cap h5 rest.length 1 (cs.set head (.int .i64 0)) := by
      have := congrArg List.tail HXS.out
      rw [wait_pop (z := .int .i64 0) k1 (by omega)] at this
      rw [HH5.out]
      exact this
    refine ⟨rfl, .inr ⟨qp, .slice (some ⟨g, 0, none⟩) n c, h5, n, cs.set head (.int .i64 0), rfl, HBS.out, ⟨Z2.out, BT.out.owns H3.out.own (fun y hy => by have := H3.out.sep y hy; simpa using this), H3.out.sep, k2, H3.out.cap2, H3.out.hn, by omega, ?_, ?_⟩, hr⟩, ?_⟩
    · rw [HH5.out]
      exact pl_lt cap head 1 k1 k2
    · intro hlt
      have := k3 hlt
      rw [HH5.out]
      unfold pl
      split <;> omega
    · rw [HBS.out]
      exact (B3.out.mono (by simp [Value.ownBlock])).trans (BT.out.mono (by simp))

set_option maxHeartbeats 2000000 in
theorem qPopNo_S {w : World} {p : Option Addr} {bs : List Nat} {cap : Nat} (HQ : QP w 9 1 97 p bs cap []) : Calls Try.prog 21 #[.pointer p] w fun e w' => e = .returned (.tuple #[.string ⟨#[]⟩, .int .i64 22]) ∧ Below w.heap.size w w' := by
  have H0 := qFirstNo_S HQ
  have HH0 : Hid (Calls Try.prog 22 #[.pointer p] w fun e w' => e = .returned (.tuple #[.string ⟨#[]⟩, .bool false]) ∧ Below w.heap.size w w') := H0
  clear H0 HQ
  go_enter Try.func21, Try.ntmps21
  go_wp2_with fail
  refine HH0.out.mono ?_
  rintro e w1 ⟨rfl, hb⟩
  have HB1 : Hid (Below w.heap.size w w1) := hb
  clear hb
  go_wp2
  go_ret2
  exact ⟨rfl, HB1.out⟩

set_option maxHeartbeats 2000000 in
theorem qClear_S {w : World} {p : Option Addr} {bs : List Nat} {cap : Nat} {xs : List (List Value)} (HQ : QP w 9 1 97 p bs cap xs) : Calls Try.prog 26 #[.pointer p] w fun e w' => e = .returned (.tuple #[]) ∧ QP w' 9 1 97 p (bs.take 1) cap [] ∧ But bs w w' := by
  rcases HQ with ⟨rfl, rfl, rfl, _⟩ | ⟨qp, sv, head, n, cs, rfl, hbs, H, hxs⟩
  · go_enter Try.func26, Try.ntmps26
    go_wp2
    refine bodyPost_ret (results_none rfl _ _ _) rfl ?_
    exact ⟨rfl, .inl ⟨rfl, rfl, rfl, rfl⟩, But.refl _ _⟩
  · have HBS : Hid (bs = qp :: sv.ownBlock.toList) := hbs
    have HH : Hid (IsQ w 9 1 97 qp sv cap head xs.length n cs) := H
    obtain ⟨c0, c1, c2, c3, cf⟩ := row4q H.str
    have z1 := heap_setCell_same w qp 0 _ _ (.slice none 0 0) H.str
    have z2 := heap_setCell_same _ qp 2 _ _ (.int .i64 0) z1
    have z3 := heap_setCell_same _ qp 3 _ _ (.int .i64 0) z2
    have Z3 : Hid (_ = _) := z3
    have BT : Hid (But [qp] w (((w.setCell ⟨qp, 0, none⟩ (.slice none 0 0)).setCell ⟨qp, 2, none⟩ (.int .i64 0)).setCell ⟨qp, 3, none⟩ (.int .i64 0))) := (((But.refl _ w).setCell (by simp) _).setCell (by simp) _).setCell (by simp) _
    clear H hbs hxs z1 z2 z3
    go_enter Try.func26, Try.ntmps26
    go_wp2
    go_end0
    refine ⟨rfl, .inr ⟨qp, .slice none 0 0, 0, 0, [], rfl, by rw [HBS.out]; rfl, ⟨Z3.out, World.ownsRow_nil _ _ _ _, (fun y hy => by cases hy), HH.out.cap1, HH.out.cap2, by omega, by simp, by have := HH.out.cap1; omega, (fun _ => by simp)⟩, rfl⟩, ?_⟩
    rw [HBS.out]
    exact BT.out.mono (by simp)

set_option maxHeartbeats 2000000 in
theorem qPopNo_I {w : World} {p : Option Addr} {bs : List Nat} {cap : Nat} (HQ : QP w 3 1 106 p bs cap []) : Calls Try.prog 35 #[.pointer p] w fun e w' => e = .returned (.tuple #[.int .i64 0, .int .i64 22]) ∧ Below w.heap.size w w' := by
  have H0 := qFirstNo_I HQ
  have HH0 : Hid (Calls Try.prog 58 #[.pointer p] w fun e w' => e = .returned (.tuple #[.int .i64 0, .bool false]) ∧ Below w.heap.size w w') := H0
  clear H0 HQ
  go_enter Try.func35, Try.ntmps35
  go_wp2_with fail
  refine HH0.out.mono ?_
  rintro e w1 ⟨rfl, hb⟩
  have HB1 : Hid (Below w.heap.size w w1) := hb
  clear hb
  go_wp2
  go_ret2
  exact ⟨rfl, HB1.out⟩

set_option maxHeartbeats 2000000 in
theorem qClear_I {w : World} {p : Option Addr} {bs : List Nat} {cap : Nat} {xs : List (List Value)} (HQ : QP w 3 1 106 p bs cap xs) : Calls Try.prog 36 #[.pointer p] w fun e w' => e = .returned (.tuple #[]) ∧ QP w' 3 1 106 p (bs.take 1) cap [] ∧ But bs w w' := by
  rcases HQ with ⟨rfl, rfl, rfl, _⟩ | ⟨qp, sv, head, n, cs, rfl, hbs, H, hxs⟩
  · go_enter Try.func36, Try.ntmps36
    go_wp2
    refine bodyPost_ret (results_none rfl _ _ _) rfl ?_
    exact ⟨rfl, .inl ⟨rfl, rfl, rfl, rfl⟩, But.refl _ _⟩
  · have HBS : Hid (bs = qp :: sv.ownBlock.toList) := hbs
    have HH : Hid (IsQ w 3 1 106 qp sv cap head xs.length n cs) := H
    obtain ⟨c0, c1, c2, c3, cf⟩ := row4q H.str
    have z1 := heap_setCell_same w qp 0 _ _ (.slice none 0 0) H.str
    have z2 := heap_setCell_same _ qp 2 _ _ (.int .i64 0) z1
    have z3 := heap_setCell_same _ qp 3 _ _ (.int .i64 0) z2
    have Z3 : Hid (_ = _) := z3
    have BT : Hid (But [qp] w (((w.setCell ⟨qp, 0, none⟩ (.slice none 0 0)).setCell ⟨qp, 2, none⟩ (.int .i64 0)).setCell ⟨qp, 3, none⟩ (.int .i64 0))) := (((But.refl _ w).setCell (by simp) _).setCell (by simp) _).setCell (by simp) _
    clear H hbs hxs z1 z2 z3
    go_enter Try.func36, Try.ntmps36
    go_wp2
    go_end0
    refine ⟨rfl, .inr ⟨qp, .slice none 0 0, 0, 0, [], rfl, by rw [HBS.out]; rfl, ⟨Z3.out, World.ownsRow_nil _ _ _ _, (fun y hy => by cases hy), HH.out.cap1, HH.out.cap2, by omega, by simp, by have := HH.out.cap1; omega, (fun _ => by simp)⟩, rfl⟩, ?_⟩
    rw [HBS.out]
    exact BT.out.mono (by simp)

end Rg
end Go.Proofs.Ytiecfidkoficnaa
