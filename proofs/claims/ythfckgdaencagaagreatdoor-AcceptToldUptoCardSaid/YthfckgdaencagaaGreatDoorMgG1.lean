/- Several texts as one. -/
import Derived.Test.YthfckgdaencagaaGreatDoorARp
import Derived.Test.YthfckgdaencagaaGreatDoorARm
import Derived.Test.YthfckgdaencagaaGreatDoorMgY
import Derived.Test.YthfckgdaencagaaGreatDoorMgE1
import Derived.Test.YthfckgdaencagaaGreatDoorMgF1
import Derived.Test.YthfckgdaencagaaGreatDoorMgL
/-
  The document's Parse.
-/
set_option linter.unusedVariables false
set_option linter.unusedSimpArgs false
namespace Go.Proofs.YthfckgdaencagaaGreatDoor
open Go.RowKit Go.Shelf
namespace Ac
open Oc Tg

set_option maxRecDepth 100000 in
set_option maxHeartbeats 2000000 in
theorem rParse07_any (s : ByteArray) (hs : s.size ≤ 134217728) (w : World) (hw : Env w) :
    Calls Tryz.prog 8 #[.string s] w fun e w' => ∃ v, e = .returned (.tuple #[.agg #[.string (str (mdT (parM s.data.toList))), .string (str (mdS (parM s.data.toList))), v], .int .i64 (parE (parM s.data.toList))]) ∧ OwnP 84 w.heap.size v (mdP (parM s.data.toList)) w' ∧ Below w.heap.size w w' := by
  obtain ⟨w2, hw2⟩ : ∃ w2, w2 = w.alloc (.cells #[.string ⟨#[]⟩, .string ⟨#[]⟩, .slice none 0 0] 40) := ⟨_, rfl⟩
  have HR1 : Hid (w2.heap[w.heap.size]? = some (.cells #[.string ⟨#[]⟩, .string ⟨#[]⟩, .slice none 0 0] 40 (0, 0))) := by
    show _ = _; rw [hw2]; exact heap_alloc_new w _
  have hb2 : Below w.heap.size w w2 := by rw [hw2]; exact (Below.refl _ w).alloc (Nat.le_refl _) _
  have hz2 : w.heap.size < w2.heap.size := by rw [hw2]; simp
  have HB2 : Hid (Below w.heap.size w w2) := hb2
  have HE : Hid (Env w2) := hw.below hb2
  clear hb2 hw
  have HT : Hid (∀ w, Calls Tryz.prog 21 #[.string s] w fun e w' => e = .returned (.string (str (trim s.data.toList))) ∧ Below w.heap.size w w') := fun w => (rTrim_any s (by unfold maxLen; omega) w).mono fun e w' ⟨h1, h2⟩ => ⟨h1, by rw [h2]; exact Below.refl _ _⟩
  have htl := trim_len s.data.toList
  rw [size_list] at htl
  have HM : Hid (∀ w, Env w → Calls Tryz.prog 14 #[.string (str (trim s.data.toList))] w fun e w' => ∃ v, e = .returned (.tuple #[.agg #[.string (str (mdT (med (trim s.data.toList)))), .string (str (mdS (med (trim s.data.toList)))), v], .bool (med (trim s.data.toList)).isSome]) ∧ OwnP 84 w.heap.size v (mdP (med (trim s.data.toList))) w' ∧ Below w.heap.size w w') := fun w h => by
    have := rparts_any (str (trim s.data.toList)) (by rw [str_size]; omega) w
    rw [str_list, ← med_eq] at this
    exact this
  obtain ⟨e1, e2, _, _⟩ := med_bd (trim s.data.toList)
  have HP : Hid (∀ v w, RdP v (mdP (med (trim s.data.toList))) w → Calls Tryz.prog 16 #[v] w fun e w' => e = .returned (.bool (!(mdP (med (trim s.data.toList))).any noVal)) ∧ Below w.heap.size w w') := fun v w h => (valued_any v _ w h (by omega)).mono fun e w' ⟨h1, h2⟩ => ⟨h1, by rw [h2]; exact Below.refl _ _⟩
  have HN : Hid ((med (trim s.data.toList)).isSome = false → parM s.data.toList = none) := parM_none _
  have HV : Hid ((mdP (med (trim s.data.toList))).any noVal = true → parM s.data.toList = none) := parM_val _
  have HS : Hid ((med (trim s.data.toList)).isSome = true ∧ (mdP (med (trim s.data.toList))).any noVal = false → parM s.data.toList = med (trim s.data.toList) ∧ parE (parM s.data.toList) = 0) := parM_same _
  clear e1 e2 htl
  generalize parM s.data.toList = PM at *
  generalize med (trim s.data.toList) = MD at *
  generalize MD.isSome = mb at *
  generalize (mdP MD).any noVal = nv at *
  generalize str (trim s.data.toList) = TS at *
  go_enter Tryz.func8, Tryz.ntmps8
  go_wp2_with fail
  rw [← hw2]
  refine (HT.out _).mono ?_
  rintro e w3 ⟨rfl, hb3⟩
  have HB3 : Hid (Below w2.heap.size w2 w3) := hb3
  clear hb3 HT hw2
  go_wp2_with fail
  refine (HM.out _ (HE.out.below HB3.out)).mono ?_
  rintro e w4 ⟨v, rfl, ho, hb4⟩
  have HB4 : Hid (Below w2.heap.size w2 w4) := bel_trans HB3.out hb4
  have HO4 : Hid (OwnP 84 w2.heap.size v (mdP MD) w4) := OwnP.mono ho HB3.out.size
  clear hb4 ho HM HB3
  obtain ⟨va, vc, rfl, _⟩ := OwnP.rd HO4.out
  obtain ⟨w5, hw5⟩ : ∃ w5, w5 = w4.alloc (.cells #[.string (str (mdT MD)), .string (str (mdS MD)), .slice va (mdP MD).length vc] 40) := ⟨_, rfl⟩
  have HR5 : Hid (w5.heap[w4.heap.size]? = some (.cells #[.string (str (mdT MD)), .string (str (mdS MD)), .slice va (mdP MD).length vc] 40 (0, 0))) := by
    show _ = _; rw [hw5]; exact heap_alloc_new w4 _
  have hb5 : Below w4.heap.size w4 w5 := by rw [hw5]; exact (Below.refl _ w4).alloc (Nat.le_refl _) _
  have HB5 : Hid (Below w2.heap.size w2 w5) := bel_trans HB4.out hb5
  have HO5 : Hid (OwnP 84 w2.heap.size (.slice va (mdP MD).length vc) (mdP MD) w5) := HO4.out.below hb5
  have hz5 : w4.heap.size < w5.heap.size := by rw [hw5]; simp
  have hz4 := HB4.out.size
  clear hb5 HO4
  have R1 := (HB5.out.block _ hz2).trans HR1.out
  have c0 := Lib.cell_of_heap R1 0
  have c1 := Lib.cell_of_heap R1 1
  have c2 := Lib.cell_of_heap R1 2
  have fc0 := Lib.frozen_of_heap R1 0
  have fc1 := Lib.frozen_of_heap R1 1
  have fc2 := Lib.frozen_of_heap R1 2
  have d0 := Lib.cell_of_heap HR5.out 0
  have d1 := Lib.cell_of_heap HR5.out 1
  have d2 := Lib.cell_of_heap HR5.out 2
  simp at c0 c1 c2 d0 d1 d2
  clear R1
  cases mb with
  | false =>
    have HM := HN.out rfl
    subst HM
    subst hw5
    go_wp2
    refine bodyPost_ret (v := .tuple #[.agg #[.string ⟨#[]⟩, .string ⟨#[]⟩, .slice none 0 0], .int .i64 70]) (by simp [results, Tryz.results8, go_sem, c0, c1, c2]) rfl ?_
    exact ⟨_, rfl, ownP_nil _ _ _, (Below.setCell (p := ⟨w.heap.size, 2, none⟩) (Below.setCell (p := ⟨w.heap.size, 1, none⟩) (Below.setCell (p := ⟨w.heap.size, 0, none⟩) (HB2.out.trans (HB5.out.mono (by omega))) (by simp) _) (by simp) _) (by simp) _)⟩
  | true =>
    go_wp2_with fail
    rw [← hw5]
    clear hw5
    refine (HP.out _ _ (OwnP.rd HO5.out)).mono ?_
    rintro e w6 ⟨rfl, hb6⟩
    have HB6 : Hid (Below w2.heap.size w2 w6) := bel_trans HB5.out hb6
    have HO6 : Hid (OwnP 84 w2.heap.size (.slice va (mdP MD).length vc) (mdP MD) w6) := HO5.out.below hb6
    have R6 := (hb6.block _ hz5).trans HR5.out
    have R1 := (HB6.out.block _ hz2).trans HR1.out
    clear c0 c1 c2 fc0 fc1 fc2 d0 d1 d2
    have c0 := Lib.cell_of_heap R1 0
    have c1 := Lib.cell_of_heap R1 1
    have c2 := Lib.cell_of_heap R1 2
    have fc0 := Lib.frozen_of_heap R1 0
    have fc1 := Lib.frozen_of_heap R1 1
    have fc2 := Lib.frozen_of_heap R1 2
    have d0 := Lib.cell_of_heap R6 0
    have d1 := Lib.cell_of_heap R6 1
    have d2 := Lib.cell_of_heap R6 2
    simp at c0 c1 c2 d0 d1 d2
    clear R1 R6 hb6
    cases nv with
    | true =>
      have HM := HV.out rfl
      subst HM
      go_wp2
      refine bodyPost_ret (v := .tuple #[.agg #[.string ⟨#[]⟩, .string ⟨#[]⟩, .slice none 0 0], .int .i64 70]) (by simp [results, Tryz.results8, go_sem, c0, c1, c2]) rfl ?_
      exact ⟨_, rfl, ownP_nil _ _ _, (Below.setCell (p := ⟨w.heap.size, 2, none⟩) (Below.setCell (p := ⟨w.heap.size, 1, none⟩) (Below.setCell (p := ⟨w.heap.size, 0, none⟩) (HB2.out.trans (HB6.out.mono (by omega))) (by simp) _) (by simp) _) (by simp) _)⟩
    | false =>
      have HM := HS.out (by simp)
      have HM0 : Hid (parE PM = 0) := HM.2
      have HM1 : Hid (PM = MD) := HM.1
      clear HM HN HV HS
      have hne : w4.heap.size ≠ w.heap.size := by omega
      go_wp2
      refine bodyPost_ret (v := .tuple #[.agg #[.string (str (mdT MD)), .string (str (mdS MD)), .slice va (mdP MD).length vc], .int .i64 0]) (by simp [results, Tryz.results8, go_sem, c0, c1, c2]) rfl ?_
      rw [HM0.out, HM1.out]
      refine ⟨_, rfl, ?_, (Below.setCell (p := ⟨w.heap.size, 2, none⟩) (Below.setCell (p := ⟨w.heap.size, 1, none⟩) (Below.setCell (p := ⟨w.heap.size, 0, none⟩) (HB2.out.trans (HB6.out.mono (by omega))) (by simp) _) (by simp) _) (by simp) _)⟩
      exact OwnP.mono (OwnP.setBelow (a := ⟨w.heap.size, 2, none⟩) (OwnP.setBelow (a := ⟨w.heap.size, 1, none⟩) (OwnP.setBelow (a := ⟨w.heap.size, 0, none⟩) HO6.out hz2 _) hz2 _) hz2 _) (by omega)

end Ac
end Go.Proofs.YthfckgdaencagaaGreatDoor

/-
  AcceptTold, plain: the media types of some texts.
-/
set_option linter.unusedVariables false
set_option linter.unusedSimpArgs false
namespace Go.Proofs.YthfckgdaencagaaGreatDoor
namespace Ac
open Oc

theorem texts_bulk (ts : List (List UInt8)) (h : bulkstrings ts ≤ 1048576) : ts.length ≤ 1048576 ∧ ∀ x ∈ ts, x.length ≤ 1048576 := by
  unfold bulkstrings at h
  refine ⟨by omega, fun x hx => ?_⟩
  have : x.length ≤ sumL ts := by
    clear h
    induction ts with
    | nil => cases hx
    | cons y ts ih =>
      have e : sumL (y :: ts) = y.length + sumL ts := by unfold sumL; simp
      rcases List.mem_cons.1 hx with rfl | hx
      · omega
      · have := ih hx; omega
  omega
theorem getD_mem (ts : List (List UInt8)) (k : Nat) (h : k < ts.length) : ts.getD k [] ∈ ts := by
  rw [List.getD_eq_getElem?_getD, List.getElem?_eq_getElem h]
  exact List.getElem_mem h
def mdx (x : List UInt8) : Md := ⟨str (mdT (parM x)), str (mdS (parM x)), mdP (parM x)⟩
def okx (x : List UInt8) : Bool := decide (parE (parM x) = 0)
def mds (ts : List (List UInt8)) : List Md := (ts.filter okx).map mdx
def cnt (ts : List (List UInt8)) (k : Nat) : Nat := ((ts.take k).filter okx).length
theorem split_at (ts : List (List UInt8)) (k : Nat) (hk : k < ts.length) : ts = ts.take k ++ ts.getD k [] :: ts.drop (k + 1) := by
  rw [List.getD_eq_getElem?_getD, List.getElem?_eq_getElem hk]
  simp
theorem take_at (ts : List (List UInt8)) (k : Nat) (hk : k < ts.length) : ts.take (k + 1) = ts.take k ++ [ts.getD k []] := by
  rw [List.take_add_one, List.getD_eq_getElem?_getD, List.getElem?_eq_getElem hk]
  rfl
theorem mds_at (ts : List (List UInt8)) (k : Nat) (hk : k < ts.length) (h : okx (ts.getD k []) = true) : nthM (mds ts) (cnt ts k) = mdx (ts.getD k []) := by
  have e := split_at ts k hk
  generalize ts.getD k [] = x at *
  have e2 : mds ts = ((ts.take k).filter okx).map mdx ++ mdx x :: ((ts.drop (k + 1)).filter okx).map mdx := by
    unfold mds
    conv => lhs; rw [e]
    rw [List.filter_append, List.filter_cons_of_pos h, List.map_append, List.map_cons]
  rw [e2]
  unfold nthM cnt
  rw [List.getD_eq_getElem?_getD, List.getElem?_append_right (by simp), List.length_map, Nat.sub_self]
  rfl
theorem cnt_yes (ts : List (List UInt8)) (k : Nat) (hk : k < ts.length) (h : okx (ts.getD k []) = true) : cnt ts (k + 1) = cnt ts k + 1 := by
  unfold cnt
  rw [take_at ts k hk, List.filter_append, List.filter_cons_of_pos h, List.length_append]
  rfl
theorem cnt_no (ts : List (List UInt8)) (k : Nat) (hk : k < ts.length) (h : okx (ts.getD k []) = false) : cnt ts (k + 1) = cnt ts k := by
  unfold cnt
  rw [take_at ts k hk, List.filter_append, List.filter_cons_of_neg (by rw [h]; simp), List.length_append]
  rfl
theorem cnt_all (ts : List (List UInt8)) : cnt ts ts.length = (mds ts).length := by
  unfold cnt mds
  rw [List.take_length, List.length_map]
theorem cnt_le (ts : List (List UInt8)) (k : Nat) : cnt ts k ≤ k := by
  unfold cnt
  have h := List.length_filter_le okx (ts.take k)
  rw [List.length_take] at h
  omega
theorem mds_len (ts : List (List UInt8)) : (mds ts).length ≤ ts.length := by rw [← cnt_all]; exact cnt_le ts _
theorem mdx_ok (l : List UInt8) (hl : l.length ≤ 1048576) : OkMd (mdx l) := by
  have ht : (trim l).length ≤ l.length := trim_len l
  obtain ⟨b1, b2, b3, b4⟩ := med_bd (trim l)
  have hmx : (1048576 : Nat) ≤ maxLen := by unfold maxLen; omega
  unfold OkMd mdx
  dsimp only
  rw [str_size, str_size]
  cases h : parM l with
  | none => exact ⟨Nat.zero_le _, Nat.zero_le _, (fun p hp => by cases hp), Nat.zero_le _⟩
  | some x =>
    have e : med (trim l) = some x := by
      unfold parM at h
      cases hm : med (trim l) with
      | none => rw [hm] at h; cases h
      | some y =>
        rw [hm] at h
        dsimp only at h
        split at h
        · cases h
        · rw [← Option.some.inj h]
    rw [e] at b1 b2 b3 b4
    exact ⟨by omega, by omega, b1.mono (by omega), by omega⟩
theorem mds_ok (ts : List (List UInt8)) (h : ∀ x ∈ ts, x.length ≤ 1048576) : ∀ r ∈ mds ts, OkMd r := by
  intro r hr
  unfold mds at hr
  obtain ⟨x, hx, rfl⟩ := List.mem_map.1 hr
  exact mdx_ok x (h x (List.mem_filter.1 hx).1)
theorem rng_ok (s : ByteArray) (hs : s.size ≤ 1048576) : ∀ r ∈ (rangesR s.data.toList).1.map rng, OkMd r.md := by
  intro r hr
  obtain ⟨x, hx, rfl⟩ := List.mem_map.1 hr
  obtain ⟨l1, l2⟩ := listR_short s.data.toList
  rw [size_list] at l1 l2
  unfold rangesR at hx
  split at hx
  · cases hx
  · obtain ⟨y, hy, rfl⟩ := rgs_mem _ _ hx
    have h2 := l2 y hy
    obtain ⟨b1, b2, b3, b4⟩ := med_bd y
    have hmx : (1048576 : Nat) ≤ maxLen := by unfold maxLen; omega
    unfold OkMd rng
    dsimp only
    rw [str_size, str_size]
    unfold rgR
    split
    · exact ⟨Nat.zero_le _, Nat.zero_le _, (fun p hp => by cases hp), Nat.zero_le _⟩
    · split
      · exact ⟨Nat.zero_le _, Nat.zero_le _, (fun p hp => by cases hp), Nat.zero_le _⟩
      · refine ⟨by dsimp only; omega, by dsimp only; omega, fun p hp => ?_, ?_⟩
        · have := b1 p (List.mem_of_mem_take hp)
          omega
        · show ((mdP (med y)).take _).length ≤ _
          rw [List.length_take]
          omega
/-- Ranges that came out, as ranges that are read. -/
theorem RdRg.of {T T' B : Nat} {v : Value} {ms : List Rw} {xs : List Rx} {W : World} (ho : OwnO T B v ms W) (hl : LikeT T' ms xs W) : RdRg v (xs.map rng) W := by
  obtain ⟨a, c, rfl, h⟩ := RdR2.of ho hl
  refine ⟨a, c, rfl, ?_⟩
  rcases h with h | ⟨g, o, e, hc, hcell⟩
  · exact .inl h
  · refine .inr ⟨g, o, e, hc, fun j hj => ?_⟩
    obtain ⟨c0, c1, u, c2, hp, c3⟩ := hcell j hj
    exact ⟨⟨⟨c0, c1, u, c2, hp, trivial⟩, c3⟩, trivial⟩
theorem keepQQ {T T' B B' : Nat} {v u : Value} {t t' : List Mw} {W w' : World} (ho : OwnQ T B v t W) (hp : OwnQ T' B' u t' W) (hT : T' ≠ T) (hk : ∀ k, k < W.heap.size → v.ownBlock ≠ some k → w'.heap[k]? = W.heap[k]?) : OwnQ T' B' u t' w' := by
  refine ⟨hp.1, ?_⟩
  rcases hp.2 with hn | ⟨g, cap, cur, rfl, hb, hg, rest⟩
  · exact .inl hn
  · refine .inr ⟨g, cap, cur, rfl, hb, ?_, rest⟩
    rw [hk g (Array.getElem?_eq_some_iff.1 hg).1 ?_]
    · exact hg
    · intro e
      rcases ho.2 with ⟨rfl, _⟩ | ⟨g2, cap2, cur2, rfl, _, hg2, _⟩
      · cases e
      · have e' : g2 = g := by simpa [Value.ownBlock] using e
        subst e'
        rw [hg] at hg2
        simp at hg2
        exact hT hg2.2
theorem LikeQ.keep {T T' B : Nat} {v : Value} {t ms : List Mw} {M : List Md} {W w' : World} (h : LikeQ T' ms M W) (ho : OwnQ T B v t W) (hT : T' ≠ T) (hk : ∀ k, k < W.heap.size → v.ownBlock ≠ some k → w'.heap[k]? = W.heap[k]?) : LikeQ T' ms M w' := fun j hj => by
  obtain ⟨h1, h2, h4⟩ := h j hj
  exact ⟨h1, h2, keepQP ho h4 hT hk⟩
theorem OwnQ.lt {T B : Nat} {v : Value} {t : List Mw} {w : World} (h : OwnQ T B v t w) {k : Nat} (e : v.ownBlock = some k) : k < w.heap.size := (World.ownsRow.lt h k e).2
theorem row3 {W : World} {R T : Nat} {a b c : Value} (h : W.heap[R]? = some (.cells #[a, b, c] T (0, 0))) : W.cell? ⟨R, 0, none⟩ = some a ∧ W.cell? ⟨R, 1, none⟩ = some b ∧ W.cell? ⟨R, 2, none⟩ = some c :=
  ⟨by rw [Lib.cell_of_heap h]; rfl, by rw [Lib.cell_of_heap h]; rfl, by rw [Lib.cell_of_heap h]; rfl⟩
theorem infoQa : (Tryz.prog.info? 35).map (fun i => (i.zero, i.size, i.bytes)) = some (some (.agg #[.string ⟨#[]⟩, .string ⟨#[]⟩, .slice none 0 0]), 3, 56) := by kernel_rfl

end Ac
end Go.Proofs.YthfckgdaencagaaGreatDoor
