/-
  accept.cutWeight, weight, readWeight.
-/
import Derived.Test.YthaokkdcebmcpaaDoorAWg
set_option linter.unusedVariables false
set_option linter.unusedSimpArgs false
namespace Go.Proofs.YthaokkdcebmcpaaDoor
open Go.RowKit Go.Shelf
namespace Ac
open Oc Tg

/-- Where the first q stands; else the end. -/
def qAt (ps : List Prm) : Nat := match ps.findIdx? isQ with | some k => k | none => ps.length
theorem idx_qAt (ps : List Prm) : (idxB isQ ps = -1 ∧ qAt ps = ps.length) ∨ (idxB isQ ps = (qAt ps : Nat) ∧ qAt ps < ps.length) := by
  unfold idxB qAt
  cases h : ps.findIdx? isQ with
  | none => left; exact ⟨rfl, rfl⟩
  | some k =>
    right
    rw [List.findIdx?_eq_some_iff_getElem] at h
    exact ⟨rfl, h.1⟩
theorem wq_at (ps : List Prm) : wq ps = match ps.drop (qAt ps) with | [] => (1000, 0) | p :: _ => qual p.2.1 := by
  unfold wq qAt
  cases h : ps.findIdx? isQ with
  | none =>
    have : ps.find? isQ = none := by
      rw [List.find?_eq_none]
      rw [List.findIdx?_eq_none_iff] at h
      intro x hx
      rw [h x hx]; decide
    rw [this, List.drop_length]
  | some k =>
    have hf := h
    rw [List.findIdx?_eq_some_iff_getElem] at h
    obtain ⟨hk, h1, h2⟩ := h
    have : ps.find? isQ = some ps[k] := by
      rw [List.find?_eq_some_iff_getElem]
      exact ⟨h1, k, hk, rfl, fun j hj => by simpa using h2 j hj⟩
    rw [this]
    dsimp only
    rw [List.drop_eq_getElem_cons hk]
theorem RdP.takeN {g o c n : Nat} {ps : List Prm} {w : World} (h : RdP (.slice (some ⟨g, o, none⟩) ps.length c) ps w) (hn : n ≤ ps.length) : RdP (.slice (some ⟨g, o, none⟩) n c) (ps.take n) w := by
  obtain ⟨a, c', e, h⟩ := h
  injection e with e1 _ e2
  subst e1 e2
  have hl : (ps.take n).length = n := by rw [List.length_take]; omega
  refine ⟨_, c, by rw [hl], ?_⟩
  rcases h with h | ⟨g', o', e', hc, hcell⟩
  · left; rw [h]; simp
  · injection e' with e'
    injection e' with e1 e2
    subst e1 e2
    refine .inr ⟨g, o, rfl, by omega, fun j hj => ?_⟩
    rw [hl] at hj
    have := hcell j (by omega)
    have en : nth (ps.take n) j = nth ps j := by
      unfold nth
      rw [List.getD_eq_getElem?_getD, List.getD_eq_getElem?_getD, List.getElem?_take, if_pos hj]
    rw [en]
    exact this
theorem RdP.dropN {g o c n : Nat} {ps : List Prm} {w : World} (h : RdP (.slice (some ⟨g, o, none⟩) ps.length c) ps w) (hn : n ≤ ps.length) : RdP (.slice (some ⟨g, o + n * 3, none⟩) (ps.length - n) (c - n)) (ps.drop n) w := by
  obtain ⟨a, c', e, h⟩ := h
  injection e with e1 _ e2
  subst e1 e2
  have hl : (ps.drop n).length = ps.length - n := by rw [List.length_drop]
  refine ⟨_, _, by rw [hl], ?_⟩
  rcases h with h | ⟨g', o', e', hc, hcell⟩
  · left; rw [h]; simp
  · injection e' with e'
    injection e' with e1 e2
    subst e1 e2
    refine .inr ⟨g, _, rfl, by omega, fun j hj => ?_⟩
    rw [hl] at hj
    have := hcell (n + j) (by omega)
    have en : nth (ps.drop n) j = nth ps (n + j) := by
      unfold nth
      rw [List.getD_eq_getElem?_getD, List.getD_eq_getElem?_getD, List.getElem?_drop]
    rw [en, show o + n * 3 + j * 3 = o + (n + j) * 3 by omega]
    exact this

set_option maxRecDepth 100000 in
set_option maxHeartbeats 1000000 in
theorem cutWeight_any (v : Value) (ps : List Prm) (hM : EachP maxLen ps) (hl : ps.length ≤ 4294967296) (w : World) (hrd : RdP v ps w) :
    Calls Tryd.prog 76 #[v] w fun e w' => ∃ v1 v2, e = .returned (.tuple #[v1, v2]) ∧ RdP v1 (ps.take (qAt ps)) w' ∧ RdP v2 (ps.drop (qAt ps)) w' ∧ Below w.heap.size w w' := by
  have H := IndexFunc_isQ v ps hM hl w hrd
  have HR : Hid (RdP v ps w) := hrd
  rcases idx_qAt ps with ⟨e1, e2⟩ | ⟨e1, e2⟩
  · rw [e1] at H
    have HQ : Hid (qAt ps = ps.length) := e2
    clear e1 e2 hrd
    go_enter Tryd.func76, Tryd.ntmps76
    go_wp2_with fail
    refine H.mono ?_
    rintro e w2 ⟨rfl, hb2⟩
    go_wp2
    go_ret2
    rw [HQ.out, List.take_length, List.drop_length]
    exact ⟨_, _, rfl, HR.out.below hb2, ⟨_, _, rfl, .inl rfl⟩, hb2⟩
  · rw [e1] at H
    clear e1
    obtain ⟨a, c, rfl, hcs⟩ := hrd
    rcases hcs with h | ⟨g, o, rfl, hlc, _⟩
    · rw [h] at e2; simp at e2
    generalize qAt ps = n at *
    have dn : decide (((n : Nat) : Int) < 0) = false := decide_eq_false (by omega)
    go_enter Tryd.func76, Tryd.ntmps76
    go_wp2_with fail
    refine H.mono ?_
    rintro e w2 ⟨rfl, hb2⟩
    have HB2 : Hid (Below w.heap.size w w2) := hb2
    have HR2 : Hid (RdP (.slice (some ⟨g, o, none⟩) ps.length c) ps w2) := HR.out.below hb2
    clear hb2
    go_wp2_with fail
    go_quiet (fail)
    go_wp2
    go_ret2
    have HR3 := HR2.out.below (w' := w2.drewN nq) ⟨rfl, rfl, rfl, Nat.le_refl _, fun _ _ => rfl⟩
    refine ⟨_, _, rfl, Ac.RdP.takeN HR3 (by omega), Ac.RdP.dropN HR3 (by omega), bel_trans HB2.out ⟨rfl, rfl, rfl, Nat.le_refl _, fun _ _ => rfl⟩⟩

set_option maxRecDepth 100000 in
set_option maxHeartbeats 1000000 in
theorem weight_any (v : Value) (ps : List Prm) (hM : EachP 134217728 ps) (hl : ps.length ≤ 4294967296) (w : World) (hrd : RdP v ps w) (hw : ML w) :
    Calls Tryd.prog 77 #[v] w fun e w' => e = .returned (.tuple #[.int .i64 (match ps with | [] => ((1000 : Int), (0 : Int)) | p :: _ => qual p.2.1).1, .int .i64 (match ps with | [] => ((1000 : Int), (0 : Int)) | p :: _ => qual p.2.1).2]) ∧ Below w.heap.size w w' := by
  obtain ⟨a, c, rfl, hcs⟩ := hrd
  cases ps with
  | nil =>
    go_enter Tryd.func77, Tryd.ntmps77
    go_wp2
    go_ret2
    exact ⟨rfl, Below.refl _ _⟩
  | cons p r =>
    rcases hcs with h | ⟨g, o, rfl, hlc, hcell⟩
    · cases h
    obtain ⟨_, p1, _⟩ := hcell 0 (by simp)
    have en : nth (p :: r) 0 = p := rfl
    rw [en, Nat.zero_mul, Nat.add_zero] at p1
    clear hcell
    have hp := (hM p (by simp)).2
    have HQ : Hid (Calls Tryd.prog 16 #[.string (str p.2.1)] w fun e w' => e = .returned (.tuple #[.int .i64 (qual p.2.1).1, .int .i64 (qual p.2.1).2]) ∧ Below w.heap.size w w') := by
      have := Quality_any (str p.2.1) (by rw [str_size]; omega) w hw
      rw [str_list] at this
      exact this
    dsimp only
    have hlen : (((p :: r).length : Nat) : Int) = (r.length : Int) + 1 := by simp
    have hlz : ((((p :: r).length : Nat) : Int) == 0) = false := by simp; omega
    have hl0 : 0 < (p :: r).length := by simp
    clear hw hM
    generalize (qual p.2.1).1 = q1 at *
    generalize (qual p.2.1).2 = q2 at *
    generalize str p.2.1 = S at *
    generalize (p :: r).length = L at *
    go_enter Tryd.func77, Tryd.ntmps77
    go_wp2_with fail
    refine HQ.out.mono ?_
    rintro e w2 ⟨rfl, hb2⟩
    go_wp2
    go_ret2
    exact ⟨rfl, hb2⟩

theorem wt_none1 (l : List UInt8) (h : (cutP l).isSome = false) : wt l = (([], 0), 10) := by
  unfold wt wrd
  cases hc : cutP l with
  | none => rfl
  | some x => rw [hc] at h; cases h
theorem wt_none2 (l : List UInt8) (h : isTok (cpH l) = false) : wt l = (([], 0), 10) := by
  unfold wt wrd
  unfold cpH at h
  cases hc : cutP l with
  | none => rfl
  | some x =>
    rw [hc] at h
    dsimp only at h ⊢
    rw [h]
    rfl
theorem wt_is (l : List UInt8) (h : (cutP l).isSome = true) (h1 : isTok (cpH l) = true) : wt l = if (wq (cpP l)).2 = 0 then ((lower (cpH l), (wq (cpP l)).1), 0) else (([], 0), (wq (cpP l)).2) := by
  unfold wt wrd
  unfold cpH cpP at *
  cases hc : cutP l with
  | none => rw [hc] at h; cases h
  | some x =>
    rw [hc] at h1
    dsimp only at h1 ⊢
    rw [h1]
    rfl

set_option maxRecDepth 100000 in
set_option maxHeartbeats 2000000 in
theorem readWeight_any (s : ByteArray) (hs : s.size ≤ 134217728) (w : World) (hw : Env w) :
    Calls Tryd.prog 50 #[.string s] w fun e w' => e = .returned (.tuple #[.agg #[.string (str (wt s.data.toList).1.1), .int .i64 (wt s.data.toList).1.2], .int .i64 (wt s.data.toList).2]) ∧ Below w.heap.size w w' := by
  obtain ⟨w2, hw2⟩ : ∃ w2, w2 = w.alloc (.cells #[.string ⟨#[]⟩, .int .i64 0] 96) := ⟨_, rfl⟩
  have HR1 : Hid (w2.heap[w.heap.size]? = some (.cells #[.string ⟨#[]⟩, .int .i64 0] 96 (0, 0))) := by
    show _ = _; rw [hw2]; exact heap_alloc_new w _
  have hb2 : Below w.heap.size w w2 := by rw [hw2]; exact (Below.refl _ w).alloc (Nat.le_refl _) _
  have hz2 : w.heap.size < w2.heap.size := by rw [hw2]; simp
  have HB2 : Hid (Below w.heap.size w w2) := hb2
  have HE : Hid (Env w2) := hw.below hb2
  clear hb2 hw
  have HC : Hid (∀ w, Tab w → Calls Tryd.prog 53 #[.string s] w fun e w' => ∃ v, e = .returned (.tuple #[.string (str (cpH s.data.toList)), v, .bool (cutP s.data.toList).isSome]) ∧ OwnP 72 w.heap.size v (cpP s.data.toList) w' ∧ Below w.heap.size w w') := fun w t => cutParams_any s hs w t
  obtain ⟨ce, cl, ch⟩ := cp_bd s.data.toList
  rw [size_list] at ce cl ch
  have HT : Hid (∀ w, Tab w → Calls Tryd.prog 54 #[.string (str (cpH s.data.toList))] w fun e w' => e = .returned (.bool (isTok (cpH s.data.toList))) ∧ Below w.heap.size w w') := fun w t => by
    have := IsToken_any (str (cpH s.data.toList)) (by rw [str_size]; unfold maxLen; omega) w t
    rw [str_list] at this
    exact this
  have HL : Hid (∀ w, Calls Tryd.prog 55 #[.string (str (cpH s.data.toList))] w fun e w' => e = .returned (.string (str (lower (cpH s.data.toList)))) ∧ Below w.heap.size w w') := fun w => by
    have := Lower_any (str (cpH s.data.toList)) (by rw [str_size]; unfold maxLen; omega) w
    unfold lowS at this
    rw [str_list] at this
    exact this
  have HCW : Hid (∀ v w, RdP v (cpP s.data.toList) w → Calls Tryd.prog 76 #[v] w fun e w' => ∃ v1 v2, e = .returned (.tuple #[v1, v2]) ∧ RdP v1 ((cpP s.data.toList).take (qAt (cpP s.data.toList))) w' ∧ RdP v2 ((cpP s.data.toList).drop (qAt (cpP s.data.toList))) w' ∧ Below w.heap.size w w') := fun v w h => cutWeight_any v _ (ce.mono (by unfold maxLen; omega)) (by omega) w h
  have HWt : Hid (∀ v w, RdP v ((cpP s.data.toList).drop (qAt (cpP s.data.toList))) w → ML w → Calls Tryd.prog 77 #[v] w fun e w' => e = .returned (.tuple #[.int .i64 (wq (cpP s.data.toList)).1, .int .i64 (wq (cpP s.data.toList)).2]) ∧ Below w.heap.size w w') := fun v w h hm => by
    have := weight_any v ((cpP s.data.toList).drop (qAt (cpP s.data.toList))) (fun p hp => by have := ce p (List.mem_of_mem_drop hp); omega) (by rw [List.length_drop]; omega) w h hm
    rw [wq_at]
    exact this
  have N1 : Hid ((cutP s.data.toList).isSome = false → wt s.data.toList = (([], 0), 10)) := wt_none1 _
  have N2 : Hid (isTok (cpH s.data.toList) = false → wt s.data.toList = (([], 0), 10)) := wt_none2 _
  have N3 : Hid ((cutP s.data.toList).isSome = true ∧ isTok (cpH s.data.toList) = true → wt s.data.toList = if (wq (cpP s.data.toList)).2 = 0 then ((lower (cpH s.data.toList), (wq (cpP s.data.toList)).1), 0) else (([], 0), (wq (cpP s.data.toList)).2)) := (fun h => wt_is _ h.1 h.2 : _ → _)
  clear ce cl ch
  generalize wt s.data.toList = WT at *
  generalize (wq (cpP s.data.toList)).1 = q1 at *
  generalize (wq (cpP s.data.toList)).2 = q2 at *
  generalize (cpP s.data.toList).drop (qAt (cpP s.data.toList)) = PD at *
  generalize (cpP s.data.toList).take (qAt (cpP s.data.toList)) = PT at *
  generalize cpP s.data.toList = CP at *
  generalize isTok (cpH s.data.toList) = tk at *
  generalize cpH s.data.toList = CH at *
  generalize (cutP s.data.toList).isSome = CB at *
  go_enter Tryd.func50, Tryd.ntmps50
  go_wp2_with fail
  rw [← hw2]
  refine (HC.out _ HE.out.1).mono ?_
  rintro e w3 ⟨v, rfl, ho, hb3⟩
  have HB3 : Hid (Below w2.heap.size w2 w3) := hb3
  have HO3 : Hid (OwnP 72 w2.heap.size v CP w3) := ho
  clear hb3 ho HC hw2
  cases CB with
  | false =>
    have R1 := (HB3.out.block _ hz2).trans HR1.out
    have c0 := Lib.cell_of_heap R1 0
    have c1 := Lib.cell_of_heap R1 1
    have fc0 := Lib.frozen_of_heap R1 0
    have fc1 := Lib.frozen_of_heap R1 1
    simp at c0 c1
    clear R1
    have HM : Hid (WT = (([], 0), 10)) := N1.out rfl
    go_wp2
    refine bodyPost_ret (v := .tuple #[.agg #[.string ⟨#[]⟩, .int .i64 0], .int .i64 10]) (by simp [results, Tryd.results50, go_sem, c0, c1]) rfl ?_
    rw [HM.out]
    exact ⟨rfl, (Below.setCell (p := ⟨w.heap.size, 1, none⟩) (Below.setCell (p := ⟨w.heap.size, 0, none⟩) (HB2.out.trans (HB3.out.mono (by omega))) (by simp) _) (by simp) _)⟩
  | true =>
    go_wp2_with fail
    refine (HT.out _ (HE.out.below HB3.out).1).mono ?_
    rintro e w4 ⟨rfl, hb4⟩
    have HB4 : Hid (Below w2.heap.size w2 w4) := bel_trans HB3.out hb4
    have HO4 : Hid (OwnP 72 w2.heap.size v CP w4) := HO3.out.below hb4
    clear hb4 HO3 HB3
    cases tk with
    | false =>
      have R1 := (HB4.out.block _ hz2).trans HR1.out
      have c0 := Lib.cell_of_heap R1 0
      have c1 := Lib.cell_of_heap R1 1
      have fc0 := Lib.frozen_of_heap R1 0
      have fc1 := Lib.frozen_of_heap R1 1
      simp at c0 c1
      clear R1
      have HM : Hid (WT = (([], 0), 10)) := N2.out rfl
      go_wp2
      refine bodyPost_ret (v := .tuple #[.agg #[.string ⟨#[]⟩, .int .i64 0], .int .i64 10]) (by simp [results, Tryd.results50, go_sem, c0, c1]) rfl ?_
      rw [HM.out]
      exact ⟨rfl, (Below.setCell (p := ⟨w.heap.size, 1, none⟩) (Below.setCell (p := ⟨w.heap.size, 0, none⟩) (HB2.out.trans (HB4.out.mono (by omega))) (by simp) _) (by simp) _)⟩
    | true =>
      have HM : Hid (WT = if q2 = 0 then ((lower CH, q1), 0) else (([], 0), q2)) := N3.out (by simp)
      go_wp2_with fail
      refine (HCW.out _ _ (OwnP.rd HO4.out)).mono ?_
      rintro e w5 ⟨v1, v2, rfl, hr1, hr2, hb5⟩
      have HB5 : Hid (Below w2.heap.size w2 w5) := bel_trans HB4.out hb5
      have HR2 : Hid (RdP v2 PD w5) := hr2
      clear hb5 HO4 HB4 hr1 hr2
      go_wp2_with fail
      refine (HWt.out _ _ HR2.out (HE.out.below HB5.out).2).mono ?_
      rintro e w6 ⟨rfl, hb6⟩
      have HB6 : Hid (Below w2.heap.size w2 w6) := bel_trans HB5.out hb6
      clear hb6 HB5 HR2
      by_cases hq : q2 = 0
      · subst hq
        go_wp2_with fail
        refine (HL.out _).mono ?_
        rintro e w7 ⟨rfl, hb7⟩
        have HB7 : Hid (Below w2.heap.size w2 w7) := bel_trans HB6.out hb7
        clear hb7 HB6
        have R1 := (HB7.out.block _ hz2).trans HR1.out
        have c0 := Lib.cell_of_heap R1 0
        have c1 := Lib.cell_of_heap R1 1
        have fc0 := Lib.frozen_of_heap R1 0
        have fc1 := Lib.frozen_of_heap R1 1
        simp at c0 c1
        clear R1
        go_wp2
        refine bodyPost_ret (v := .tuple #[.agg #[.string (str (lower CH)), .int .i64 q1], .int .i64 0]) (by simp [results, Tryd.results50, go_sem, c0, c1]) rfl ?_
        rw [HM.out, if_pos trivial]
        exact ⟨rfl, (Below.setCell (p := ⟨w.heap.size, 1, none⟩) (Below.setCell (p := ⟨w.heap.size, 0, none⟩) (HB2.out.trans (HB7.out.mono (by omega))) (by simp) _) (by simp) _)⟩
      · have dq : (q2 != 0) = true := by simp [hq]
        have R1 := (HB6.out.block _ hz2).trans HR1.out
        have c0 := Lib.cell_of_heap R1 0
        have c1 := Lib.cell_of_heap R1 1
        have fc0 := Lib.frozen_of_heap R1 0
        have fc1 := Lib.frozen_of_heap R1 1
        simp at c0 c1
        clear R1
        have HM2 : Hid (WT = (([], 0), q2)) := (by rw [HM.out, if_neg hq] : WT = _)
        go_wp2
        refine bodyPost_ret (v := .tuple #[.agg #[.string ⟨#[]⟩, .int .i64 0], .int .i64 q2]) (by simp [results, Tryd.results50, go_sem, c0, c1]) rfl ?_
        rw [HM2.out]
        exact ⟨rfl, (Below.setCell (p := ⟨w.heap.size, 1, none⟩) (Below.setCell (p := ⟨w.heap.size, 0, none⟩) (HB2.out.trans (HB6.out.mono (by omega))) (by simp) _) (by simp) _)⟩

end Ac
end Go.Proofs.YthaokkdcebmcpaaDoor
