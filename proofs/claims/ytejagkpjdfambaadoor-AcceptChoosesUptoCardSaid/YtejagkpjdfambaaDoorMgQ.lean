/- Several texts as one. -/
import Derived.Test.YtejagkpjdfambaaDoorMgP
import Derived.Test.YtejagkpjdfambaaDoorMgK
import Derived.Maps.AppendAt
/-
  accept.readMedia, accept.Parse.
-/
set_option linter.unusedVariables false
set_option linter.unusedSimpArgs false
namespace Go.Proofs.YtejagkpjdfambaaDoor
open Go.RowKit Go.Shelf
namespace Ac
open Oc Tg

def mdT (o : Option Med) : List UInt8 := match o with | some x => x.1 | none => []
def mdS (o : Option Med) : List UInt8 := match o with | some x => x.2.1 | none => []
def mdP (o : Option Med) : List Prm := match o with | some x => x.2.2 | none => []
theorem OwnP.setBelow {T B : Nat} {v : Value} {t : List Prm} {w : World} (h : OwnP T B v t w) {a : Addr} (ha : a.block < B) (u : Value) : OwnP T B v t (w.setCell a u) := ownsRow_setCell_below h ha u
theorem cp_bd (l : List UInt8) : EachP l.length (cpP l) ∧ (cpP l).length ≤ l.length ∧ (cpH l).length ≤ l.length := by
  unfold cpP cpH
  cases h : cutP l with
  | none => exact ⟨(fun p hp => by cases hp), Nat.zero_le _, Nat.zero_le _⟩
  | some x =>
    unfold cutP at h
    split at h
    · cases h
      obtain ⟨_, _, b2, b3⟩ := params_bd (l.drop (hdLen l))
      rw [List.length_drop] at b2 b3
      refine ⟨(b2.low).mono (by omega), ?_, ?_⟩
      · show ((paramsR _).1.map lowP).length ≤ _
        rw [List.length_map]; omega
      · show (l.take _).length ≤ _
        rw [List.length_take]; omega
    · cases h
theorem med_none1 (l : List UInt8) (h : (cutP l).isSome = false) : med l = none := by
  unfold med
  cases hc : cutP l with
  | none => rfl
  | some x => rw [hc] at h; cases h
theorem med_none2 (l : List UInt8) (h : isTok (cutA 47 (cpH l)) = false ∨ isTok (cutB 47 (cpH l)) = false) : med l = none := by
  unfold med
  unfold cpH at h
  cases hc : cutP l with
  | none => rfl
  | some x =>
    rw [hc] at h
    dsimp only at h ⊢
    rw [if_neg]
    rw [Bool.and_eq_true]
    rintro ⟨h1, h2⟩
    rw [h1, h2] at h
    rcases h with h | h <;> cases h
theorem med_is (l : List UInt8) (h : (cutP l).isSome = true) (h1 : isTok (cutA 47 (cpH l)) = true) (h2 : isTok (cutB 47 (cpH l)) = true) : med l = some (lower (cutA 47 (cpH l)), lower (cutB 47 (cpH l)), cpP l) := by
  unfold med
  unfold cpH at *
  unfold cpP
  cases hc : cutP l with
  | none => rw [hc] at h; cases h
  | some x =>
    rw [hc] at h1 h2
    dsimp only at h1 h2 ⊢
    rw [if_pos (by rw [h1, h2]; rfl)]

set_option maxRecDepth 100000 in
set_option maxHeartbeats 2000000 in
theorem readMedia_any (s : ByteArray) (hs : s.size ≤ 134217728) (w : World) (hw : Env w) :
    Calls Tryd.prog 28 #[.string s] w fun e w' => ∃ v, e = .returned (.tuple #[.agg #[.string (str (mdT (med s.data.toList))), .string (str (mdS (med s.data.toList))), v], .bool (med s.data.toList).isSome]) ∧ OwnP 60 w.heap.size v (mdP (med s.data.toList)) w' ∧ Below w.heap.size w w' := by
  obtain ⟨w2, hw2⟩ : ∃ w2, w2 = w.alloc (.cells #[.string ⟨#[]⟩, .string ⟨#[]⟩, .slice none 0 0] 25) := ⟨_, rfl⟩
  have HR1 : Hid (w2.heap[w.heap.size]? = some (.cells #[.string ⟨#[]⟩, .string ⟨#[]⟩, .slice none 0 0] 25 (0, 0))) := by
    show _ = _; rw [hw2]; exact heap_alloc_new w _
  have hb2 : Below w.heap.size w w2 := by rw [hw2]; exact (Below.refl _ w).alloc (Nat.le_refl _) _
  have hz2 : w.heap.size < w2.heap.size := by rw [hw2]; simp
  have HB2 : Hid (Below w.heap.size w w2) := hb2
  have HE : Hid (Env w2) := hw.below hb2
  clear hb2 hw
  have HC : Hid (∀ w, Tab w → Calls Tryd.prog 39 #[.string s] w fun e w' => ∃ v, e = .returned (.tuple #[.string (str (cpH s.data.toList)), v, .bool (cutP s.data.toList).isSome]) ∧ OwnP 60 w.heap.size v (cpP s.data.toList) w' ∧ Below w.heap.size w w') := fun w t => cutParams_any s hs w t
  have hcl := (cp_bd s.data.toList).2.2
  rw [size_list] at hcl
  have HX : Hid (∀ w, ML w → Calls Tryd.prog 26 #[.string (str (cpH s.data.toList)), .string ⟨#[47]⟩] w fun e w' => e = .returned (.tuple #[.string (str (cutA 47 (cpH s.data.toList))), .string (str (cutB 47 (cpH s.data.toList))), .bool (has 47 (cpH s.data.toList))]) ∧ Below w.heap.size w w') := fun w h => by
    have := Cut_one (str (cpH s.data.toList)) 47 (by rw [str_size]; omega) w h
    rw [str_list] at this
    exact this
  have la := cutA_len 47 (cpH s.data.toList)
  have lb := cutB_len 47 (cpH s.data.toList)
  have tk : ∀ (l : List UInt8), l.length ≤ 134217728 → ∀ w, Tab w → Calls Tryd.prog 40 #[.string (str l)] w fun e w' => e = .returned (.bool (isTok l)) ∧ Below w.heap.size w w' := fun l hl w t => by
    have := IsToken_any (str l) (by rw [str_size]; unfold maxLen; omega) w t
    rw [str_list] at this
    exact this
  have lw : ∀ (l : List UInt8), l.length ≤ 134217728 → ∀ w, Calls Tryd.prog 41 #[.string (str l)] w fun e w' => e = .returned (.string (str (lower l))) ∧ Below w.heap.size w w' := fun l hl w => by
    have := Lower_any (str l) (by rw [str_size]; unfold maxLen; omega) w
    unfold lowS at this
    rw [str_list] at this
    exact this
  have HTa : Hid (_) := tk (cutA 47 (cpH s.data.toList)) (by omega)
  have HTb : Hid (_) := tk (cutB 47 (cpH s.data.toList)) (by omega)
  have HLa : Hid (_) := lw (cutA 47 (cpH s.data.toList)) (by omega)
  have HLb : Hid (_) := lw (cutB 47 (cpH s.data.toList)) (by omega)
  clear tk lw la lb hcl
  have N1 : Hid ((cutP s.data.toList).isSome = false → med s.data.toList = none) := med_none1 _
  have N2 : Hid (isTok (cutA 47 (cpH s.data.toList)) = false ∨ isTok (cutB 47 (cpH s.data.toList)) = false → med s.data.toList = none) := med_none2 _
  have N3 : Hid ((cutP s.data.toList).isSome = true → isTok (cutA 47 (cpH s.data.toList)) = true → isTok (cutB 47 (cpH s.data.toList)) = true → med s.data.toList = some (lower (cutA 47 (cpH s.data.toList)), lower (cutB 47 (cpH s.data.toList)), cpP s.data.toList)) := med_is _
  generalize med s.data.toList = MD at *
  generalize cutA 47 (cpH s.data.toList) = KA at *
  generalize cutB 47 (cpH s.data.toList) = KB at *
  generalize has 47 (cpH s.data.toList) = KH at *
  generalize cpH s.data.toList = CH at *
  generalize cpP s.data.toList = CP at *
  generalize (cutP s.data.toList).isSome = CB at *
  generalize isTok KA = ta at *
  generalize isTok KB = tb at *
  go_enter Tryd.func28, Tryd.ntmps28
  go_wp2_with fail
  rw [← hw2]
  refine (HC.out _ HE.out.1).mono ?_
  rintro e w3 ⟨v, rfl, ho, hb3⟩
  have HB3 : Hid (Below w2.heap.size w2 w3) := hb3
  have HO3 : Hid (OwnP 60 w2.heap.size v CP w3) := ho
  clear hb3 ho HC
  clear hw2
  go_wp2_with fail
  refine (HX.out _ (HE.out.below HB3.out).2).mono ?_
  rintro e w4 ⟨rfl, hb4⟩
  have HB4 : Hid (Below w2.heap.size w2 w4) := bel_trans HB3.out hb4
  have HO4 : Hid (OwnP 60 w2.heap.size v CP w4) := HO3.out.below hb4
  clear hb4 HX HO3 HB3
  cases CB with
  | false =>
    have R1 := (HB4.out.block _ hz2).trans HR1.out
    have c0 := Lib.cell_of_heap R1 0
    have c1 := Lib.cell_of_heap R1 1
    have c2 := Lib.cell_of_heap R1 2
    have fc0 := Lib.frozen_of_heap R1 0
    have fc1 := Lib.frozen_of_heap R1 1
    have fc2 := Lib.frozen_of_heap R1 2
    simp at c0 c1 c2
    clear R1
    have HM := N1.out rfl
    subst HM
    go_wp2
    refine bodyPost_ret (v := .tuple #[.agg #[.string ⟨#[]⟩, .string ⟨#[]⟩, .slice none 0 0], .bool false]) (by simp [results, Tryd.results28, go_sem, c0, c1, c2]) rfl ?_
    exact ⟨_, rfl, ownP_nil _ _ _, (Below.setCell (p := ⟨w.heap.size, 2, none⟩) (Below.setCell (p := ⟨w.heap.size, 1, none⟩) (Below.setCell (p := ⟨w.heap.size, 0, none⟩) (HB2.out.trans (HB4.out.mono (by omega))) (by simp) _) (by simp) _) (by simp) _)⟩
  | true =>
    go_wp2_with fail
    refine (HTa.out _ (HE.out.below HB4.out).1).mono ?_
    rintro e w5 ⟨rfl, hb5⟩
    have HB5 : Hid (Below w2.heap.size w2 w5) := bel_trans HB4.out hb5
    have HO5 : Hid (OwnP 60 w2.heap.size v CP w5) := HO4.out.below hb5
    clear hb5 HO4 HB4
    cases ta with
    | false =>
      have R1 := (HB5.out.block _ hz2).trans HR1.out
      have c0 := Lib.cell_of_heap R1 0
      have c1 := Lib.cell_of_heap R1 1
      have c2 := Lib.cell_of_heap R1 2
      have fc0 := Lib.frozen_of_heap R1 0
      have fc1 := Lib.frozen_of_heap R1 1
      have fc2 := Lib.frozen_of_heap R1 2
      simp at c0 c1 c2
      clear R1
      have HM := N2.out (.inl rfl)
      subst HM
      go_wp2
      refine bodyPost_ret (v := .tuple #[.agg #[.string ⟨#[]⟩, .string ⟨#[]⟩, .slice none 0 0], .bool false]) (by simp [results, Tryd.results28, go_sem, c0, c1, c2]) rfl ?_
      exact ⟨_, rfl, ownP_nil _ _ _, (Below.setCell (p := ⟨w.heap.size, 2, none⟩) (Below.setCell (p := ⟨w.heap.size, 1, none⟩) (Below.setCell (p := ⟨w.heap.size, 0, none⟩) (HB2.out.trans (HB5.out.mono (by omega))) (by simp) _) (by simp) _) (by simp) _)⟩
    | true =>
      go_wp2_with fail
      refine (HTb.out _ (HE.out.below HB5.out).1).mono ?_
      rintro e w6 ⟨rfl, hb6⟩
      have HB6 : Hid (Below w2.heap.size w2 w6) := bel_trans HB5.out hb6
      have HO6 : Hid (OwnP 60 w2.heap.size v CP w6) := HO5.out.below hb6
      clear hb6 HO5 HB5
      cases tb with
      | false =>
        have R1 := (HB6.out.block _ hz2).trans HR1.out
        have c0 := Lib.cell_of_heap R1 0
        have c1 := Lib.cell_of_heap R1 1
        have c2 := Lib.cell_of_heap R1 2
        have fc0 := Lib.frozen_of_heap R1 0
        have fc1 := Lib.frozen_of_heap R1 1
        have fc2 := Lib.frozen_of_heap R1 2
        simp at c0 c1 c2
        clear R1
        have HM := N2.out (.inr rfl)
        subst HM
        go_wp2
        refine bodyPost_ret (v := .tuple #[.agg #[.string ⟨#[]⟩, .string ⟨#[]⟩, .slice none 0 0], .bool false]) (by simp [results, Tryd.results28, go_sem, c0, c1, c2]) rfl ?_
        exact ⟨_, rfl, ownP_nil _ _ _, (Below.setCell (p := ⟨w.heap.size, 2, none⟩) (Below.setCell (p := ⟨w.heap.size, 1, none⟩) (Below.setCell (p := ⟨w.heap.size, 0, none⟩) (HB2.out.trans (HB6.out.mono (by omega))) (by simp) _) (by simp) _) (by simp) _)⟩
      | true =>
        have HM : MD = some (lower KA, lower KB, CP) := by simpa using N3.out
        subst HM
        go_wp2_with fail
        refine (HLa.out _).mono ?_
        rintro e w7 ⟨rfl, hb7⟩
        have HB7 : Hid (Below w2.heap.size w2 w7) := bel_trans HB6.out hb7
        have HO7 : Hid (OwnP 60 w2.heap.size v CP w7) := HO6.out.below hb7
        clear hb7 HO6 HB6
        go_wp2_with fail
        refine (HLb.out _).mono ?_
        rintro e w8 ⟨rfl, hb8⟩
        have HB8 : Hid (Below w2.heap.size w2 w8) := bel_trans HB7.out hb8
        have HO8 : Hid (OwnP 60 w2.heap.size v CP w8) := HO7.out.below hb8
        clear hb8 HO7 HB7
        have R1 := (HB8.out.block _ hz2).trans HR1.out
        have c0 := Lib.cell_of_heap R1 0
        have c1 := Lib.cell_of_heap R1 1
        have c2 := Lib.cell_of_heap R1 2
        have fc0 := Lib.frozen_of_heap R1 0
        have fc1 := Lib.frozen_of_heap R1 1
        have fc2 := Lib.frozen_of_heap R1 2
        simp at c0 c1 c2
        clear R1
        obtain ⟨va, vc, rfl, _⟩ := OwnP.rd HO8.out
        go_wp2
        refine bodyPost_ret (v := .tuple #[.agg #[.string (str (lower KA)), .string (str (lower KB)), .slice va CP.length vc], .bool true]) (by simp [results, Tryd.results28, go_sem, c0, c1, c2]) rfl ?_
        refine ⟨_, rfl, ?_, (Below.setCell (p := ⟨w.heap.size, 2, none⟩) (Below.setCell (p := ⟨w.heap.size, 1, none⟩) (Below.setCell (p := ⟨w.heap.size, 0, none⟩) (HB2.out.trans (HB8.out.mono (by omega))) (by simp) _) (by simp) _) (by simp) _)⟩
        exact OwnP.mono (OwnP.setBelow (a := ⟨w.heap.size, 2, none⟩) (OwnP.setBelow (a := ⟨w.heap.size, 1, none⟩) (OwnP.setBelow (a := ⟨w.heap.size, 0, none⟩) HO8.out hz2 _) hz2 _) hz2 _) (by omega)

/-- What Parse says: the media type of which each parameter has a value. -/
def parM (l : List UInt8) : Option Med := match med (trim l) with | some x => if x.2.2.any noVal then none else some x | none => none
def parE (o : Option Med) : Int := match o with | some _ => 0 | none => 70
theorem parM_none (l : List UInt8) (h : (med (trim l)).isSome = false) : parM l = none := by
  unfold parM
  cases hm : med (trim l) with
  | none => rfl
  | some x =>
    rw [hm] at h
    cases h
theorem parM_val (l : List UInt8) (h : (mdP (med (trim l))).any noVal = true) : parM l = none := by
  unfold parM
  cases hm : med (trim l) with
  | none => rfl
  | some x =>
    rw [hm] at h
    exact if_pos h
theorem parM_same (l : List UInt8) (h : (med (trim l)).isSome = true ∧ (mdP (med (trim l))).any noVal = false) : parM l = med (trim l) ∧ parE (parM l) = 0 := by
  have e : parM l = med (trim l) := by
    unfold parM
    cases hm : med (trim l) with
    | none => rfl
    | some x =>
      rw [hm] at h
      dsimp only
      rw [if_neg]
      intro h3
      have h2 : x.2.2.any noVal = false := h.2
      rw [h2] at h3
      cases h3
  refine ⟨e, ?_⟩
  rw [e]
  cases hm : med (trim l) with
  | none => rw [hm] at h; cases h.1
  | some x => rfl
theorem med_bd (l : List UInt8) : EachP l.length (mdP (med l)) ∧ (mdP (med l)).length ≤ l.length ∧ (mdT (med l)).length ≤ l.length ∧ (mdS (med l)).length ≤ l.length := by
  have hb := cp_bd l
  unfold cpP cpH at hb
  unfold med
  cases h : cutP l with
  | none => exact ⟨(fun p hp => by cases hp), Nat.zero_le _, Nat.zero_le _, Nat.zero_le _⟩
  | some x =>
    rw [h] at hb
    dsimp only at hb ⊢
    split
    · have h1 := cutA_len 47 x.1
      have h2 := cutB_len 47 x.1
      refine ⟨hb.1, hb.2.1, ?_, ?_⟩
      · show (lower _).length ≤ _
        rw [lower_len]; omega
      · show (lower _).length ≤ _
        rw [lower_len]; omega
    · exact ⟨(fun p hp => by cases hp), Nat.zero_le _, Nat.zero_le _, Nat.zero_le _⟩
theorem trim_len (l : List UInt8) : (trim l).length ≤ l.length := by
  unfold trim trimR trimL
  simp only [List.length_reverse]
  have h1 := (List.dropWhile_sublist blankB (l := (l.dropWhile blankB).reverse)).length_le
  have h2 := (List.dropWhile_sublist blankB (l := l)).length_le
  rw [List.length_reverse] at h1
  omega

set_option maxRecDepth 100000 in
set_option maxHeartbeats 2000000 in
theorem Parse_any (s : ByteArray) (hs : s.size ≤ 134217728) (w : World) (hw : Env w) :
    Calls Tryd.prog 16 #[.string s] w fun e w' => ∃ v, e = .returned (.tuple #[.agg #[.string (str (mdT (parM s.data.toList))), .string (str (mdS (parM s.data.toList))), v], .int .i64 (parE (parM s.data.toList))]) ∧ OwnP 60 w.heap.size v (mdP (parM s.data.toList)) w' ∧ Below w.heap.size w w' := by
  obtain ⟨w2, hw2⟩ : ∃ w2, w2 = w.alloc (.cells #[.string ⟨#[]⟩, .string ⟨#[]⟩, .slice none 0 0] 25) := ⟨_, rfl⟩
  have HR1 : Hid (w2.heap[w.heap.size]? = some (.cells #[.string ⟨#[]⟩, .string ⟨#[]⟩, .slice none 0 0] 25 (0, 0))) := by
    show _ = _; rw [hw2]; exact heap_alloc_new w _
  have hb2 : Below w.heap.size w w2 := by rw [hw2]; exact (Below.refl _ w).alloc (Nat.le_refl _) _
  have hz2 : w.heap.size < w2.heap.size := by rw [hw2]; simp
  have HB2 : Hid (Below w.heap.size w w2) := hb2
  have HE : Hid (Env w2) := hw.below hb2
  clear hb2 hw
  have HT : Hid (∀ w, Calls Tryd.prog 29 #[.string s] w fun e w' => e = .returned (.string (str (trim s.data.toList))) ∧ Below w.heap.size w w') := fun w => Trim_any s (by unfold maxLen; omega) w
  have htl := trim_len s.data.toList
  rw [size_list] at htl
  have HM : Hid (∀ w, Env w → Calls Tryd.prog 28 #[.string (str (trim s.data.toList))] w fun e w' => ∃ v, e = .returned (.tuple #[.agg #[.string (str (mdT (med (trim s.data.toList)))), .string (str (mdS (med (trim s.data.toList)))), v], .bool (med (trim s.data.toList)).isSome]) ∧ OwnP 60 w.heap.size v (mdP (med (trim s.data.toList))) w' ∧ Below w.heap.size w w') := fun w h => by
    have := readMedia_any (str (trim s.data.toList)) (by rw [str_size]; omega) w h
    rw [str_list] at this
    exact this
  obtain ⟨e1, e2, _, _⟩ := med_bd (trim s.data.toList)
  have HP : Hid (∀ v w, RdP v (mdP (med (trim s.data.toList))) w → Calls Tryd.prog 30 #[v] w fun e w' => e = .returned (.bool (!(mdP (med (trim s.data.toList))).any noVal)) ∧ Below w.heap.size w w') := fun v w h => allValued_any v _ (e1.mono (by unfold maxLen; omega)) (by omega) w h
  have HN : Hid ((med (trim s.data.toList)).isSome = false → parM s.data.toList = none) := parM_none _
  have HV : Hid ((mdP (med (trim s.data.toList))).any noVal = true → parM s.data.toList = none) := parM_val _
  have HS : Hid ((med (trim s.data.toList)).isSome = true ∧ (mdP (med (trim s.data.toList))).any noVal = false → parM s.data.toList = med (trim s.data.toList) ∧ parE (parM s.data.toList) = 0) := parM_same _
  clear e1 e2 htl
  generalize parM s.data.toList = PM at *
  generalize med (trim s.data.toList) = MD at *
  generalize MD.isSome = mb at *
  generalize (mdP MD).any noVal = nv at *
  generalize str (trim s.data.toList) = TS at *
  go_enter Tryd.func16, Tryd.ntmps16
  go_wp2_with fail
  rw [← hw2]
  refine (HT.out _).mono ?_
  rintro e w3 ⟨rfl, hb3⟩
  have HB3 : Hid (Below w2.heap.size w2 w3) := hb3
  clear hb3 HT hw2
  go_wp2_with fail
  refine (HM.out _ (HE.out.below HB3.out)).mono ?_
  rintro e w4 ⟨v, rfl, ho, hb4⟩
  have HB4 : Hid (Below w2.heap.size w2 w4) := bel_trans HB3.out hb4
  have HO4 : Hid (OwnP 60 w2.heap.size v (mdP MD) w4) := OwnP.mono ho HB3.out.size
  clear hb4 ho HM HB3
  obtain ⟨va, vc, rfl, _⟩ := OwnP.rd HO4.out
  obtain ⟨w5, hw5⟩ : ∃ w5, w5 = w4.alloc (.cells #[.string (str (mdT MD)), .string (str (mdS MD)), .slice va (mdP MD).length vc] 25) := ⟨_, rfl⟩
  have HR5 : Hid (w5.heap[w4.heap.size]? = some (.cells #[.string (str (mdT MD)), .string (str (mdS MD)), .slice va (mdP MD).length vc] 25 (0, 0))) := by
    show _ = _; rw [hw5]; exact heap_alloc_new w4 _
  have hb5 : Below w4.heap.size w4 w5 := by rw [hw5]; exact (Below.refl _ w4).alloc (Nat.le_refl _) _
  have HB5 : Hid (Below w2.heap.size w2 w5) := bel_trans HB4.out hb5
  have HO5 : Hid (OwnP 60 w2.heap.size (.slice va (mdP MD).length vc) (mdP MD) w5) := HO4.out.below hb5
  have hz5 : w4.heap.size < w5.heap.size := by rw [hw5]; simp
  have hz4 := HB4.out.size
  clear hb5 HO4
  have R1 := (HB5.out.block _ hz2).trans HR1.out
  have c0 := Lib.cell_of_heap R1 0
  have c1 := Lib.cell_of_heap R1 1
  have c2 := Lib.cell_of_heap R1 2
  have fc0 := Lib.frozen_of_heap R1 0
  have fc1 := Lib.frozen_of_heap R1 1
  have fc2 := Lib.frozen_of_heap R1 2
  have d0 := Lib.cell_of_heap HR5.out 0
  have d1 := Lib.cell_of_heap HR5.out 1
  have d2 := Lib.cell_of_heap HR5.out 2
  simp at c0 c1 c2 d0 d1 d2
  clear R1
  cases mb with
  | false =>
    have HM := HN.out rfl
    subst HM
    subst hw5
    go_wp2
    refine bodyPost_ret (v := .tuple #[.agg #[.string ⟨#[]⟩, .string ⟨#[]⟩, .slice none 0 0], .int .i64 70]) (by simp [results, Tryd.results16, go_sem, c0, c1, c2]) rfl ?_
    exact ⟨_, rfl, ownP_nil _ _ _, (Below.setCell (p := ⟨w.heap.size, 2, none⟩) (Below.setCell (p := ⟨w.heap.size, 1, none⟩) (Below.setCell (p := ⟨w.heap.size, 0, none⟩) (HB2.out.trans (HB5.out.mono (by omega))) (by simp) _) (by simp) _) (by simp) _)⟩
  | true =>
    go_wp2_with fail
    rw [← hw5]
    clear hw5
    refine (HP.out _ _ (OwnP.rd HO5.out)).mono ?_
    rintro e w6 ⟨rfl, hb6⟩
    have HB6 : Hid (Below w2.heap.size w2 w6) := bel_trans HB5.out hb6
    have HO6 : Hid (OwnP 60 w2.heap.size (.slice va (mdP MD).length vc) (mdP MD) w6) := HO5.out.below hb6
    have R6 := (hb6.block _ hz5).trans HR5.out
    have R1 := (HB6.out.block _ hz2).trans HR1.out
    clear c0 c1 c2 fc0 fc1 fc2 d0 d1 d2
    have c0 := Lib.cell_of_heap R1 0
    have c1 := Lib.cell_of_heap R1 1
    have c2 := Lib.cell_of_heap R1 2
    have fc0 := Lib.frozen_of_heap R1 0
    have fc1 := Lib.frozen_of_heap R1 1
    have fc2 := Lib.frozen_of_heap R1 2
    have d0 := Lib.cell_of_heap R6 0
    have d1 := Lib.cell_of_heap R6 1
    have d2 := Lib.cell_of_heap R6 2
    simp at c0 c1 c2 d0 d1 d2
    clear R1 R6 hb6
    cases nv with
    | true =>
      have HM := HV.out rfl
      subst HM
      go_wp2
      refine bodyPost_ret (v := .tuple #[.agg #[.string ⟨#[]⟩, .string ⟨#[]⟩, .slice none 0 0], .int .i64 70]) (by simp [results, Tryd.results16, go_sem, c0, c1, c2]) rfl ?_
      exact ⟨_, rfl, ownP_nil _ _ _, (Below.setCell (p := ⟨w.heap.size, 2, none⟩) (Below.setCell (p := ⟨w.heap.size, 1, none⟩) (Below.setCell (p := ⟨w.heap.size, 0, none⟩) (HB2.out.trans (HB6.out.mono (by omega))) (by simp) _) (by simp) _) (by simp) _)⟩
    | false =>
      have HM := HS.out (by simp)
      have HM0 : Hid (parE PM = 0) := HM.2
      have HM1 : Hid (PM = MD) := HM.1
      clear HM HN HV HS
      have hne : w4.heap.size ≠ w.heap.size := by omega
      go_wp2
      refine bodyPost_ret (v := .tuple #[.agg #[.string (str (mdT MD)), .string (str (mdS MD)), .slice va (mdP MD).length vc], .int .i64 0]) (by simp [results, Tryd.results16, go_sem, c0, c1, c2]) rfl ?_
      rw [HM0.out, HM1.out]
      refine ⟨_, rfl, ?_, (Below.setCell (p := ⟨w.heap.size, 2, none⟩) (Below.setCell (p := ⟨w.heap.size, 1, none⟩) (Below.setCell (p := ⟨w.heap.size, 0, none⟩) (HB2.out.trans (HB6.out.mono (by omega))) (by simp) _) (by simp) _) (by simp) _)⟩
      exact OwnP.mono (OwnP.setBelow (a := ⟨w.heap.size, 2, none⟩) (OwnP.setBelow (a := ⟨w.heap.size, 1, none⟩) (OwnP.setBelow (a := ⟨w.heap.size, 0, none⟩) HO6.out hz2 _) hz2 _) hz2 _) (by omega)

end Ac
end Go.Proofs.YtejagkpjdfambaaDoor

/-
  The law's params and alike.
-/
set_option linter.unusedVariables false
set_option linter.unusedSimpArgs false
namespace Go.Proofs.YtejagkpjdfambaaDoor
open Go.RowKit Go.Shelf
namespace Ac
open Oc Tg

set_option maxRecDepth 100000 in
set_option maxHeartbeats 1000000 in
theorem params_any (v1 v2 : Value) (t : List Prm) (w : World) (h1 : RdP v1 t w) (h2 : RdP v2 t w) (hl : t.length ≤ 4294967296) :
    Calls Tryd.prog 36 #[v1, v2] w fun e w' => e = .returned (.bool true) ∧ ∃ n, w' = w.drewN n := by
  obtain ⟨a1, c1, rfl, h1⟩ := h1
  obtain ⟨a2, c2, rfl, h2⟩ := h2
  have hne : ((t.length : Int) != (t.length : Int)) = false := by simp
  go_enter Tryd.func36, Tryd.ntmps36
  go_wp2
  go_loopw [5] (fun i wr => ∃ k : Nat, k ≤ t.length ∧ i = .int .i64 k ∧ Hid (∃ n, wr = w.drewN n)) (fun i _ => t.length - (intOf i).toNat)
  case atStart => exact ⟨0, Nat.zero_le _, rfl, (⟨0, rfl⟩ : ∃ n, w = w.drewN n)⟩
  case round =>
    obtain ⟨k, hk, rfl, hw⟩ := hrel
    obtain ⟨n, rfl⟩ := hw.out
    clear hw
    by_cases hlt : k < t.length
    · rcases h1 with h | ⟨g1, o1, rfl, hc1, hcell1⟩
      · rw [h] at hlt; simp at hlt
      rcases h2 with h | ⟨g2, o2, rfl, hc2, hcell2⟩
      · rw [h] at hlt; simp at hlt
      obtain ⟨p0, p1, p2⟩ := hcell1 k hlt
      obtain ⟨q0, q1, q2⟩ := hcell2 k hlt
      clear hcell1 hcell2
      generalize str (nth t k).1 = x at p0 q0
      generalize str (nth t k).2.1 = y at p1 q1
      generalize (nth t k).2.2 = z at p2 q2
      have hz : (z != z) = false := by simp
      go_wp2_with fail
      go_quiet (fail)
      go_wp2
      go_roundw
      case rel => exact ⟨k + 1, by omega, by go_num, (⟨_, rfl⟩ : ∃ m, w.drewN (n + nq) = w.drewN m)⟩
      case measure => simp [intOf]; omega
    · go_wp2
      go_ret
      exact ⟨rfl, _, rfl⟩

set_option maxRecDepth 100000 in
set_option maxHeartbeats 1000000 in
theorem alike07_any (A B : ByteArray) (v1 v2 : Value) (t : List Prm) (w : World) (h1 : RdP v1 t w) (h2 : RdP v2 t w) (hl : t.length ≤ 4294967296) :
    Calls Tryd.prog 22 #[.agg #[.string A, .string B, v1], .agg #[.string A, .string B, v2]] w fun e w' => e = .returned (.bool true) ∧ Below w.heap.size w w' := by
  have hA : (A.toList == A.toList) = true := by simp
  have hB : (B.toList == B.toList) = true := by simp
  obtain ⟨w2, hw2⟩ : ∃ w2, w2 = (w.alloc (.cells #[.string A, .string B, v1] 25)).alloc (.cells #[.string A, .string B, v2] 33) := ⟨_, rfl⟩
  have hb2 : Below w.heap.size w w2 := by rw [hw2]; exact ((Below.refl _ w).alloc (Nat.le_refl _) _).alloc (by simp) _
  have HP : Hid (Calls Tryd.prog 36 #[v1, v2] w2 fun e w' => e = .returned (.bool true) ∧ ∃ n, w' = w2.drewN n) := params_any v1 v2 t w2 (h1.below hb2) (h2.below hb2) hl
  have HB2 : Hid (Below w.heap.size w w2) := hb2
  obtain ⟨a1, c1, rfl, _⟩ := h1
  obtain ⟨a2, c2, rfl, _⟩ := h2
  clear hb2
  subst hw2
  go_enter Tryd.func22, Tryd.ntmps22
  go_wp2_with fail
  refine HP.out.mono ?_
  rintro e w3 ⟨rfl, n, rfl⟩
  go_wp2
  go_ret
  exact ⟨rfl, bel_trans HB2.out ⟨rfl, rfl, rfl, Nat.le_refl _, fun _ _ => rfl⟩⟩

end Ac
end Go.Proofs.YtejagkpjdfambaaDoor

/-
  The law's media: a media type as the document has it.
-/
set_option linter.unusedVariables false
set_option linter.unusedSimpArgs false
namespace Go.Proofs.YtejagkpjdfambaaDoor
open Go.RowKit Go.Shelf
namespace Ac
open Oc Tg

theorem heap_keep {W : World} {b : Nat} {o o' : Obj} (h : W.heap[b]? = some o) : (W.alloc o').heap[b]? = some o := by
  have hlt : b < W.heap.size := (Array.getElem?_eq_some_iff.1 h).1
  show (W.heap.push o')[b]? = _
  rw [Array.getElem?_push_lt hlt]
  rw [Array.getElem?_eq_getElem hlt] at h
  exact h
theorem heap_newAt (W : World) (o : Obj) (n : Nat) (h : W.heap.size = n) : (W.alloc o).heap[n]? = some o := by
  subst h
  exact heap_alloc_new W o
theorem take_nthM (t : List Prm) (k : Nat) (h : k < t.length) : t.take (k + 1) = t.take k ++ [nth t k] := by
  unfold nth
  rw [List.take_add_one, List.getElem?_eq_getElem h, List.getD_eq_getElem?_getD, List.getElem?_eq_getElem h]; rfl
/-- A parameter appended to a slice of the call's own; every block but the slice's own stays. -/
theorem wp_appP2 {ops : Array Oper} {rest : List Oper} {o : Oper} {a : Act} {Q : Exit → Act → World → Prop} (T S : Nat) (hinfo : (Tryd.prog.info? T).map (fun i => (i.zero, i.size, i.bytes)) = some (some (.agg #[.string ⟨#[]⟩, .string ⟨#[]⟩, .bool false]), 3, 40))
    (hund : Tryd.prog.underlying S = some (.slice T)) (hgd : o.guard = none) (s x : Operand)
    (ho : o.op = .call { callee := .builtin .append, args := #[s, x], argTypes := #[S, S] }) (B : Nat) (v : Value) (t : List Prm) (W : World) (p : Prm) (n1 n2 : ByteArray) (h1 : n1 = str p.1) (h2 : n2 = str p.2.1) (b : Bool) (h3 : b = p.2.2)
    (hs : a.eval s = v) (hown : OwnP T B v t W) (g : Nat) (hx : a.eval x = .slice (some ⟨g, 0, none⟩) 1 1) (hg : g = W.heap.size) (hlen : t.length + 1 ≤ 2147483648) (hB : B ≤ W.heap.size)
    (h : ∀ v' w', OwnP T B v' (t ++ [p]) w' → Below B W w' → (∀ k, k < W.heap.size → v.ownBlock ≠ some k → w'.heap[k]? = W.heap[k]?) → wpList Tryd.prog ops Q rest (a.put o.dst v') w') : wpList Tryd.prog ops Q (o :: rest) a (W.alloc (.cells #[.string n1, .string n2, .bool b] T)) := by
  subst h1 h2 h3 hg
  obtain ⟨i0, hi, hz0, hz1, hz2⟩ := info_parts hinfo
  refine wpList_append_own_at _ hgd s x S ho B T i0 (.agg #[.string ⟨#[]⟩, .string ⟨#[]⟩, .bool false]) 3 40 hund hi hz0 hz1 hz2 rfl (by decide) v t.length _ hs (World.ownsRow.alloc hown _) ⟨W.heap.size, 0, none⟩ 1 1 (enc1 p) hx rfl ?_ ?_ ?_ ?_ ?_ ?_
  · intro j u hj
    unfold enc1 at hj
    match j, hj with
    | 0, hj => simp at hj; subst hj; simp [Addr.add]
    | 1, hj => simp at hj; subst hj; simp [Addr.add]
    | 2, hj => simp at hj; subst hj; simp [Addr.add]
  · intro u hu
    unfold enc1 at hu
    simp at hu
    rcases hu with rfl | rfl | rfl <;> rfl
  · unfold maxLen; omega
  · omega
  · simp; omega
  · intro v' w' h1 h2 _ h4
    refine h v' w' ?_ (((Below.refl B W).alloc hB _).grown h2 (by simp; omega) (fun k hk => (World.ownsRow.lt hown k hk).1)) (fun k hk hne => (h2.block k (by simp; omega) (fun e => hne e.symm)).trans (Lib.alloc_old W _ k hk))
    unfold OwnP
    rw [encP_snoc, List.length_append]
    exact h1
/-- The row's block is none that holds cells of another type. -/
theorem OwnP.notBlk {T B : Nat} {v : Value} {t : List Prm} {w : World} (h : OwnP T B v t w) {k : Nat} {cs : Array Value} {T' : TypeId} {fz : Nat × Nat} (hk : w.heap[k]? = some (.cells cs T' fz)) (hT : T' ≠ T) : v.ownBlock ≠ some k := by
  intro e
  rcases h.2 with ⟨rfl, _⟩ | ⟨g, cap, cur, rfl, _, hg, _⟩
  · cases e
  · have : g = k := by simpa [Value.ownBlock] using e
    subst this
    rw [hk] at hg
    injection hg with hg
    injection hg with _ h2 _
    exact hT h2

theorem OwnP.setOther {T B p j : Nat} {v : Value} {t : List Prm} {w : World} (h : OwnP T B v t w) (hne : v.ownBlock ≠ some p) (u : Value) : OwnP T B v t (w.setCell ⟨p, j, none⟩ u) := by
  refine ⟨h.1, ?_⟩
  rcases h.2 with hn | ⟨g, cap, cur, rfl, hb, hg, rest⟩
  · exact .inl hn
  · refine .inr ⟨g, cap, cur, rfl, hb, ?_, rest⟩
    rw [heap_setCell_other w ⟨p, j, none⟩ g u (fun e => hne (by simpa [Value.ownBlock] using e))]
    exact hg

set_option maxRecDepth 100000 in
set_option maxHeartbeats 4000000 in
theorem media_any (A B : ByteArray) (v : Value) (ps : List Prm) (hl : ps.length ≤ 16777216) (w : World) (hrd : RdP v ps w) :
    Calls Tryd.prog 10 #[.agg #[.string A, .string B, v]] w fun e w' => ∃ u, e = .returned (.agg #[.string A, .string B, u]) ∧ OwnP 61 w.heap.size u ps w' ∧ Below w.heap.size w w' := by
  have HR : Hid (RdP v ps w) := hrd
  obtain ⟨va, vc, rfl, _⟩ := hrd
  obtain ⟨w1, hw1⟩ : ∃ w1, w1 = (((w.alloc (.cells #[.string A, .string B, .slice va ps.length vc] 25)).alloc (.cells #[.string ⟨#[]⟩, .string ⟨#[]⟩, .slice none 0 0] 33)).alloc (.cells #[] 61)).alloc (.cells #[.string A, .string B, .slice (some ⟨w.heap.size + 1 + 1, 0, none⟩) 0 0] 33) := ⟨_, rfl⟩
  have hb1 : Below w.heap.size w w1 := by rw [hw1]; exact ((((Below.refl _ w).alloc (Nat.le_refl _) _).alloc (by simp) _).alloc (by simp; omega) _).alloc (by simp; omega) _
  have hz1 : w1.heap.size = w.heap.size + 4 := by rw [hw1]; simp
  have B0 : Hid (w1.heap[w.heap.size]? = some (.cells #[.string A, .string B, .slice va ps.length vc] 25 (0, 0))) := by
    show _ = _; rw [hw1]; exact heap_keep (heap_keep (heap_keep (heap_alloc_new w _)))
  have B1 : Hid (w1.heap[w.heap.size + 1]? = some (.cells #[.string ⟨#[]⟩, .string ⟨#[]⟩, .slice none 0 0] 33 (0, 0))) := by
    show _ = _; rw [hw1]; exact heap_keep (heap_keep (heap_newAt _ _ _ (by simp)))
  have B2 : Hid (w1.heap[w.heap.size + 1 + 1]? = some (.cells #[] 61 (0, 0))) := by
    show _ = _; rw [hw1]; exact heap_keep (heap_newAt _ _ _ (by simp))
  have B3 : Hid (w1.heap[w.heap.size + 1 + 1 + 1]? = some (.cells #[.string A, .string B, .slice (some ⟨w.heap.size + 1 + 1, 0, none⟩) 0 0] 33 (0, 0))) := by
    show _ = _; rw [hw1]; exact heap_newAt _ _ _ (by simp)
  have O0 : Hid (OwnP 61 (w.heap.size + 1 + 1) (.slice (some ⟨w.heap.size + 1 + 1, 0, none⟩) 0 0) [] w1) := (⟨by simp [encP], .inr ⟨w.heap.size + 1 + 1, 0, #[], rfl, Nat.le_refl _, B2.out, by simp, by decide, by simp, by simp [encP]⟩⟩ : OwnP _ _ _ _ _)
  have HB1 : Hid (Below w.heap.size w w1) := hb1
  clear hb1
  go_enter Tryd.func10, Tryd.ntmps10
  go_wp2
  rw [← hw1]
  clear hw1
  go_loopw [4] (fun iv wr => ∃ (k : Nat) (uv : Value), k ≤ ps.length ∧ iv = .int .i64 k ∧ Hid (wr.heap[w.heap.size]? = some (.cells #[.string A, .string B, .slice va ps.length vc] 25 (0, 0))) ∧ Hid (wr.heap[w.heap.size + 1]? = some (.cells #[.string ⟨#[]⟩, .string ⟨#[]⟩, .slice none 0 0] 33 (0, 0))) ∧ Hid (wr.heap[w.heap.size + 1 + 1 + 1]? = some (.cells #[.string A, .string B, uv] 33 (0, 0))) ∧ Hid (OwnP 61 (w.heap.size + 1 + 1) uv (ps.take k) wr) ∧ Hid (Below w.heap.size w wr) ∧ Hid (w.heap.size + 4 ≤ wr.heap.size)) (fun iv _ => ps.length - (intOf iv).toNat)
  case atStart => exact ⟨0, _, Nat.zero_le _, rfl, B0, B1, B3, O0, HB1, (by omega : w.heap.size + 4 ≤ w1.heap.size)⟩
  case round =>
    obtain ⟨k, uv, hk, rfl, hB0, hB1, hB3, hown, hbl, hsz⟩ := hrel
    obtain ⟨ua, uc, rfl, _⟩ := OwnP.rd hown.out
    have hlkk : (ps.take k).length = k := by rw [List.length_take]; omega
    rw [hlkk] at hB3 hown
    have c2 := Lib.cell_of_heap hB0.out 2
    have d0 := Lib.cell_of_heap hB3.out 0
    have d1 := Lib.cell_of_heap hB3.out 1
    have d2 := Lib.cell_of_heap hB3.out 2
    have fd2 := Lib.frozen_of_heap hB3.out 2
    simp at c2 d0 d1 d2
    by_cases hlt : k < ps.length
    · obtain ⟨a', c', e', hcs⟩ := HR.out.below hbl.out
      injection e' with e1 _ e2
      subst e1 e2
      rcases hcs with h | ⟨g, o, rfl, hlc, hcell⟩
      · rw [h] at hlt; simp at hlt
      obtain ⟨p0, p1, p2⟩ := hcell k hlt
      clear hcell
      have HTk : Hid (ps.take (k + 1) = ps.take k ++ [nth ps k]) := take_nthM ps k hlt
      have hlk : (ps.take k).length + 1 ≤ 2147483648 := by rw [List.length_take]; omega
      generalize nth ps k = p at *
      obtain ⟨pn, pv, pb⟩ := p
      dsimp only at p0 p1 p2
      generalize hn : str pn = n at p0
      generalize hv : str pv = vv at p1
      have HNe : Hid (n = str pn) := hn.symm
      have HVe : Hid (vv = str pv) := hv.symm
      clear hn hv
      obtain ⟨w5, hw5⟩ : ∃ w5, w5 = wr.alloc (.cells #[.string n, .string vv, .bool pb] 60) := ⟨_, rfl⟩
      have E0 : Hid (w5.heap[w.heap.size]? = some (.cells #[.string A, .string B, .slice (some ⟨g, o, none⟩) ps.length vc] 25 (0, 0))) := by show _ = _; rw [hw5]; exact heap_keep hB0.out
      have E1 : Hid (w5.heap[w.heap.size + 1]? = some (.cells #[.string ⟨#[]⟩, .string ⟨#[]⟩, .slice none 0 0] 33 (0, 0))) := by show _ = _; rw [hw5]; exact heap_keep hB1.out
      have E3 : Hid (w5.heap[w.heap.size + 1 + 1 + 1]? = some (.cells #[.string A, .string B, .slice ua k uc] 33 (0, 0))) := by show _ = _; rw [hw5]; exact heap_keep hB3.out
      have O5 : Hid (OwnP 61 (w.heap.size + 1 + 1) (.slice ua k uc) (ps.take k) w5) := by show OwnP _ _ _ _ _; rw [hw5]; exact World.ownsRow.alloc hown.out _
      have HB5 : Hid (Below w.heap.size w w5) := by show Below _ _ _; rw [hw5]; exact hbl.out.alloc hbl.out.size _
      have hz5 : Hid (w.heap.size + 5 ≤ w5.heap.size) := by show _ ≤ _; rw [hw5]; have := hsz.out; simp; omega
      have hB5 : w.heap.size + 1 + 1 ≤ w5.heap.size := by have := hz5.out; omega
      have x0 := Lib.cell_of_heap E3.out 0
      have x1 := Lib.cell_of_heap E3.out 1
      have x2 := Lib.cell_of_heap E3.out 2
      simp only [List.getElem?_toArray, List.getElem?_cons_succ, List.getElem?_cons_zero] at x0 x1 x2
      clear c2 d0 d1 d2 fd2
      have c2 := Lib.cell_of_heap hB0.out 2
      simp at c2
      subst hw5
      go_wp2_with (at_builtin; go_must (refine wp_appP2 61 31 infoP2 Tryd.underlying31 rfl (.tmp 25) (.tmp 33) rfl (w.heap.size + 1 + 1) (.slice ua k uc) (ps.take k) _ (pn, pv, pb) _ _ HNe.out HVe.out _ rfl rfl O5.out _ (by simp [Act.eval, Act.put]) rfl hlk hB5 ?_; intro v7 w7 hown7 hb7 hkeep; have K0 : Hid (w7.heap[w.heap.size]? = some (.cells #[.string A, .string B, .slice (some ⟨g, o, none⟩) ps.length vc] 25 (0, 0))) := (hkeep _ (by have := hz5.out; omega) (OwnP.notBlk O5.out E0.out (by decide))).trans E0.out; have K1 : Hid (w7.heap[w.heap.size + 1]? = some (.cells #[.string ⟨#[]⟩, .string ⟨#[]⟩, .slice none 0 0] 33 (0, 0))) := (hkeep _ (by have := hz5.out; omega) (OwnP.notBlk O5.out E1.out (by decide))).trans E1.out; have K3 : Hid (w7.heap[w.heap.size + 1 + 1 + 1]? = some (.cells #[.string A, .string B, .slice ua k uc] 33 (0, 0))) := (hkeep _ (by have := hz5.out; omega) (OwnP.notBlk O5.out E3.out (by decide))).trans E3.out; have HO7 : Hid (OwnP 61 (w.heap.size + 1 + 1) v7 (ps.take (k + 1)) w7) := (by rw [HTk.out]; exact hown7 : OwnP _ _ _ _ _); have HB7 : Hid (Below w.heap.size w w7) := HB5.out.trans (hb7.mono (by omega)); have hz7 : Hid (w.heap.size + 1 + 1 + 1 < w7.heap.size) := (by have := hz5.out; have := hb7.size; omega : w.heap.size + 1 + 1 + 1 < w7.heap.size); obtain ⟨u7, c7, rfl, _⟩ := OwnP.rd HO7.out; have y2 := Lib.cell_of_heap K3.out 2; have fy2 := Lib.frozen_of_heap K3.out 2; simp only [List.getElem?_toArray, List.getElem?_cons_succ, List.getElem?_cons_zero] at y2; clear hown7 hb7 hkeep))
      go_roundw
      case rel =>
        have HO8 := HO7.out
        rw [List.length_take] at HO8
        refine ⟨k + 1, .slice u7 (min (k + 1) ps.length) c7, by omega, by go_num, ?_, ?_, ?_, ?_, ?_, ?_⟩
        · exact (heap_setCell_other w7 ⟨w.heap.size + 1 + 1 + 1, 2, none⟩ _ _ (by simp; omega)).trans K0.out
        · exact (heap_setCell_other w7 ⟨w.heap.size + 1 + 1 + 1, 2, none⟩ _ _ (by simp)).trans K1.out
        · exact heap_setCell_same w7 _ 2 _ _ _ K3.out
        · exact OwnP.setOther HO8 (OwnP.notBlk HO8 K3.out (by decide)) _
        · exact HB7.out.setCell (by simp; omega) _
        · exact Nat.le_trans (Nat.succ_le_of_lt hz7.out) (by simp)
      case measure => simp [intOf]; omega
    · obtain rfl : k = ps.length := by omega
      rw [List.take_length] at hown
      have e1a := Lib.cell_of_heap hB1.out 0
      have e1b := Lib.cell_of_heap hB1.out 1
      have e1c := Lib.cell_of_heap hB1.out 2
      have f1a := Lib.frozen_of_heap hB1.out 0
      have f1b := Lib.frozen_of_heap hB1.out 1
      have f1c := Lib.frozen_of_heap hB1.out 2
      simp at e1a e1b e1c
      go_wp2
      refine bodyPost_ret (v := .agg #[.string A, .string B, .slice ua ps.length uc]) (by simp [results, Tryd.results10, go_sem, e1a, e1b, e1c]) rfl ?_
      refine ⟨_, rfl, ?_, (Below.setCell (p := ⟨w.heap.size + 1, 2, none⟩) (Below.setCell (p := ⟨w.heap.size + 1, 1, none⟩) (Below.setCell (p := ⟨w.heap.size + 1, 0, none⟩) hbl.out (by simp) _) (by simp) _) (by simp) _)⟩
      exact OwnP.mono (OwnP.setBelow (a := ⟨w.heap.size + 1, 2, none⟩) (OwnP.setBelow (a := ⟨w.heap.size + 1, 1, none⟩) (OwnP.setBelow (a := ⟨w.heap.size + 1, 0, none⟩) hown.out (by simp) _) (by simp) _) (by simp) _) (by omega)

end Ac
end Go.Proofs.YtejagkpjdfambaaDoor
